/- What bytes numbers of every size have, behind any bytes: the statement WordsPut. No condition. -/
import Derived.Test.YtfnoiijodcmaeaaWdApp
import Derived.Test.YtfnoiijodcmaeaaWdRef
namespace Go.Proofs.Ytfnoiijodcmaeaa.wordsPut
open Go.ChangeShapes Go.WideShapes Go.ChangeAt Go.RowKit
set_option linter.unusedVariables false

theorem own : ownKnob Try.prog.godebug = none := by kernel_rfl
theorem one_list : mk 2 (numF 2 300) = [1, 44] := by decide
theorem one_blk (w : World) : IntBlk (w.alloc (.cells #[.int .u8 1, .int .u8 44] 5)) w.heap.size .u8 5 (mk 2 (numF 2 300)) := by
  rw [one_list]; exact IntBlk.new w .u8 _ [1, 44]
attribute [local irreducible] numF dig valN cat markF
set_option maxRecDepth 100000 in
set_option maxHeartbeats 4000000 in
theorem walk (q : Option Addr) (n cap : Nat) (g : Nat → Nat) (s z : Int) (hg : ∀ i, i < n → g i < 256) (hcap : n ≤ cap) (hn : n ≤ 140737488351232) (hws : (Lit.int .i64 s).wf = true) (hwz : (Lit.int .i64 z).wf = true) (w : World) (hq : BytesAt w q n g) :
    Calls Try.prog 3 #[.slice q n cap, .int .i64 s, .int .i64 z] w fun e w' => e = .returned (.bool true) ∧ Below w.heap.size w w' := by
  have PC := Lib.hid (fun (W : World) => Put_new 0 2 300 (.inr (.inl rfl)) (by unfold fitsN; omega) W)
  have CC := Lib.hid (fun (W : World) (hW : BytesAt W q n g) => Copy_row q n cap g hn W hW)
  have KC := Lib.hid (fun (C : Nat) (W : World) (hW : BytesAt W q n g) hC => Kept_row q n cap C g hn W hW hC)
  have HQ := Lib.hid (fun (W : World) (hb : Below w.heap.size w W) => hq.below hb)
  clear hws hwz hq
  by_cases hl : 65536 < n
  case pos =>
    have d1 : decide ((65536 : Int) < (n : Int)) = true := by simp; omega
    have d2 : decide (65536 < n) = true := by simp; omega
    clear hl hg hcap hn
    go_enter Try.func3, Try.ntmps3
    go_wp2_with (first
      | (go_at_call 10; refine (PC.out _).mono ?_; rintro e w1 ⟨rfl, hr1, hb1⟩
         have B1 := Lib.hid hb1
         have R1 := Lib.hid hr1
         clear PC hb1 hr1)
      | (go_at_call 11
         have a1 : Below w1.heap.size w1 (w1.alloc (.cells #[.int .u8 1, .int .u8 44] 5)) := (Below.refl _ _).alloc (Nat.le_refl _) _
         refine (Same_true (some ⟨w.heap.size, 0, none⟩) 2 2 (some ⟨w1.heap.size, 0, none⟩) 2 _ _ (fun _ _ => rfl) _ (R1.out.below a1 R1.out.lt).bytesAt (one_blk w1).bytesAt).mono ?_
         rintro e w2 ⟨rfl, hw2⟩
         have B2 := Lib.hid (show Below w.heap.size w w2 by rw [← hw2]; exact B1.out.trans (a1.mono B1.out.size))
         clear a1 hw2 R1 B1))
    go_ret
    exact ⟨rfl, B2.out⟩
  case neg =>
    have d1 : decide ((65536 : Int) < (n : Int)) = false := by simp; omega
    have d2 : decide (65536 < n) = false := by simp; omega
    have cases3 : (∃ E : Int, (E == 0) = false ∧ Hid (∀ (C : Nat) (W : World), Calls Try.prog 10 #[.slice (some ⟨C, 0, none⟩) n (n + 2), .int .i64 s, .int .i64 z] W fun e w' => e = .returned (.tuple #[.slice none 0 0, .iface 40 (.int .i64 E)]) ∧ W = w') ∧
        Hid (∀ (W : World), Calls Try.prog 13 #[.int .i64 s, .int .i64 z] W fun e w' => e = .returned (.tuple #[.slice none 0 0, .int .i64 E]) ∧ W = w')) ∨
        (∃ (m : Nat), s = m ∧ Hid (m ≤ 8) ∧ Hid (∀ (C : Nat) (W : World), BytesAt W (some ⟨C, 0, none⟩) n g → Calls Try.prog 10 #[.slice (some ⟨C, 0, none⟩) n (n + 2), .int .i64 m, .int .i64 z] W fun e w' => e = .returned (.tuple #[.slice (some ⟨W.heap.size, 0, none⟩) (n + m) (n + m), .nilIface]) ∧ IntBlk w' W.heap.size .u8 5 (mk (n + m) (cat n g (numF m z))) ∧ Below W.heap.size W w') ∧
        Hid (∀ (W : World), Calls Try.prog 13 #[.int .i64 m, .int .i64 z] W fun e w' => ∃ p c, e = .returned (.tuple #[.slice p m c, .int .i64 0]) ∧ BytesAt w' p m (numF m z) ∧ Below W.heap.size W w')) := by
      by_cases hs : IsSize s
      · obtain ⟨m, rfl⟩ : ∃ m : Nat, s = m := ⟨s.toNat, by unfold IsSize at hs; omega⟩
        by_cases hz : fitsN m z
        · exact .inr ⟨m, rfl, Lib.hid (by unfold IsSize at hs; omega), Lib.hid (fun C W hW => Put_ok _ n _ g m z hs hz hn W hW), Lib.hid (fun W => refNumber_ok m z hs hz W)⟩
        · exact .inl ⟨1, rfl, Lib.hid (fun C W => Put_range _ n _ m z hs hz W), Lib.hid (fun W => refNumber_range m z hs hz W)⟩
      · exact .inl ⟨2, rfl, Lib.hid (fun C W => Put_form _ n _ s z hs W), Lib.hid (fun W => refNumber_size s z hs W)⟩
    have HN := Lib.hid hn
    have HL := Lib.hid (show n ≤ 65536 by omega)
    have HCAP := Lib.hid hcap
    clear hg hcap hn hl
    rcases cases3 with ⟨E, hE, TC, NC⟩ | ⟨m, rfl, M8, TC, NC⟩
    case' inl =>
      have HE := Lib.hid hE
      go_enter Try.func3, Try.ntmps3
      go_wp2_with (first
        | (go_at_call 10; refine (PC.out _).mono ?_; rintro e w1 ⟨rfl, hr1, hb1⟩
           have B1 := Lib.hid hb1
           have R1 := Lib.hid hr1
           clear PC hb1 hr1)
        | (go_at_call 11
           have a1 : Below w1.heap.size w1 (w1.alloc (.cells #[.int .u8 1, .int .u8 44] 5)) := (Below.refl _ _).alloc (Nat.le_refl _) _
           refine (Same_true (some ⟨w.heap.size, 0, none⟩) 2 2 (some ⟨w1.heap.size, 0, none⟩) 2 _ _ (fun _ _ => rfl) _ (R1.out.below a1 R1.out.lt).bytesAt (one_blk w1).bytesAt).mono ?_
           rintro e w2 ⟨rfl, hw2⟩
           have B2 := Lib.hid (show Below w.heap.size w w2 by rw [← hw2]; exact B1.out.trans (a1.mono B1.out.size))
           clear a1 hw2 R1 B1)
        | (go_at_call 12; refine (CC.out _ (HQ.out _ B2.out)).mono ?_; rintro e w3 ⟨rfl, hr3, hb3⟩
           have R3 := Lib.hid hr3
           have L3 := Lib.hid (hr3.bytesAt.low rfl)
           have B3 := Lib.hid (B2.out.trans (hb3.mono B2.out.size))
           have T3 := Lib.hid B2.out.size
           clear CC hr3 hb3 B2)
        | (go_at_call 10; refine (TC.out w2.heap.size _).mono ?_; rintro e w4 ⟨rfl, rfl⟩; clear TC)
        | (go_at_call 13; refine (NC.out _).mono ?_; rintro e w5 ⟨rfl, rfl⟩; clear NC)
        | (go_at_call 11; refine (Same_true none 0 0 none 0 (fun _ => 0) (fun _ => 0) (fun _ _ => rfl) w3 (.inl rfl) (.inl rfl)).mono ?_; rintro e w6 ⟨rfl, rfl⟩)
        | (go_at_call 15; refine (KC.out w2.heap.size _ (HQ.out _ B3.out) R3.out).mono ?_; rintro e w7 ⟨rfl, rfl⟩; clear KC)
        | (go_at_call 14; refine (Num_err E HE.out _).mono ?_; rintro e w8 ⟨rfl, rfl⟩)
        | (refine wpList_lists2 rfl _ _ rfl _ _ _ _ _ _ rfl rfl ?_)
        | (go_at_call 16
           have a7 : Below w3.heap.size w3 (w3.alloc (.cells #[.slice none 0 0, .slice (some ⟨w2.heap.size, 0, none⟩) n (n + 2)] 22)) := (Below.refl _ _).alloc (Nat.le_refl _) _
           refine (Apart_two (w2.heap.size + 1) 0 true (fun _ => 0) w2.heap.size n (markF n g) w.heap.size w3.heap.size _ (.inl ⟨rfl, rfl, rfl⟩) (R3.out.below a7 R3.out.lt) HN.out (Nat.succ_ne_self _) T3.out (Nat.le_trans B3.out.size a7.size) (heap_alloc_new _ _)).mono ?_
           rintro e w9 ⟨rfl, hb9⟩
           have B9 := Lib.hid ((B3.out.trans (a7.mono B3.out.size)).trans hb9)
           clear a7 hb9))
      go_ret
      exact ⟨rfl, B9.out⟩
    case' inr =>
      have CATL := Lib.hid (show ∀ j, j < n → cat n g (numF m z) j = g j from fun j hj => by unfold cat; rw [if_pos hj])
      have CATR := Lib.hid (show ∀ j, cat n g (numF m z) (n + j) = numF m z j from fun j => by unfold cat; rw [if_neg (by omega), Nat.add_sub_cancel_left])
      have HN2 := Lib.hid (show n ≤ 140737488355328 by have := HL.out; omega)
      have HNM := Lib.hid (show n + m ≤ 140737488355328 by have := HL.out; have := M8.out; omega)
      have HNM2 := Lib.hid (show n + m ≤ 140737488351232 by have := HL.out; have := M8.out; omega)
      go_enter Try.func3, Try.ntmps3
      go_wp2_with (first
        | (go_at_call 10; refine (PC.out _).mono ?_; rintro e w1 ⟨rfl, hr1, hb1⟩
           have B1 := Lib.hid hb1
           have R1 := Lib.hid hr1
           clear PC hb1 hr1)
        | (go_at_call 11
           have a1 : Below w1.heap.size w1 (w1.alloc (.cells #[.int .u8 1, .int .u8 44] 5)) := (Below.refl _ _).alloc (Nat.le_refl _) _
           refine (Same_true (some ⟨w.heap.size, 0, none⟩) 2 2 (some ⟨w1.heap.size, 0, none⟩) 2 _ _ (fun _ _ => rfl) _ (R1.out.below a1 R1.out.lt).bytesAt (one_blk w1).bytesAt).mono ?_
           rintro e w2 ⟨rfl, hw2⟩
           have B2 := Lib.hid (show Below w.heap.size w w2 by rw [← hw2]; exact B1.out.trans (a1.mono B1.out.size))
           clear a1 hw2 R1 B1)
        | (go_at_call 12; refine (CC.out _ (HQ.out _ B2.out)).mono ?_; rintro e w3 ⟨rfl, hr3, hb3⟩
           have R3 := Lib.hid hr3
           have L3 := Lib.hid (hr3.bytesAt.low rfl)
           have B3 := Lib.hid (B2.out.trans (hb3.mono B2.out.size))
           have T3 := Lib.hid B2.out.size
           clear CC hr3 hb3 B2)
        | (go_at_call 10; refine (TC.out w2.heap.size _ L3.out).mono ?_; rintro e w4 ⟨rfl, hr4, hb4⟩
           have R4 := Lib.hid (R3.out.below hb4 R3.out.lt)
           have X4 := Lib.hid hr4
           have B4 := Lib.hid (B3.out.trans (hb4.mono B3.out.size))
           have N4 := Lib.hid R3.out.lt
           clear TC hr4 hb4 R3 B3 L3)
        | (go_at_call 13; refine (NC.out _).mono ?_; rintro e w5 ⟨p5, c5, rfl, hr5, hb5⟩
           have a5 : Below w5.heap.size w5 (w5.alloc (.cells #[] 5)) := (Below.refl _ _).alloc (Nat.le_refl _) _
           have b5 := B4.out.trans (hb5.mono B4.out.size)
           obtain ⟨v6, w6, hr6, ho6, hb6⟩ := append_own_run (F := cat n g (numF m z)) (w5.alloc (.cells #[] 5)) 22 (OwnS.empty w5 _ w5.heap.size (Nat.le_refl _)) q n cap (HQ.out _ (b5.trans (a5.mono b5.size))) (fun j hj => by rw [Nat.zero_add]; exact (CATL.out j hj).symm) (by rw [Nat.zero_add]; exact HN2.out) a5.size
           rw [Nat.zero_add] at ho6
           have c6 : Below w5.heap.size w5 w6 := a5.trans hb6
           obtain ⟨p6, d6, hv6, _⟩ := ho6.bytes (Nat.le_refl _)
           subst hv6
           obtain ⟨v7, w7, hr7, ho7, hb7⟩ := append_own_run w6 22 ho6 p5 m c5 (hr5.below c6) (fun j _ => (CATR.out j).symm) HNM.out c6.size
           obtain ⟨p7, d7, hv7, _, _, hB7, _⟩ := ho7.bytes (Nat.le_refl _)
           subst hv7
           have c7 : Below w5.heap.size w5 w7 := c6.trans hb7
           have A6 := Lib.hid hr6; have A7 := Lib.hid hr7; have W7 := Lib.hid hB7
           have B7 := Lib.hid (b5.trans (c7.mono b5.size))
           have R5 := R4.out.below hb5 R4.out.lt
           have R7 := Lib.hid (R5.below c7 R5.lt)
           have X5 := X4.out.below hb5 X4.out.lt
           have X7 := Lib.hid (X5.below c7 X5.lt)
           clear NC hr5 hb5 a5 b5 hr6 ho6 hb6 c6 hr7 ho7 hb7 hB7 c7 R5 X5 R4 X4 B4)
        | (refine wpList_append rfl (.tmp 46) _ _ _ rfl _ _ rfl rfl _ _ A6.out ?_; clear A6)
        | (refine wpList_append rfl (.tmp 48) _ _ _ rfl _ _ rfl rfl _ _ A7.out ?_; clear A7)
        | (go_at_call 11; refine (Same_true (some ⟨w3.heap.size, 0, none⟩) (n + m) (n + m) p7 d7 _ _ (fun _ _ => rfl) w7 X7.out.bytesAt W7.out).mono ?_; rintro e w8 ⟨rfl, rfl⟩; clear W7)
        | (go_at_call 15; refine (KC.out w2.heap.size _ (HQ.out _ B7.out) R7.out).mono ?_; rintro e w7 ⟨rfl, rfl⟩; clear KC)
        | (go_at_call 14; refine (Num_nil _).mono ?_; rintro e w8 ⟨rfl, rfl⟩)
        | (refine wpList_lists2 rfl _ _ rfl _ _ _ _ _ _ rfl rfl ?_)
        | (go_at_call 16
           have a9 : Below w7.heap.size w7 (w7.alloc (.cells #[.slice (some ⟨w3.heap.size, 0, none⟩) (n + m) (n + m), .slice (some ⟨w2.heap.size, 0, none⟩) n (n + 2)] 22)) := (Below.refl _ _).alloc (Nat.le_refl _) _
           refine (Apart_two w3.heap.size (n + m) false (cat n g (numF m z)) w2.heap.size n (markF n g) w.heap.size w7.heap.size _ (.inr ⟨rfl, Nat.le_trans T3.out (Nat.le_of_lt N4.out), Nat.le_refl _, Nat.le_add_right _ _, HNM2.out, X7.out.below a9 X7.out.lt⟩) (R7.out.below a9 R7.out.lt) HN.out (Nat.ne_of_gt N4.out) T3.out (Nat.le_trans B7.out.size a9.size) (heap_alloc_new _ _)).mono ?_
           rintro e w9 ⟨rfl, hb9⟩
           have B9 := Lib.hid ((B7.out.trans (a9.mono B7.out.size)).trans hb9)
           clear a9 hb9))
      go_ret
      exact ⟨rfl, B9.out⟩

theorem laidOut : laidOutB Try.prog = true := by kernel_rfl
set_option maxRecDepth 100000 in
theorem lifted (os : Os) (started : os.Started) (H : Type) (enc : TypeId × Value → H) :
    ReturnsInHanded {} Try.checked os 3 .any (Rows.wordsPutSpec.pre6 enc Try.prog Try.f3 Rows.wordsPutRow.domain false) (Rows.wordsPutSpec.post enc Try.prog Try.f3 false true false false) := by
  refine returnsInHanded_of_change_sized (C := Try.checked) own started (by kernel_rfl) Try.func3
    (ChangeSpec.witness6 (enc := enc) (C := Try.checked) false ⟨#[], #[.slice none 0 0, .int .i64 0, .int .i64 0], []⟩ 8 (by kernel_rfl) (by kernel_rfl) (by kernel_rfl) (by kernel_rfl)) ?_
  intro W base args ds gs before hval0 hW hcnd hsz _
  have hval : ∀ (j : Nat) t v, Try.f3.params[j]? = some t → args[j]? = some v → Value.okWide Try.prog W .any base t v := hval0
  have hW' := hW
  obtain ⟨p, q, hA0, hV, rfl, hfz, hnd⟩ := hW
  have hA : DataW.TrodAll enc Try.prog W 0 (fun _ => true) true Try.f3.params.toList args.toList ds p := hA0
  rw [Try.params3] at hA hval
  obtain ⟨v0, vs0, d0, ds0, p0, q0, hargs, rfl, rfl, h0, r0⟩ := trodAll_cons hA
  obtain ⟨v1, vs1, d1, ds1, p1, q1, rfl, rfl, rfl, h1, r1⟩ := trodAll_cons r0
  obtain ⟨v2, vs2, d2, ds2, p2, q2, rfl, rfl, rfl, h2, r2⟩ := trodAll_cons r1
  obtain ⟨rfl, rfl, rfl⟩ := trodAll_nil r2
  obtain rfl : args = #[v0, v1, v2] := by cases args; simp_all
  obtain ⟨rfl, rfl⟩ := trodVars_none hV
  have k0 := h0
  have lt0 : ∀ x ∈ p0, x.block < W.heap.size := by obtain ⟨m, hm⟩ := k0; exact DataW.trod_lt m _ _ _ hm
  obtain ⟨q0, n0, c0, a0, rfl, w0, y0, l0, m0⟩ := open_byteslice (hval 0 22 v0 rfl rfl) h0
  obtain ⟨a1, rfl, rfl, rfl, w1⟩ := open_int Try.underlying3 (hval 1 3 v1 rfl rfl) h1
  obtain ⟨a2, rfl, rfl, rfl, w2⟩ := open_int Try.underlying3 (hval 2 3 v2 rfl rfl) h2
  have z0 := open_size k0 hsz (j := 0) (by rw [Try.params3]; rfl) rfl
  clear hA0 hval0
  refine (walk q0 n0 c0 a0 a1 a2 w0 l0 z0 w1 w2 W y0).mono fun e W' ⟨he, bel⟩ => ?_
  subst he
  exact ⟨_, rfl, _, _, _, [], _, [], hW', trodAll_mk1 (shut_bool Try.underlying4 _), (trodAll_cons_mk (Below.trod laidOut (by kernel_rfl) (of_decide_eq_true (by kernel_rfl)) k0 bel lt0) (trodAll_cons_mk (shut_int Try.underlying3 w1) (trodAll_cons_mk (shut_int Try.underlying3 w2) trodAll_mk0))), rfl, bel.frame _, fun h => by cases h⟩

theorem over : Rows.wordsPutRow.holds Try.pinned (OpenSpec.ofChange Rows.wordsPutSpec) :=
  OpenClaim.holds_of_wide 3 Try.f3 rfl rfl rfl rfl rfl rfl rfl ⟨rfl, rfl, rfl, rfl, rfl⟩ rfl rfl rfl rfl rfl (by kernel_rfl) Try.func3 (by kernel_rfl)
    (of_decide_eq_true (by kernel_rfl)) (by unfold Func.isWrapper; first | (rw [if_pos (by decide +kernel)]; kernel_rfl) | (rw [if_neg (by decide +kernel)]; exact ⟨rfl, rfl⟩))
    (fun os started H enc _ => lifted os started H enc)

theorem proved : Rows.WordsPutSaid := over
end Go.Proofs.Ytfnoiijodcmaeaa.wordsPut
