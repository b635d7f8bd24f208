/- Which number any bytes begin with: the statement WordsTake. No condition. -/
import Derived.Test.YtfnoiijodcmaeaaWdApp
import Derived.Test.YtfnoiijodcmaeaaWdRef
namespace Go.Proofs.Ytfnoiijodcmaeaa.wordsTake
open Go.ChangeShapes Go.WideShapes Go.ChangeAt Go.RowKit
set_option linter.unusedVariables false

theorem own : ownKnob Try.prog.godebug = none := by kernel_rfl
def oneG : Nat → Nat := fun j => if j = 0 then 1 else if j = 1 then 44 else 9
theorem oneG_list : mk 3 oneG = [1, 44, 9] := by decide
theorem oneG_val : IntKind.i64.wrap (valN 2 oneG : Nat) = 300 := by decide
theorem oneG_lt : ∀ i, i < 3 → oneG i < 256 := by decide
/-- The example. -/
theorem one_any (w : World) : Calls Try.prog 17 #[.slice (some ⟨w.heap.size, 0, none⟩) 3 3, .int .i64 2] (w.alloc (.cells #[.int .u8 1, .int .u8 44, .int .u8 9] 5)) fun e w' => ∃ D, e = .returned (.tuple #[.int .i64 300, .slice (some ⟨D, 0, none⟩) 1 1, .nilIface]) ∧ Below w.heap.size w w' := by
  have h : IntBlk (w.alloc (.cells #[.int .u8 1, .int .u8 44, .int .u8 9] 5)) w.heap.size .u8 5 (mk 3 oneG) := by
    rw [oneG_list]; exact IntBlk.new w .u8 _ [1, 44, 9]
  refine (Take_ok (some ⟨w.heap.size, 0, none⟩) 3 3 oneG oneG_lt 2 (.inr (.inl rfl)) (by omega) (by omega) (by omega) _ h.bytesAt).mono ?_
  rintro e w' ⟨D, he, _, _, hb⟩
  rw [oneG_val] at he
  exact ⟨D, he, ((Below.refl _ w).alloc (Nat.le_refl _) _).trans (hb.mono (by simp))⟩
attribute [local irreducible] numF dig valN cat markF
set_option maxRecDepth 100000 in
set_option maxHeartbeats 4000000 in
theorem walk (q : Option Addr) (n cap : Nat) (g : Nat → Nat) (s : Int) (hg : ∀ i, i < n → g i < 256) (hcap : n ≤ cap) (hn : n ≤ 140737488351232) (hws : (Lit.int .i64 s).wf = true) (w : World) (hq : BytesAt w q n g) :
    Calls Try.prog 4 #[.slice q n cap, .int .i64 s] w fun e w' => e = .returned (.bool true) ∧ Below w.heap.size w w' := by
  have OC := Lib.hid (one_any w)
  have CC := Lib.hid (fun (W : World) (hW : BytesAt W q n g) => Copy_row q n cap g hn W hW)
  have KC := Lib.hid (fun (C : Nat) (W : World) (hW : BytesAt W q n g) hC => Kept_row q n cap C g hn W hW hC)
  have HQ := Lib.hid (fun (W : World) (hb : Below w.heap.size w W) => hq.below hb)
  have HN := Lib.hid hn
  clear hws hq
  have cases3 : (Hid (∀ (C : Nat) (W : World), Calls Try.prog 17 #[.slice (some ⟨C, 0, none⟩) n (n + 2), .int .i64 s] W fun e w' => e = .returned (.tuple #[.int .i64 0, .slice none 0 0, .iface 40 (.int .i64 2)]) ∧ W = w') ∧
      Hid (∀ (W : World), Calls Try.prog 18 #[.slice q n cap, .int .i64 s] W fun e w' => e = .returned (.tuple #[.int .i64 0, .bool false]) ∧ W = w')) ∨
      (∃ (m : Nat) (y : Int), s = m ∧ Hid (m ≤ n) ∧ Hid (∀ (C : Nat) (W : World), BytesAt W (some ⟨C, 0, none⟩) n g → Calls Try.prog 17 #[.slice (some ⟨C, 0, none⟩) n (n + 2), .int .i64 m] W fun e w' => ∃ D, e = .returned (.tuple #[.int .i64 y, .slice (some ⟨D, 0, none⟩) (n - m) (n - m), .nilIface]) ∧ IntBlk w' D .u8 5 (mk (n - m) (fun j => g (m + j))) ∧ W.heap.size ≤ D ∧ Below W.heap.size W w') ∧
      Hid (∀ (W : World), BytesAt W q n g → Calls Try.prog 18 #[.slice q n cap, .int .i64 m] W fun e w' => e = .returned (.tuple #[.int .i64 y, .bool true]) ∧ W = w')) := by
    by_cases hs : IsSize s
    · obtain ⟨m, rfl⟩ : ∃ m : Nat, s = m := ⟨s.toNat, by unfold IsSize at hs; omega⟩
      by_cases hl : n < m
      · exact .inl ⟨Lib.hid (fun C W => Take_short _ n _ m hs hl W), Lib.hid (fun W => refTake_short q n cap m hs hl W)⟩
      · exact .inr ⟨m, _, rfl, Lib.hid (by omega), Lib.hid (fun C W hW => Take_ok _ n _ g hg m hs (by omega) (by omega) (by omega) W hW), Lib.hid (fun W hW => refTake_ok q n cap g hg m hs (by omega) W hW)⟩
    · exact .inl ⟨Lib.hid (fun C W => Take_size _ n _ s hs W), Lib.hid (fun W => refTake_size q n cap s hs W)⟩
  have HCAP := Lib.hid hcap
  clear hg hcap hn
  rcases cases3 with ⟨TC, RC⟩ | ⟨m, y, rfl, HLE, TC, RC⟩
  case' inl =>
    go_enter Try.func4, Try.ntmps4
    go_wp2_with (first
      | (go_at_call 17; change Calls _ _ _ (w.alloc (.cells #[.int .u8 1, .int .u8 44, .int .u8 9] 5)) _; refine OC.out.mono ?_; rintro e w1 ⟨D1, rfl, hb1⟩
         have B1 := Lib.hid hb1
         clear OC hb1)
      | (go_at_call 12; refine (CC.out _ (HQ.out _ B1.out)).mono ?_; rintro e w2 ⟨rfl, hr2, hb2⟩
         have R2 := Lib.hid hr2
         have L2 := Lib.hid (hr2.bytesAt.low rfl)
         have B2 := Lib.hid (B1.out.trans (hb2.mono B1.out.size))
         have T2 := Lib.hid B1.out.size
         clear CC hr2 hb2 B1)
      | (go_at_call 17; refine (TC.out w1.heap.size _).mono ?_; rintro e w3 ⟨rfl, rfl⟩; clear TC; have B3 := Lib.hid B2.out; have R3 := Lib.hid R2.out)
      | (go_at_call 18; refine (RC.out _).mono ?_; rintro e w4 ⟨rfl, rfl⟩; clear RC)
      | (go_at_call 15; refine (KC.out w1.heap.size _ (HQ.out _ B3.out) R3.out).mono ?_; rintro e w5 ⟨rfl, rfl⟩; clear KC)
      | (go_at_call 19; refine (Is_err 2 rfl _).mono ?_; rintro e w6 ⟨rfl, rfl⟩))
    go_ret
    exact ⟨rfl, B3.out⟩
  case' inr =>
    go_enter Try.func4, Try.ntmps4
    go_wp2_with (first
      | (go_at_call 17; change Calls _ _ _ (w.alloc (.cells #[.int .u8 1, .int .u8 44, .int .u8 9] 5)) _; refine OC.out.mono ?_; rintro e w1 ⟨D1, rfl, hb1⟩
         have B1 := Lib.hid hb1
         clear OC hb1)
      | (go_at_call 12; refine (CC.out _ (HQ.out _ B1.out)).mono ?_; rintro e w2 ⟨rfl, hr2, hb2⟩
         have R2 := Lib.hid hr2
         have L2 := Lib.hid (hr2.bytesAt.low rfl)
         have B2 := Lib.hid (B1.out.trans (hb2.mono B1.out.size))
         have T2 := Lib.hid B1.out.size
         clear CC hr2 hb2 B1)
      | (go_at_call 17; refine (TC.out w1.heap.size _ L2.out).mono ?_; rintro e w3 ⟨D3, rfl, hr3, hd3, hb3⟩
         have R3 := Lib.hid (R2.out.below hb3 R2.out.lt)
         have X3 := Lib.hid hr3
         have N3 := Lib.hid (Nat.lt_of_lt_of_le R2.out.lt hd3)
         have B3 := Lib.hid (B2.out.trans (hb3.mono B2.out.size))
         clear TC hr3 hd3 hb3 R2 B2 L2)
      | (go_at_call 18; refine (RC.out _ (HQ.out _ B3.out)).mono ?_; rintro e w4 ⟨rfl, rfl⟩; clear RC)
      | (go_at_call 15; refine (KC.out w1.heap.size _ (HQ.out _ B3.out) R3.out).mono ?_; rintro e w5 ⟨rfl, rfl⟩; clear KC)
      | (refine wpList_tail rfl (.tmp 68) _ rfl q n cap m m rfl rfl rfl HLE.out HCAP.out ?_; intro p' hp' _; have P4 := Lib.hid (hp' _ _ (HQ.out _ B3.out)); clear hp')
      | (go_at_call 11; refine (Same_true (some ⟨D3, 0, none⟩) (n - m) (n - m) p' (cap - m) _ _ (fun _ _ => rfl) w3 X3.out.bytesAt P4.out).mono ?_; rintro e w6 ⟨rfl, rfl⟩; clear P4)
      | (refine wpList_lists2 rfl _ _ rfl _ _ _ _ _ _ rfl rfl ?_)
      | (go_at_call 16
         have a7 : Below w3.heap.size w3 (w3.alloc (.cells #[.slice (some ⟨D3, 0, none⟩) (n - m) (n - m), .slice (some ⟨w1.heap.size, 0, none⟩) n (n + 2)] 22)) := (Below.refl _ _).alloc (Nat.le_refl _) _
         refine (Apart_two D3 (n - m) false (fun j => g (m + j)) w1.heap.size n (markF n g) w.heap.size w3.heap.size _ (.inr ⟨rfl, Nat.le_trans T2.out (Nat.le_of_lt N3.out), Nat.le_refl _, Nat.le_add_right _ _, Nat.le_trans (Nat.sub_le _ _) HN.out, X3.out.below a7 X3.out.lt⟩) (R3.out.below a7 R3.out.lt) HN.out (Nat.ne_of_gt N3.out) T2.out (Nat.le_trans B3.out.size a7.size) (heap_alloc_new _ _)).mono ?_
         rintro e w8 ⟨rfl, hb8⟩
         have B8 := Lib.hid ((B3.out.trans (a7.mono B3.out.size)).trans hb8)
         clear a7 hb8))
    go_ret
    exact ⟨rfl, B8.out⟩

theorem laidOut : laidOutB Try.prog = true := by kernel_rfl
set_option maxRecDepth 100000 in
theorem lifted (os : Os) (started : os.Started) (H : Type) (enc : TypeId × Value → H) :
    ReturnsInHanded {} Try.checked os 4 .any (Rows.wordsTakeSpec.pre6 enc Try.prog Try.f4 Rows.wordsTakeRow.domain false) (Rows.wordsTakeSpec.post enc Try.prog Try.f4 false true false false) := by
  refine returnsInHanded_of_change_sized (C := Try.checked) own started (by kernel_rfl) Try.func4
    (ChangeSpec.witness6 (enc := enc) (C := Try.checked) false ⟨#[], #[.slice none 0 0, .int .i64 0], []⟩ 8 (by kernel_rfl) (by kernel_rfl) (by kernel_rfl) (by kernel_rfl)) ?_
  intro W base args ds gs before hval0 hW hcnd hsz _
  have hval : ∀ (j : Nat) t v, Try.f4.params[j]? = some t → args[j]? = some v → Value.okWide Try.prog W .any base t v := hval0
  have hW' := hW
  obtain ⟨p, q, hA0, hV, rfl, hfz, hnd⟩ := hW
  have hA : DataW.TrodAll enc Try.prog W 0 (fun _ => true) true Try.f4.params.toList args.toList ds p := hA0
  rw [Try.params4] at hA hval
  obtain ⟨v0, vs0, d0, ds0, p0, q0, hargs, rfl, rfl, h0, r0⟩ := trodAll_cons hA
  obtain ⟨v1, vs1, d1, ds1, p1, q1, rfl, rfl, rfl, h1, r1⟩ := trodAll_cons r0
  obtain ⟨rfl, rfl, rfl⟩ := trodAll_nil r1
  obtain rfl : args = #[v0, v1] := by cases args; simp_all
  obtain ⟨rfl, rfl⟩ := trodVars_none hV
  have k0 := h0
  have lt0 : ∀ x ∈ p0, x.block < W.heap.size := by obtain ⟨m, hm⟩ := k0; exact DataW.trod_lt m _ _ _ hm
  obtain ⟨q0, n0, c0, a0, rfl, w0, y0, l0, m0⟩ := open_byteslice (hval 0 22 v0 rfl rfl) h0
  obtain ⟨a1, rfl, rfl, rfl, w1⟩ := open_int Try.underlying3 (hval 1 3 v1 rfl rfl) h1
  have z0 := open_size k0 hsz (j := 0) (by rw [Try.params4]; rfl) rfl
  clear hA0 hval0
  refine (walk q0 n0 c0 a0 a1 w0 l0 z0 w1 W y0).mono fun e W' ⟨he, bel⟩ => ?_
  subst he
  exact ⟨_, rfl, _, _, _, [], _, [], hW', trodAll_mk1 (shut_bool Try.underlying4 _), (trodAll_cons_mk (Below.trod laidOut (by kernel_rfl) (of_decide_eq_true (by kernel_rfl)) k0 bel lt0) (trodAll_cons_mk (shut_int Try.underlying3 w1) trodAll_mk0)), rfl, bel.frame _, fun h => by cases h⟩

theorem over : Rows.wordsTakeRow.holds Try.pinned (OpenSpec.ofChange Rows.wordsTakeSpec) :=
  OpenClaim.holds_of_wide 4 Try.f4 rfl rfl rfl rfl rfl rfl rfl ⟨rfl, rfl, rfl, rfl, rfl⟩ rfl rfl rfl rfl rfl (by kernel_rfl) Try.func4 (by kernel_rfl)
    (of_decide_eq_true (by kernel_rfl)) (by unfold Func.isWrapper; first | (rw [if_pos (by decide +kernel)]; kernel_rfl) | (rw [if_neg (by decide +kernel)]; exact ⟨rfl, rfl⟩))
    (fun os started H enc _ => lifted os started H enc)

theorem proved : Rows.WordsTakeSaid := over
end Go.Proofs.Ytfnoiijodcmaeaa.wordsTake
