/- What is put is taken, and what is taken has no other form: the statement WordsBack. No condition. -/
import Derived.Test.YtfnoiijodcmaeaaWdApp
namespace Go.Proofs.Ytfnoiijodcmaeaa.wordsBack
open Go.ChangeShapes Go.WideShapes Go.ChangeAt Go.RowKit
set_option linter.unusedVariables false

theorem own : ownKnob Try.prog.godebug = none := by kernel_rfl
theorem last_ff : numF 8 (-1) 7 = 255 := by decide
attribute [local irreducible] numF dig valN cat
set_option maxRecDepth 100000 in
set_option maxHeartbeats 4000000 in
theorem walk (s z : Int) (q : Option Addr) (n cap : Nat) (g : Nat → Nat) (hws : (Lit.int .i64 s).wf = true) (hwz : (Lit.int .i64 z).wf = true) (hg : ∀ i, i < n → g i < 256) (hcap : n ≤ cap) (hn : n ≤ 140737488351232) (w : World) (hq : BytesAt w q n g) :
    Calls Try.prog 5 #[.int .i64 s, .int .i64 z, .slice q n cap] w fun e w' => e = .returned (.bool true) ∧ Below w.heap.size w w' := by
  have bz := bounds_i64 hwz
  have PC := Lib.hid (fun (W : World) => Put_new 0 8 (-1) (.inr (.inr (.inr rfl))) (.inl rfl) W)
  have HQ := Lib.hid (fun (W : World) (hb : Below w.heap.size w W) => hq.below hb)
  have B0 := Lib.hid (Below.refl w.heap.size w)
  clear hws hwz hq
  by_cases hs : IsSize s
  case neg =>
    have AC := Lib.hid (fun (W : World) => Put_form none 0 0 s z hs W)
    have TK := Lib.hid (fun (W : World) => Take_size q n cap s hs W)
    clear bz hs hg hcap hn
    go_enter Try.func5, Try.ntmps5
    go_wp2_with (first
      | (go_at_call 10; refine (PC.out _).mono ?_; rintro e w1 ⟨rfl, hr1, hb1⟩
         have c1 := hr1.cell (i := 7) (by rw [mk_len]; omega)
         rw [mk_get (by omega), last_ff] at c1
         have B1 := Lib.hid hb1
         clear PC hb1 hr1 B0)
      | (go_at_call 10; refine (AC.out _).mono ?_; rintro e w2 ⟨rfl, rfl⟩; clear AC)
      | (go_at_call 17; refine (TK.out _).mono ?_; rintro e w6 ⟨rfl, rfl⟩; clear TK))
    go_ret
    exact ⟨rfl, B1.out⟩
  case pos =>
    obtain ⟨m, rfl⟩ : ∃ m : Nat, s = m := ⟨s.toNat, by unfold IsSize at hs; omega⟩
    have SN := Lib.hid (show m + n ≤ 140737488355328 by unfold IsSize at hs; omega)
    have HN := Lib.hid hn
    have tk : (n < m ∧ Hid (∀ W : World, Calls Try.prog 17 #[.slice q n cap, .int .i64 m] W fun e w' => e = .returned (.tuple #[.int .i64 0, .slice none 0 0, .iface 40 (.int .i64 2)]) ∧ W = w')) ∨
        (∃ (k : Nat) (y : Int), Hid (m + k = n) ∧ Hid (∀ W : World, BytesAt W q n g → Calls Try.prog 17 #[.slice q n cap, .int .i64 m] W fun e w' => ∃ D, e = .returned (.tuple #[.int .i64 y, .slice (some ⟨D, 0, none⟩) k k, .nilIface]) ∧ IntBlk w' D .u8 5 (mk k (fun j => g (m + j))) ∧ W.heap.size ≤ D ∧ Below W.heap.size W w') ∧
          Hid (∀ W : World, Calls Try.prog 10 #[.slice none 0 0, .int .i64 m, .int .i64 y] W fun e w' => e = .returned (.tuple #[.slice (some ⟨W.heap.size, 0, none⟩) m m, .nilIface]) ∧ IntBlk w' W.heap.size .u8 5 (mk m (numF m y)) ∧ Below W.heap.size W w') ∧
          Hid (∀ j, j < n → cat m (numF m y) (fun j => g (m + j)) j = g j)) := by
      by_cases hl : n < m
      · exact .inl ⟨hl, Lib.hid (fun W => Take_short q n cap m hs hl W)⟩
      · have hgm : ∀ i, i < m → g i < 256 := fun i hi => hg i (by omega)
        refine .inr ⟨n - m, IntKind.i64.wrap (valN m g : Nat), Lib.hid (by omega), Lib.hid (fun W hW => Take_ok q n cap g hg m hs (by omega) hcap (by omega) W hW), Lib.hid (fun W => Put_new 0 m _ hs (fits_val hs hgm) W), Lib.hid fun j hj => ?_⟩
        unfold cat
        by_cases e : j < m
        · rw [if_pos e, numF_back hs hgm e]
        · rw [if_neg e]; show g (m + (j - m)) = g j; rw [show m + (j - m) = j by omega]
    by_cases hz : fitsN m z
    case neg =>
      have AC := Lib.hid (fun (W : World) => Put_range none 0 0 m z hs hz W)
      clear bz hs hg hcap hn hz
      rcases tk with ⟨_, TK⟩ | ⟨k, y, HSK, TK, PK, HF⟩
      case inl =>
        go_enter Try.func5, Try.ntmps5
        go_wp2_with (first
          | (go_at_call 10; refine (PC.out _).mono ?_; rintro e w1 ⟨rfl, hr1, hb1⟩
             have c1 := hr1.cell (i := 7) (by rw [mk_len]; omega)
             rw [mk_get (by omega), last_ff] at c1
             have B1 := Lib.hid hb1
             clear PC hb1 hr1 B0)
          | (go_at_call 10; refine (AC.out _).mono ?_; rintro e w2 ⟨rfl, rfl⟩; clear AC)
          | (go_at_call 17; refine (TK.out _).mono ?_; rintro e w6 ⟨rfl, rfl⟩; clear TK))
        go_ret
        exact ⟨rfl, B1.out⟩
      case inr =>
        go_enter Try.func5, Try.ntmps5
        go_wp2_with (first
          | (go_at_call 10; refine (PC.out _).mono ?_; rintro e w1 ⟨rfl, hr1, hb1⟩
             have c1 := hr1.cell (i := 7) (by rw [mk_len]; omega)
             rw [mk_get (by omega), last_ff] at c1
             have B1 := Lib.hid hb1
             clear PC hb1 hr1 B0)
          | (go_at_call 10; refine (AC.out _).mono ?_; rintro e w2 ⟨rfl, rfl⟩; clear AC)
          | (go_at_call 17; refine (TK.out _ (HQ.out _ B1.out)).mono ?_; rintro e w6 ⟨D6, rfl, hr6, _, hb6⟩
             have B6 := Lib.hid (B1.out.trans (hb6.mono B1.out.size))
             have R6 := Lib.hid hr6
             clear hr6 hb6 TK B1)
          | (go_at_call 10; refine (PK.out _).mono ?_; rintro e w7 ⟨rfl, hr7, hb7⟩
             have B7 := Lib.hid (B6.out.trans (hb7.mono B6.out.size))
             obtain ⟨p8, c8, w8, hr8, hB8, hc8, hb8⟩ := append_blk 22 hr7 B6.out.size (some ⟨D6, 0, none⟩) k k (fun j => g (m + j)) (R6.out.below hb7 R6.out.lt).bytesAt (by rw [HSK.out]; have := HN.out; omega)
             rw [HSK.out] at hr8 hB8
             have B8 := Lib.hid (B7.out.trans hb8)
             have A8 := Lib.hid hr8
             have R8 := Lib.hid hB8
             clear hr7 hb7 hr8 hB8 hc8 hb8 PK B6 R6)
          | (refine wpList_append rfl (.tmp 84) _ _ _ rfl _ _ rfl rfl _ _ A8.out ?_; clear A8)
          | (go_at_call 11; refine (Same_true p8 n c8 q cap _ _ HF.out w8 R8.out (HQ.out _ B8.out)).mono ?_; rintro e w9 ⟨rfl, rfl⟩; clear R8))
        go_ret
        exact ⟨rfl, B8.out⟩
    case pos =>
      have AC := Lib.hid (fun (W : World) => Put_new 0 m z hs hz W)
      have TC : Hid (∀ (p' : Option Addr) (c' : Nat) (W : World), BytesAt W p' (m + n) (cat m (numF m z) g) → m + n ≤ c' → Calls Try.prog 17 #[.slice p' (m + n) c', .int .i64 m] W fun e w' => ∃ D, e = .returned (.tuple #[.int .i64 z, .slice (some ⟨D, 0, none⟩) n n, .nilIface]) ∧ IntBlk w' D .u8 5 (mk n g) ∧ W.heap.size ≤ D ∧ Below W.heap.size W w') := Lib.hid (fun p' c' W hW hc => by
        have := Take_ok p' (m + n) c' (cat m (numF m z) g) (fun i hi => by
          unfold cat; split
          · exact numF_lt _ _ _
          · exact hg _ (by omega)) m hs (by omega) hc SN.out W hW
        rw [valN_ext (g' := numF m z) m (fun i hi => by unfold cat; rw [if_pos hi]), val_fits hs hz bz, Nat.add_sub_cancel_left, mk_ext (g := g) (fun i hi => by unfold cat; rw [if_neg (by omega), Nat.add_sub_cancel_left])] at this
        exact this)
      clear bz hs hg hcap hn hz
      rcases tk with ⟨_, TK⟩ | ⟨k, y, HSK, TK, PK, HF⟩
      case inl =>
        go_enter Try.func5, Try.ntmps5
        go_wp2_with (first
          | (go_at_call 10; refine (PC.out _).mono ?_; rintro e w1 ⟨rfl, hr1, hb1⟩
             have c1 := hr1.cell (i := 7) (by rw [mk_len]; omega)
             rw [mk_get (by omega), last_ff] at c1
             have B1 := Lib.hid hb1
             clear PC hb1 hr1 B0)
          | (go_at_call 10; refine (AC.out _).mono ?_; rintro e w2 ⟨rfl, hr2, hb2⟩
             have B2 := Lib.hid (B1.out.trans (hb2.mono B1.out.size))
             obtain ⟨p3, c3, w3, hr3, hB3, hc3, hb3⟩ := append_blk 22 hr2 B1.out.size q n cap g (HQ.out _ B2.out) SN.out
             have B3 := Lib.hid (B2.out.trans hb3)
             have A3 := Lib.hid hr3
             have T3 := Lib.hid (TC.out p3 c3 w3 hB3 hc3)
             clear hr2 hb2 hr3 hB3 hc3 hb3 AC TC B1 c1)
          | (refine wpList_append rfl (.tmp 45) _ _ _ rfl _ _ rfl rfl _ _ A3.out ?_; clear A3)
          | (go_at_call 17; refine T3.out.mono ?_; rintro e w4 ⟨D4, rfl, hr4, _, hb4⟩
             have B4 := Lib.hid (B3.out.trans (hb4.mono B3.out.size))
             have R4 := Lib.hid hr4
             clear hr4 hb4 T3 B3)
          | (go_at_call 11; refine (Same_true (some ⟨D4, 0, none⟩) n n q cap _ _ (fun _ _ => rfl) w4 R4.out.bytesAt (HQ.out _ B4.out)).mono ?_; rintro e w5 ⟨rfl, rfl⟩; clear R4)
          | (go_at_call 17; refine (TK.out _).mono ?_; rintro e w6 ⟨rfl, rfl⟩; clear TK))
        go_ret
        exact ⟨rfl, B4.out⟩
      case inr =>
        go_enter Try.func5, Try.ntmps5
        go_wp2_with (first
          | (go_at_call 10; refine (PC.out _).mono ?_; rintro e w1 ⟨rfl, hr1, hb1⟩
             have c1 := hr1.cell (i := 7) (by rw [mk_len]; omega)
             rw [mk_get (by omega), last_ff] at c1
             have B1 := Lib.hid hb1
             clear PC hb1 hr1 B0)
          | (go_at_call 10; refine (AC.out _).mono ?_; rintro e w2 ⟨rfl, hr2, hb2⟩
             have B2 := Lib.hid (B1.out.trans (hb2.mono B1.out.size))
             obtain ⟨p3, c3, w3, hr3, hB3, hc3, hb3⟩ := append_blk 22 hr2 B1.out.size q n cap g (HQ.out _ B2.out) SN.out
             have B3 := Lib.hid (B2.out.trans hb3)
             have A3 := Lib.hid hr3
             have T3 := Lib.hid (TC.out p3 c3 w3 hB3 hc3)
             clear hr2 hb2 hr3 hB3 hc3 hb3 AC TC B1 c1)
          | (refine wpList_append rfl (.tmp 45) _ _ _ rfl _ _ rfl rfl _ _ A3.out ?_; clear A3)
          | (go_at_call 17; refine T3.out.mono ?_; rintro e w4 ⟨D4, rfl, hr4, _, hb4⟩
             have B4 := Lib.hid (B3.out.trans (hb4.mono B3.out.size))
             have R4 := Lib.hid hr4
             clear hr4 hb4 T3 B3)
          | (go_at_call 11; refine (Same_true (some ⟨D4, 0, none⟩) n n q cap _ _ (fun _ _ => rfl) w4 R4.out.bytesAt (HQ.out _ B4.out)).mono ?_; rintro e w5 ⟨rfl, rfl⟩; clear R4)
          | (go_at_call 17; refine (TK.out _ (HQ.out _ B4.out)).mono ?_; rintro e w6 ⟨D6, rfl, hr6, _, hb6⟩
             have B6 := Lib.hid (B4.out.trans (hb6.mono B4.out.size))
             have R6 := Lib.hid hr6
             clear hr6 hb6 TK B4)
          | (go_at_call 10; refine (PK.out _).mono ?_; rintro e w7 ⟨rfl, hr7, hb7⟩
             have B7 := Lib.hid (B6.out.trans (hb7.mono B6.out.size))
             obtain ⟨p8, c8, w8, hr8, hB8, hc8, hb8⟩ := append_blk 22 hr7 B6.out.size (some ⟨D6, 0, none⟩) k k (fun j => g (m + j)) (R6.out.below hb7 R6.out.lt).bytesAt (by rw [HSK.out]; have := HN.out; omega)
             rw [HSK.out] at hr8 hB8
             have B8 := Lib.hid (B7.out.trans hb8)
             have A8 := Lib.hid hr8
             have R8 := Lib.hid hB8
             clear hr7 hb7 hr8 hB8 hc8 hb8 PK B6 R6)
          | (refine wpList_append rfl (.tmp 84) _ _ _ rfl _ _ rfl rfl _ _ A8.out ?_; clear A8)
          | (go_at_call 11; refine (Same_true p8 n c8 q cap _ _ HF.out w8 R8.out (HQ.out _ B8.out)).mono ?_; rintro e w9 ⟨rfl, rfl⟩; clear R8))
        go_ret
        exact ⟨rfl, B8.out⟩

theorem laidOut : laidOutB Try.prog = true := by kernel_rfl
set_option maxRecDepth 100000 in
theorem lifted (os : Os) (started : os.Started) (H : Type) (enc : TypeId × Value → H) :
    ReturnsInHanded {} Try.checked os 5 .any (Rows.wordsBackSpec.pre6 enc Try.prog Try.f5 Rows.wordsBackRow.domain false) (Rows.wordsBackSpec.post enc Try.prog Try.f5 false true false false) := by
  refine returnsInHanded_of_change_sized (C := Try.checked) own started (by kernel_rfl) Try.func5
    (ChangeSpec.witness6 (enc := enc) (C := Try.checked) false ⟨#[], #[.int .i64 0, .int .i64 0, .slice none 0 0], []⟩ 8 (by kernel_rfl) (by kernel_rfl) (by kernel_rfl) (by kernel_rfl)) ?_
  intro W base args ds gs before hval0 hW hcnd hsz _
  have hval : ∀ (j : Nat) t v, Try.f5.params[j]? = some t → args[j]? = some v → Value.okWide Try.prog W .any base t v := hval0
  have hW' := hW
  obtain ⟨p, q, hA0, hV, rfl, hfz, hnd⟩ := hW
  have hA : DataW.TrodAll enc Try.prog W 0 (fun _ => true) true Try.f5.params.toList args.toList ds p := hA0
  rw [Try.params5] at hA hval
  obtain ⟨v0, vs0, d0, ds0, p0, q0, hargs, rfl, rfl, h0, r0⟩ := trodAll_cons hA
  obtain ⟨v1, vs1, d1, ds1, p1, q1, rfl, rfl, rfl, h1, r1⟩ := trodAll_cons r0
  obtain ⟨v2, vs2, d2, ds2, p2, q2, rfl, rfl, rfl, h2, r2⟩ := trodAll_cons r1
  obtain ⟨rfl, rfl, rfl⟩ := trodAll_nil r2
  obtain rfl : args = #[v0, v1, v2] := by cases args; simp_all
  obtain ⟨rfl, rfl⟩ := trodVars_none hV
  obtain ⟨a0, rfl, rfl, rfl, w0⟩ := open_int Try.underlying3 (hval 0 3 v0 rfl rfl) h0
  obtain ⟨a1, rfl, rfl, rfl, w1⟩ := open_int Try.underlying3 (hval 1 3 v1 rfl rfl) h1
  have k2 := h2
  have lt2 : ∀ x ∈ p2, x.block < W.heap.size := by obtain ⟨m, hm⟩ := k2; exact DataW.trod_lt m _ _ _ hm
  obtain ⟨q2, n2, c2, a2, rfl, w2, y2, l2, m2⟩ := open_byteslice (hval 2 22 v2 rfl rfl) h2
  have z2 := open_size k2 hsz (j := 2) (by rw [Try.params5]; rfl) rfl
  clear hA0 hval0
  refine (walk a0 a1 q2 n2 c2 a2 w0 w1 w2 l2 z2 W y2).mono fun e W' ⟨he, bel⟩ => ?_
  subst he
  exact ⟨_, rfl, _, _, _, [], _, [], hW', trodAll_mk1 (shut_bool Try.underlying4 _), (trodAll_cons_mk (shut_int Try.underlying3 w0) (trodAll_cons_mk (shut_int Try.underlying3 w1) (trodAll_cons_mk (Below.trod laidOut (by kernel_rfl) (of_decide_eq_true (by kernel_rfl)) k2 bel lt2) trodAll_mk0))), rfl, bel.frame _, fun h => by cases h⟩

theorem over : Rows.wordsBackRow.holds Try.pinned (OpenSpec.ofChange Rows.wordsBackSpec) :=
  OpenClaim.holds_of_wide 5 Try.f5 rfl rfl rfl rfl rfl rfl rfl ⟨rfl, rfl, rfl, rfl, rfl⟩ rfl rfl rfl rfl rfl (by kernel_rfl) Try.func5 (by kernel_rfl)
    (of_decide_eq_true (by kernel_rfl)) (by unfold Func.isWrapper; first | (rw [if_pos (by decide +kernel)]; kernel_rfl) | (rw [if_neg (by decide +kernel)]; exact ⟨rfl, rfl⟩))
    (fun os started H enc _ => lifted os started H enc)

theorem proved : Rows.WordsBackSaid := over
end Go.Proofs.Ytfnoiijodcmaeaa.wordsBack
