/- Numbers of one size that aren't below 0 are ordered as their bytes: the statement WordsOrder. No condition. -/
import Derived.Test.YtfnoiijodcmaeaaWdApp
namespace Go.Proofs.Ytfnoiijodcmaeaa.wordsOrder
open Go.ChangeShapes Go.WideShapes Go.ChangeAt Go.RowKit
set_option linter.unusedVariables false

theorem own : ownKnob Try.prog.godebug = none := by kernel_rfl
attribute [local irreducible] numF dig valN
set_option maxRecDepth 100000 in
set_option maxHeartbeats 4000000 in
theorem walk (s a b : Int) (hws : (Lit.int .i64 s).wf = true) (hwa : (Lit.int .i64 a).wf = true) (hwb : (Lit.int .i64 b).wf = true) (w : World) :
    Calls Try.prog 9 #[.int .i64 s, .int .i64 a, .int .i64 b] w fun e w' => e = .returned (.bool true) ∧ Below w.heap.size w w' := by
  have ba := bounds_i64 hwa
  have bb := bounds_i64 hwb
  have PC := Lib.hid (fun (W : World) => Put_new 0 2 300 (.inr (.inl rfl)) (by unfold fitsN; omega) W)
  clear hws hwa hwb
  by_cases hs : IsSize s
  · obtain ⟨n, rfl⟩ : ∃ n : Nat, s = n := ⟨s.toNat, by unfold IsSize at hs; omega⟩
    by_cases ha : fitsN n a
    · have AC := Lib.hid (fun (W : World) => Put_new 0 n a hs ha W)
      by_cases hb : fitsN n b
      · have BC := Lib.hid (fun (W : World) => Put_new 0 n b hs hb W)
        by_cases ha0 : a < 0
        · have d1 : decide (a < 0) = true := by simp; omega
          clear ha hb ba bb hs ha0
          go_enter Try.func9, Try.ntmps9
          go_wp2_with (first
            | (go_at_call 10; refine (PC.out _).mono ?_; rintro e w1 ⟨rfl, _, hb1⟩; have B1 := Lib.hid hb1; clear PC hb1)
            | (go_at_call 10; refine (AC.out _).mono ?_; rintro e w2 ⟨rfl, hr2, hb2⟩; have R2 := Lib.hid hr2; have B2 := Lib.hid (B1.out.trans (hb2.mono B1.out.size)); clear AC hb2 hr2 B1)
            | (go_at_call 10; refine (BC.out _).mono ?_; rintro e w3 ⟨rfl, hr3, hb3⟩; have R3 := Lib.hid hr3; have S2 := Lib.hid (R2.out.below hb3 R2.out.lt); have B3 := Lib.hid (B2.out.trans (hb3.mono B2.out.size)); clear BC hb3 hr3 B2 R2))
          go_ret
          exact ⟨rfl, B3.out⟩
        · by_cases hb0 : b < 0
          · have d1 : decide (a < 0) = false := by simp; omega
            have d2 : decide (b < 0) = true := by simp; omega
            clear ha hb ba bb hs ha0 hb0
            go_enter Try.func9, Try.ntmps9
            go_wp2_with (first
              | (go_at_call 10; refine (PC.out _).mono ?_; rintro e w1 ⟨rfl, _, hb1⟩; have B1 := Lib.hid hb1; clear PC hb1)
              | (go_at_call 10; refine (AC.out _).mono ?_; rintro e w2 ⟨rfl, hr2, hb2⟩; have R2 := Lib.hid hr2; have B2 := Lib.hid (B1.out.trans (hb2.mono B1.out.size)); clear AC hb2 hr2 B1)
              | (go_at_call 10; refine (BC.out _).mono ?_; rintro e w3 ⟨rfl, hr3, hb3⟩; have R3 := Lib.hid hr3; have S2 := Lib.hid (R2.out.below hb3 R2.out.lt); have B3 := Lib.hid (B2.out.trans (hb3.mono B2.out.size)); clear BC hb3 hr3 B2 R2))
            go_ret
            exact ⟨rfl, B3.out⟩
          · have d1 : decide (a < 0) = false := by simp; omega
            have d2 : decide (b < 0) = false := by simp; omega
            have LS := num_less hs ha hb (by omega) (by omega) ba.2 bb.2
            clear ha hb ba bb hs ha0 hb0
            go_enter Try.func9, Try.ntmps9
            go_wp2_with (first
              | (go_at_call 10; refine (PC.out _).mono ?_; rintro e w1 ⟨rfl, _, hb1⟩; have B1 := Lib.hid hb1; clear PC hb1)
              | (go_at_call 10; refine (AC.out _).mono ?_; rintro e w2 ⟨rfl, hr2, hb2⟩; have R2 := Lib.hid hr2; have B2 := Lib.hid (B1.out.trans (hb2.mono B1.out.size)); clear AC hb2 hr2 B1)
              | (go_at_call 10; refine (BC.out _).mono ?_; rintro e w3 ⟨rfl, hr3, hb3⟩; have R3 := Lib.hid hr3; have S2 := Lib.hid (R2.out.below hb3 R2.out.lt); have B3 := Lib.hid (B2.out.trans (hb3.mono B2.out.size)); clear BC hb3 hr3 B2 R2)
              | (refine wpList_string_w rfl (.tmp 61) rfl _ n n rfl (numF n a) S2.out.bytesAt ?_)
              | (refine wpList_string_w rfl (.tmp 63) rfl _ n n rfl (numF n b) R3.out.bytesAt ?_))
            go_ret
            exact ⟨rfl, B3.out⟩
      · have BC := Lib.hid (fun (W : World) => Put_range none 0 0 n b hs hb W)
        clear ha hb ba bb hs
        go_enter Try.func9, Try.ntmps9
        go_wp2_with (first
          | (go_at_call 10; refine (PC.out _).mono ?_; rintro e w1 ⟨rfl, _, hb1⟩; have B1 := Lib.hid hb1; clear PC hb1)
          | (go_at_call 10; refine (AC.out _).mono ?_; rintro e w2 ⟨rfl, hr2, hb2⟩; have R2 := Lib.hid hr2; have B2 := Lib.hid (B1.out.trans (hb2.mono B1.out.size)); clear AC hb2 hr2 B1)
          | (go_at_call 10; refine (BC.out _).mono ?_; rintro e w3 ⟨rfl, rfl⟩; clear BC))
        go_ret
        exact ⟨rfl, B2.out⟩
    · have AC := Lib.hid (fun (W : World) => Put_range none 0 0 n a hs ha W)
      have BC : Hid (∀ W : World, Calls Try.prog 10 #[.slice none 0 0, .int .i64 n, .int .i64 b] W fun e w' => (∃ v x, e = .returned (.tuple #[v, x])) ∧ Below W.heap.size W w') := Lib.hid (fun W => by
        by_cases hb : fitsN n b
        · exact (Put_new 0 n b hs hb W).mono fun e w' h => ⟨⟨_, _, h.1⟩, h.2.2⟩
        · exact (Put_range none 0 0 n b hs hb W).mono fun e w' h => ⟨⟨_, _, h.1⟩, by rw [← h.2]; exact Below.refl _ _⟩)
      clear ha ba bb hs
      go_enter Try.func9, Try.ntmps9
      go_wp2_with (first
        | (go_at_call 10; refine (PC.out _).mono ?_; rintro e w1 ⟨rfl, _, hb1⟩; have B1 := Lib.hid hb1; clear PC hb1)
        | (go_at_call 10; refine (AC.out _).mono ?_; rintro e w2 ⟨rfl, rfl⟩; clear AC)
        | (go_at_call 10; refine (BC.out _).mono ?_; rintro e w3 ⟨⟨v3, x3, rfl⟩, hb3⟩; have B3 := Lib.hid (B1.out.trans (hb3.mono B1.out.size)); clear BC hb3 B1))
      go_ret
      exact ⟨rfl, B3.out⟩
  · have AC := Lib.hid (fun (W : World) => Put_form none 0 0 s a hs W)
    have BC := Lib.hid (fun (W : World) => Put_form none 0 0 s b hs W)
    clear ba bb hs
    go_enter Try.func9, Try.ntmps9
    go_wp2_with (first
      | (go_at_call 10; refine (PC.out _).mono ?_; rintro e w1 ⟨rfl, _, hb1⟩; have B1 := Lib.hid hb1; clear PC hb1)
      | (go_at_call 10; refine (AC.out _).mono ?_; rintro e w2 ⟨rfl, rfl⟩; clear AC)
      | (go_at_call 10; refine (BC.out _).mono ?_; rintro e w3 ⟨rfl, rfl⟩; clear BC))
    go_ret
    exact ⟨rfl, B1.out⟩

set_option maxRecDepth 100000 in
theorem lifted (os : Os) (started : os.Started) (H : Type) (enc : TypeId × Value → H) :
    ReturnsInHanded {} Try.checked os 9 .any (Rows.wordsOrderSpec.pre6 enc Try.prog Try.f9 Rows.wordsOrderRow.domain false) (Rows.wordsOrderSpec.post enc Try.prog Try.f9 false true false false) := by
  refine returnsInHanded_of_change (C := Try.checked) own started (by kernel_rfl) Try.func9
    (ChangeSpec.witness6 (enc := enc) (C := Try.checked) false ⟨#[], #[.int .i64 0, .int .i64 0, .int .i64 0], []⟩ 8 (by kernel_rfl) (by kernel_rfl) (by kernel_rfl) (by kernel_rfl)) ?_
  intro W base args ds gs before hval0 hW hcnd _
  have hval : ∀ (j : Nat) t v, Try.f9.params[j]? = some t → args[j]? = some v → Value.okWide Try.prog W .any base t v := hval0
  have hW' := hW
  obtain ⟨p, q, hA0, hV, rfl, hfz, hnd⟩ := hW
  have hA : DataW.TrodAll enc Try.prog W 0 (fun _ => true) true Try.f9.params.toList args.toList ds p := hA0
  rw [Try.params9] at hA hval
  obtain ⟨v0, vs0, d0, ds0, p0, q0, hargs, rfl, rfl, h0, r0⟩ := trodAll_cons hA
  obtain ⟨v1, vs1, d1, ds1, p1, q1, rfl, rfl, rfl, h1, r1⟩ := trodAll_cons r0
  obtain ⟨v2, vs2, d2, ds2, p2, q2, rfl, rfl, rfl, h2, r2⟩ := trodAll_cons r1
  obtain ⟨rfl, rfl, rfl⟩ := trodAll_nil r2
  obtain rfl : args = #[v0, v1, v2] := by cases args; simp_all
  obtain ⟨rfl, rfl⟩ := trodVars_none hV
  obtain ⟨a0, rfl, rfl, rfl, w0⟩ := open_int Try.underlying3 (hval 0 3 v0 rfl rfl) h0
  obtain ⟨a1, rfl, rfl, rfl, w1⟩ := open_int Try.underlying3 (hval 1 3 v1 rfl rfl) h1
  obtain ⟨a2, rfl, rfl, rfl, w2⟩ := open_int Try.underlying3 (hval 2 3 v2 rfl rfl) h2
  clear hA0 hval0
  refine (walk a0 a1 a2 w0 w1 w2 W).mono fun e W' ⟨he, bel⟩ => ?_
  subst he
  exact ⟨_, rfl, _, _, _, [], _, [], hW', trodAll_mk1 (shut_bool Try.underlying4 _), (trodAll_cons_mk (shut_int Try.underlying3 w0) (trodAll_cons_mk (shut_int Try.underlying3 w1) (trodAll_cons_mk (shut_int Try.underlying3 w2) trodAll_mk0))), rfl, bel.frame _, fun h => by cases h⟩

theorem over : Rows.wordsOrderRow.holds Try.pinned (OpenSpec.ofChange Rows.wordsOrderSpec) :=
  OpenClaim.holds_of_wide 9 Try.f9 rfl rfl rfl rfl rfl rfl rfl ⟨rfl, rfl, rfl, rfl, rfl⟩ rfl rfl rfl rfl rfl (by kernel_rfl) Try.func9 (by kernel_rfl)
    (of_decide_eq_true (by kernel_rfl)) (by unfold Func.isWrapper; first | (rw [if_pos (by decide +kernel)]; kernel_rfl) | (rw [if_neg (by decide +kernel)]; exact ⟨rfl, rfl⟩))
    (fun os started H enc _ => lifted os started H enc)

theorem proved : Rows.WordsOrderSaid := over
end Go.Proofs.Ytfnoiijodcmaeaa.wordsOrder
