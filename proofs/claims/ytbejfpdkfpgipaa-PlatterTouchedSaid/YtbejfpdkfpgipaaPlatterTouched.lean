/- PlatterTouched: who tampers changes just the first bytes, both those that are sure and those that are read, for every bytes of a sector. No condition. -/
import Derived.Test.YtbejfpdkfpgipaaPlTouchA
import Derived.Test.YtbejfpdkfpgipaaPlTouchB
import Derived.Test.YtbejfpdkfpgipaaPlTouchC
import Derived.Test.YtbejfpdkfpgipaaPlTouchD
namespace Go.Proofs.Ytbejfpdkfpgipaa.platterTouched
open Go.ChangeShapes Go.WideShapes Go.ChangeAt Go.RowKit
set_option linter.unusedVariables false

theorem touched_ok (q0 : Option Addr) (n0 c0 : Nat) (g0 : Nat → Nat) (q1 : Option Addr) (n1 c1 : Nat) (g1 : Nat → Nat) (q2 : Option Addr) (n2 c2 : Nat) (g2 : Nat → Nat) (keep : Bool) (w : World) (y0 : BytesAt w q0 n0 g0) (y1 : BytesAt w q1 n1 g1) (y2 : BytesAt w q2 n2 g2) (hlo : ∀ B o, q2 = some ⟨B, o, none⟩ → n2 ≠ 0 → B < w.heap.size) :
    Calls Try.prog 43 #[.slice q0 n0 c0, .slice q1 n1 c1, .slice q2 n2 c2, .bool keep] w fun e w' => e = .returned (.bool true) ∧ Below w.heap.size w w' := by
  by_cases h : 128 < n2
  · cases keep
    · exact touched_big_lost q0 n0 c0 g0 q1 n1 c1 g1 q2 n2 c2 g2 h w y0 y1 y2 hlo
    · exact touched_big_keep q0 n0 c0 g0 q1 n1 c1 g1 q2 n2 c2 g2 h w y0 y1 y2 hlo
  · cases keep
    · exact touched_fits_lost q0 n0 c0 g0 q1 n1 c1 g1 q2 n2 c2 g2 (by omega) w y0 y1 y2 hlo
    · exact touched_fits_keep q0 n0 c0 g0 q1 n1 c1 g1 q2 n2 c2 g2 (by omega) w y0 y1 y2 hlo

set_option maxRecDepth 100000 in
set_option maxHeartbeats 2000000 in
theorem walk (q0 : Option Addr) (n0 c0 : Nat) (g0 : Nat → Nat) (q1 : Option Addr) (n1 c1 : Nat) (g1 : Nat → Nat) (q2 : Option Addr) (n2 c2 : Nat) (g2 : Nat → Nat) (k : Bool) (w : World) (y0 : BytesAt w q0 n0 g0) (y1 : BytesAt w q1 n1 g1) (y2 : BytesAt w q2 n2 g2) :
    Calls Try.prog 9 #[.agg #[.slice q0 n0 c0, .slice q1 n1 c1, .slice q2 n2 c2, .bool k]] w fun e w' => e = .returned (.bool true) ∧ Below w.heap.size w w' := by
  have a0 : Below w.heap.size w (w.alloc (.cells #[.slice q0 n0 c0, .slice q1 n1 c1, .slice q2 n2 c2, .bool k] 83)) := (Below.refl _ w).alloc (Nat.le_refl _) _
  have PA := Lib.hid (touched_ok q0 n0 c0 g0 q1 n1 c1 g1 q2 n2 c2 g2 k _ (y0.below a0) (y1.below a0) (y2.below a0) (fun B o e h0 => by
    rcases y2 with h | ⟨B', o', e', hB, _⟩
    · exact absurd h h0
    · rw [e] at e'
      have : B = B' := by cases e'; rfl
      rw [this]
      exact Nat.lt_of_lt_of_le hB a0.size))
  have HA := Lib.hid a0
  clear a0 y0 y1 y2
  go_enter Try.func9, Try.ntmps9
  go_wp2_with (first
    | (go_at_call 43; refine PA.out.mono ?_; rintro e w1 ⟨rfl, hb1⟩))
  go_ret
  exact ⟨rfl, HA.out.trans (hb1.mono HA.out.size)⟩

theorem laidOut : laidOutB Try.prog = true := by kernel_rfl
set_option maxRecDepth 100000 in
theorem lifted (os : Os) (started : os.Started) (H : Type) (enc : TypeId × Value → H) :
    ReturnsInHanded {} Try.checked os 9 .any (Rows.platterTouchedSpec.pre6 enc Try.prog Try.f9 Rows.platterTouchedRow.domain false) (Rows.platterTouchedSpec.post enc Try.prog Try.f9 false true false false) := by
  refine returnsInHanded_of_change (C := Try.checked) own started (by kernel_rfl) Try.func9
    (ChangeSpec.witness6 (enc := enc) (C := Try.checked) false ⟨#[], #[.agg #[.slice none 0 0, .slice none 0 0, .slice none 0 0, .bool false]], []⟩ 8 (by kernel_rfl) (by kernel_rfl) (by kernel_rfl) (by kernel_rfl)) ?_
  intro W base args ds gs before hval0 hW hcnd _
  have hval : ∀ (j : Nat) t v, Try.f9.params[j]? = some t → args[j]? = some v → Value.okWide Try.prog W .any base t v := hval0
  have hW' := hW
  obtain ⟨p, q, hA0, hV, rfl, hfz, hnd⟩ := hW
  have hA : DataW.TrodAll enc Try.prog W 0 (fun _ => true) true Try.f9.params.toList args.toList ds p := hA0
  rw [Try.params9] at hA hval
  obtain ⟨v0, vs0, d0, ds0, p0, q0, hargs, rfl, rfl, h0, r0⟩ := trodAll_cons hA
  obtain ⟨rfl, rfl, rfl⟩ := trodAll_nil r0
  obtain rfl : args = #[v0] := by cases args; simp_all
  obtain ⟨rfl, rfl⟩ := trodVars_none hV
  have k0 := h0
  have lt0 : ∀ x ∈ p0, x.block < W.heap.size := by obtain ⟨m, hm⟩ := k0; exact DataW.trod_lt m _ _ _ hm
  obtain ⟨q0, n0, c0, g0, q1, n1, c1, g1, q2, n2, c2, g2, k, rfl, s0, s1, s2⟩ := open_tampered (hval 0 83 v0 rfl rfl) h0
  clear hA0 hval0
  refine (walk q0 n0 c0 g0 q1 n1 c1 g1 q2 n2 c2 g2 k W s0.2.2 s1.2.2 s2.2.2).mono fun e W' ⟨he, bel⟩ => ?_
  subst he
  exact ⟨_, rfl, _, _, _, [], _, [], hW', trodAll_mk1 (shut_bool Try.underlying4 _), (trodAll_cons_mk (Below.trod laidOut (by kernel_rfl) (of_decide_eq_true (by kernel_rfl)) k0 bel lt0) trodAll_mk0), rfl, bel.frame _, fun h => by cases h⟩

theorem over : Rows.platterTouchedRow.holds Try.pinned (OpenSpec.ofChange Rows.platterTouchedSpec) :=
  OpenClaim.holds_of_wide 9 Try.f9 rfl rfl rfl rfl rfl rfl rfl ⟨rfl, rfl, rfl, rfl, rfl⟩ rfl rfl rfl rfl rfl (by kernel_rfl) Try.func9 (by kernel_rfl)
    (of_decide_eq_true (by kernel_rfl)) (by unfold Func.isWrapper; first | (rw [if_pos (by decide +kernel)]; kernel_rfl) | (rw [if_neg (by decide +kernel)]; exact ⟨rfl, rfl⟩))
    (fun os started H enc _ => lifted os started H enc)

theorem proved : Rows.PlatterTouchedSaid := over
end Go.Proofs.Ytbejfpdkfpgipaa.platterTouched
