/- The statement TweakStands, over the contract of `stands`. No condition. -/
import Derived.Test.YtklnnmlegagfoaaTweakStands
namespace Go.Proofs.Ytklnnmlegagfoaa.tweakStands
open Go.ChangeShapes Go.WideShapes Go.ChangeAt Go.RowKit
set_option linter.unusedVariables false

set_option maxRecDepth 100000 in
set_option maxHeartbeats 2000000 in
theorem walk (p : Option Addr) (n cap : Nat) (g : Nat → Nat) (z z2 : Int) (q : Option Addr) (tn tcap : Nat) (G : Nat → Nat) (h1 : (∀ i, i < n → g i < 256) ∧ n ≤ cap ∧ True) (h2 : (∀ i, i < tn → G i < 256) ∧ tn ≤ tcap ∧ True) (w : World) (hp : BytesAt w p n g) (hq : BytesAt w q tn G) :
    Calls Try.prog 10 #[.agg #[.slice p n cap, .int .i64 z, .int .i64 z2, .slice q tn tcap]] w fun e w' => e = .returned (.bool true) ∧ Below w.heap.size w w' := by
  have a0 : Below w.heap.size w (w.alloc (.cells #[.slice p n cap, .int .i64 z, .int .i64 z2, .slice q tn tcap] 63)) := (Below.refl _ w).alloc (Nat.le_refl _) _
  have PA := Lib.hid (stands_any p n cap g z z2 q tn tcap G h1.1 h1.2.1 h2.1 h2.2.1 _ (hp.below a0) (hq.below a0))
  have HA := Lib.hid a0
  clear a0 h1 h2 hp hq
  go_enter Try.func10, Try.ntmps10
  go_wp2_with (first
    | (go_at_call 31; refine PA.out.mono ?_; rintro e w1 ⟨rfl, hb1⟩))
  go_ret
  exact ⟨rfl, HA.out.trans (hb1.mono HA.out.size)⟩

theorem laidOut : laidOutB Try.prog = true := by kernel_rfl
set_option maxRecDepth 100000 in
theorem lifted (os : Os) (started : os.Started) (H : Type) (enc : TypeId × Value → H) :
    ReturnsInHanded {} Try.checked os 10 .any (Rows.tweakStandsSpec.pre6 enc Try.prog Try.f10 Rows.tweakStandsRow.domain false) (Rows.tweakStandsSpec.post enc Try.prog Try.f10 false true false false) := by
  refine returnsInHanded_of_change (C := Try.checked) own started (by kernel_rfl) Try.func10
    (ChangeSpec.witness6 (enc := enc) (C := Try.checked) false ⟨#[], #[.agg #[.slice none 0 0, .int .i64 0, .int .i64 0, .slice none 0 0]], []⟩ 8 (by kernel_rfl) (by kernel_rfl) (by kernel_rfl) (by kernel_rfl)) ?_
  intro W base args ds gs before hval0 hW hcnd _
  have hval : ∀ (j : Nat) t v, Try.f10.params[j]? = some t → args[j]? = some v → Value.okWide Try.prog W .any base t v := hval0
  have hW' := hW
  obtain ⟨p, q, hA0, hV, rfl, hfz, hnd⟩ := hW
  have hA : DataW.TrodAll enc Try.prog W 0 (fun _ => true) true Try.f10.params.toList args.toList ds p := hA0
  rw [Try.params10] at hA hval
  obtain ⟨v0, vs0, d0, ds0, p0, q0, hargs, rfl, rfl, h0, r0⟩ := trodAll_cons hA
  obtain ⟨rfl, rfl, rfl⟩ := trodAll_nil r0
  obtain rfl : args = #[v0] := by cases args; simp_all
  obtain ⟨rfl, rfl⟩ := trodVars_none hV
  have k0 := h0
  have lt0 : ∀ x ∈ p0, x.block < W.heap.size := by obtain ⟨m, hm⟩ := k0; exact DataW.trod_lt m _ _ _ hm
  obtain ⟨q0, n0, c0, g0, z0, z1, q1, n1, c1, g1, rfl, s0, s1, _, _⟩ := open_placed (hval 0 63 v0 rfl rfl) h0
  clear hA0 hval0
  refine (walk q0 n0 c0 g0 z0 z1 q1 n1 c1 g1 ⟨s0.1, s0.2.1, trivial⟩ ⟨s1.1, s1.2.1, trivial⟩ W s0.2.2 s1.2.2).mono fun e W' ⟨he, bel⟩ => ?_
  subst he
  exact ⟨_, rfl, _, _, _, [], _, [], hW', trodAll_mk1 (shut_bool Try.underlying4 _), (trodAll_cons_mk (Below.trod laidOut (by kernel_rfl) (of_decide_eq_true (by kernel_rfl)) k0 bel lt0) trodAll_mk0), rfl, bel.frame _, fun h => by cases h⟩

theorem over : Rows.tweakStandsRow.holds Try.pinned (OpenSpec.ofChange Rows.tweakStandsSpec) :=
  OpenClaim.holds_of_wide 10 Try.f10 rfl rfl rfl rfl rfl rfl rfl ⟨rfl, rfl, rfl, rfl, rfl⟩ rfl rfl rfl rfl rfl (by kernel_rfl) Try.func10 (by kernel_rfl)
    (of_decide_eq_true (by kernel_rfl)) (by unfold Func.isWrapper; first | (rw [if_pos (by decide +kernel)]; kernel_rfl) | (rw [if_neg (by decide +kernel)]; exact ⟨rfl, rfl⟩))
    (fun os started H enc _ => lifted os started H enc)

theorem proved : Rows.TweakStandsSaid := over
end Go.Proofs.Ytklnnmlegagfoaa.tweakStands
