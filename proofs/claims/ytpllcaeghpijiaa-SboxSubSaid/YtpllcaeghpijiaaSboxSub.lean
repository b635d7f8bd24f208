/- What package sbox's Sub answers is the document's answer, and what stands in the document's table: the statement SboxSub. No condition. -/
import Derived.Test.YtpllcaeghpijiaaTable
import Derived.Test.YtpllcaeghpijiaaRefSub
import Derived.Test.YtpllcaeghpijiaaKeyS
namespace Go.Proofs.Ytpllcaeghpijiaa.sboxSub
open Go.ChangeShapes Go.WideShapes Go.ChangeAt Go.RowKit
set_option linter.unusedVariables false

theorem own : ownKnob Try.prog.godebug = none := by kernel_rfl
theorem sub0 : subI 0 = 99 := by decide +kernel
theorem sub83 : subI 83 = 237 := by decide +kernel
theorem tab_index {b : Int} (h0 : 0 ≤ b) (h1 : b ≤ 255) (W : World) : (Instr.index 23 (.agg (cellsOf .u8 (mk 256 subN))) (.int .u8 b)).run Try.prog W = .ok (.int .u8 (subI b)) W := by
  have := run_index_kind W (ki := .u8) (t := 23) (mk 256 subN) (by rw [mk_len]; exact Try.underlying23) byteElem (i := b.toNat) (by rw [mk_len]; omega)
  rw [mk_get (by omega), Int.toNat_of_nonneg h0] at this; exact this
attribute [local irreducible] subI subN

set_option maxHeartbeats 1000000 in
theorem walk (a0 : Int) (w0 : (Lit.int .u8 a0).wf = true) (w : World) :
    Calls Try.prog 3 #[.int .u8 a0] w fun e w' => e = .returned (.bool true) ∧ Below w.heap.size w w' := by
  have ⟨p0, p1⟩ := bounds_u8 w0
  clear w0
  have t1 : (subI 0 == 99) = true := by rw [sub0]; rfl
  have t2 : (subI 83 == 237) = true := by rw [sub83]; rfl
  have ti := tab_index p0 p1
  go_enter Try.func3, Try.ntmps3
  go_wp2_with (first
    | (go_at_call 9; refine (Sub_any _ (by omega) (by omega) _).mono ?_; rintro e w' ⟨rfl, rfl⟩)
    | (go_at_call 10; refine (refSub_any _ (by omega) (by omega) _).mono ?_; rintro e w' ⟨rfl, hb⟩)
    | (go_at_call 11; refine (Table_any _).mono ?_; rintro e w' ⟨rfl, hc⟩))
  go_ret
  exact ⟨rfl, hb.trans (hc.mono hb.size)⟩

set_option maxRecDepth 100000 in
theorem lifted (os : Os) (started : os.Started) (H : Type) (enc : TypeId × Value → H) :
    ReturnsInHanded {} Try.checked os 3 .any (Rows.sboxSubSpec.pre6 enc Try.prog Try.f3 Rows.sboxSubRow.domain false) (Rows.sboxSubSpec.post enc Try.prog Try.f3 false true false false) := by
  refine returnsInHanded_of_change (C := Try.checked) own started (by kernel_rfl) Try.func3
    (ChangeSpec.witness6 (enc := enc) (C := Try.checked) false ⟨#[], #[.int .u8 0], []⟩ 8 (by kernel_rfl) (by kernel_rfl) (by kernel_rfl) (by kernel_rfl)) ?_
  intro W base args ds gs before hval0 hW hcnd _
  have hval : ∀ (j : Nat) t v, Try.f3.params[j]? = some t → args[j]? = some v → Value.okWide Try.prog W .any base t v := hval0
  have hW' := hW
  obtain ⟨p, q, hA0, hV, rfl, hfz, hnd⟩ := hW
  have hA : DataW.TrodAll enc Try.prog W 0 (fun _ => true) true Try.f3.params.toList args.toList ds p := hA0
  rw [Try.params3] at hA hval
  obtain ⟨v0, vs0, d0, ds0, p0, q0, hargs, rfl, rfl, h0, r0⟩ := trodAll_cons hA
  obtain ⟨rfl, rfl, rfl⟩ := trodAll_nil r0
  obtain rfl : args = #[v0] := by cases args; simp_all
  obtain ⟨rfl, rfl⟩ := trodVars_none hV
  obtain ⟨a0, rfl, rfl, rfl, w0⟩ := open_int Try.underlying5 (hval 0 5 v0 rfl rfl) h0
  clear hA0 hval0
  refine (walk a0 w0 W).mono fun e W' ⟨he, bel⟩ => ?_
  subst he
  exact ⟨_, rfl, _, _, _, [], _, [], hW', trodAll_mk1 (shut_bool Try.underlying4 _), (trodAll_cons_mk (shut_int Try.underlying5 w0) trodAll_mk0), rfl, bel.frame _, fun h => by cases h⟩

theorem over : Rows.sboxSubRow.holds Try.pinned (OpenSpec.ofChange Rows.sboxSubSpec) :=
  OpenClaim.holds_of_wide 3 Try.f3 rfl rfl rfl rfl rfl rfl rfl ⟨rfl, rfl, rfl, rfl, rfl⟩ rfl rfl rfl rfl rfl (by kernel_rfl) Try.func3 (by kernel_rfl)
    (of_decide_eq_true (by kernel_rfl)) (by unfold Func.isWrapper; first | (rw [if_pos (by decide +kernel)]; kernel_rfl) | (rw [if_neg (by decide +kernel)]; exact ⟨rfl, rfl⟩))
    (fun os started H enc _ => lifted os started H enc)

theorem proved : Rows.SboxSubSaid := over
end Go.Proofs.Ytpllcaeghpijiaa.sboxSub
