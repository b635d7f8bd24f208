/- Sums of blocks by package field are the document's, bit by bit: the statement FieldXor. No condition. -/
import Derived.Test.YtccjpofngannhaaQuiet
import Derived.Test.YtccjpofngannhaaOpen
import Derived.Test.YtccjpofngannhaaRef2
namespace Go.Proofs.Ytccjpofngannhaa.fieldXor
open Go.ChangeShapes Go.WideShapes Go.ChangeAt Go.RowKit
set_option linter.unusedVariables false

theorem own : ownKnob Try.prog.godebug = none := by kernel_rfl
theorem built3 : Try.prog.built 28 [(0, .int .u8 (3 : Nat))] = some (cellsOf .u8 (mk 16 (oneK 3))) := by kernel_rfl
theorem built5 : Try.prog.built 28 [(0, .int .u8 (5 : Nat))] = some (cellsOf .u8 (mk 16 (oneK 5))) := by kernel_rfl
theorem built6 : Try.prog.built 28 [(0, .int .u8 (6 : Nat))] = some (cellsOf .u8 (mk 16 (oneK 6))) := by kernel_rfl
theorem sum6 : mk 16 (xorK (oneK 3) (oneK 5)) = mk 16 (oneK 6) := by decide +kernel
theorem class_refXor {W0 : World} {f g : Nat → Nat} (hf : IsKey f) (hg : IsKey g) : ∀ w, Below W0.heap.size W0 w → Calls Try.prog 23 #[.agg (cellsOf .u8 (mk 16 f)), .agg (cellsOf .u8 (mk 16 g))] w fun e w' => e = .returned (.agg (cellsOf .u8 (mk 16 (xorK f g)))) ∧ Below W0.heap.size W0 w' :=
  fun w hw => (refXor_any f g hf hg w).mono fun _ _ ⟨he, hb⟩ => ⟨he, hw.trans (hb.mono hw.size)⟩
theorem call_refXor (args : Array Value) (w : World) : (callFunc 23 args).run Try.prog w = .ok (.enter 23 args) w := by
  simp [go_sem]

set_option maxRecDepth 100000 in
set_option maxHeartbeats 2000000 in
theorem walk (a b : Nat → Nat) (ha : IsKey a) (hb : IsKey b) (w : World) :
    Calls Try.prog 10 #[.agg (cellsOf .u8 (mk 16 a)), .agg (cellsOf .u8 (mk 16 b))] w fun e w' => e = .returned (.bool true) ∧ Below w.heap.size w w' := by
  have k3 := oneK_key (n := 3) (by omega)
  have k5 := oneK_key (n := 5) (by omega)
  go_enter Try.func10, Try.ntmps10
  go_wp2
  have BA : ∀ w', Below ((w.alloc (.cells (cellsOf .u8 (mk 16 a)) 28)).alloc (.cells (cellsOf .u8 (mk 16 b)) 28)).heap.size ((w.alloc (.cells (cellsOf .u8 (mk 16 a)) 28)).alloc (.cells (cellsOf .u8 (mk 16 b)) 28)) w' → IntBlk w' w.heap.size .u8 28 (mk 16 a) :=
    fun w' h => ((IntBlk.new w .u8 28 (mk 16 a)).alloc _).below h (by simp; omega)
  have BB : ∀ w', Below ((w.alloc (.cells (cellsOf .u8 (mk 16 a)) 28)).alloc (.cells (cellsOf .u8 (mk 16 b)) 28)).heap.size ((w.alloc (.cells (cellsOf .u8 (mk 16 a)) 28)).alloc (.cells (cellsOf .u8 (mk 16 b)) 28)) w' → IntBlk w' (w.heap.size + 1) .u8 28 (mk 16 b) :=
    fun w' h => by
      have := (IntBlk.new (w.alloc (.cells (cellsOf .u8 (mk 16 a)) 28)) .u8 28 (mk 16 b)).below h (by simp)
      rw [World.size_alloc] at this; exact this
  have BW := below_two w (.cells (cellsOf .u8 (mk 16 a)) 28) (.cells (cellsOf .u8 (mk 16 b)) 28)
  have BS : w.heap.size ≤ ((w.alloc (.cells (cellsOf .u8 (mk 16 a)) 28)).alloc (.cells (cellsOf .u8 (mk 16 b)) 28)).heap.size := by simp; omega
  generalize (w.alloc (.cells (cellsOf .u8 (mk 16 a)) 28)).alloc (.cells (cellsOf .u8 (mk 16 b)) 28) = W0 at *
  have HA := Lib.hid BA
  have HB := Lib.hid BB
  have HW := Lib.hid BW
  clear BA BB BW
  refine wp_region_class (fun w' => Below W0.heap.size W0 w') (by kernel_rfl) (by kernel_rfl) ((Below.refl _ _).drew) ?_
  iterate 15 (first
    | go_big_quiet_skip
    | (go_big_quiet_want
       first
         | (go_big_quiet_op; go_big_quiet_on)
         | ((first
             | (refine quiet_load _ rfl w.heap.size a rfl HA.out ?_)
             | (refine quiet_load _ rfl (w.heap.size + 1) b rfl HB.out ?_)
             | (refine quiet_build 3 rfl (oneK 3) built3 ?_)
             | (refine quiet_build 5 rfl (oneK 5) built5 ?_)
             | (refine quiet_build 6 rfl (oneK 6) built6 ?_)
             | (refine quiet_pick _ _ _ rfl rfl rfl ?_)
             | (refine quiet_keys _ _ _ _ rfl 22 rfl _ rfl _ rfl _ call_xor (class_xor (by assumption) (by assumption)) ?_)
             | (refine quiet_keys _ _ _ _ rfl 23 rfl _ rfl _ rfl _ call_refXor (class_refXor (by assumption) (by assumption)) ?_)
             | (refine quiet_eql _ _ rfl _ _ rfl rfl (by first | exact sum6 | exact rfl) ?_)); go_simp; go_big_quiet_on)))
  refine wpQuiet_nil ?_
  intro w1 hw1
  have H1 := Lib.hid (HW.out.trans (hw1.mono BS)); clear hw1
  go_wp2
  go_ret
  exact ⟨rfl, H1.out⟩

theorem laidOut : laidOutB Try.prog = true := by kernel_rfl
set_option maxRecDepth 100000 in
theorem lifted (os : Os) (started : os.Started) (H : Type) (enc : TypeId × Value → H) :
    ReturnsInHanded {} Try.checked os 10 .any (Rows.fieldXorSpec.pre6 enc Try.prog Try.f10 Rows.fieldXorRow.domain false) (Rows.fieldXorSpec.post enc Try.prog Try.f10 false true false false) := by
  refine returnsInHanded_of_change (C := Try.checked) own started (by kernel_rfl) Try.func10
    (ChangeSpec.witness6 (enc := enc) (C := Try.checked) false ⟨#[], #[.agg #[.int .u8 0, .int .u8 0, .int .u8 0, .int .u8 0, .int .u8 0, .int .u8 0, .int .u8 0, .int .u8 0, .int .u8 0, .int .u8 0, .int .u8 0, .int .u8 0, .int .u8 0, .int .u8 0, .int .u8 0, .int .u8 0], .agg #[.int .u8 0, .int .u8 0, .int .u8 0, .int .u8 0, .int .u8 0, .int .u8 0, .int .u8 0, .int .u8 0, .int .u8 0, .int .u8 0, .int .u8 0, .int .u8 0, .int .u8 0, .int .u8 0, .int .u8 0, .int .u8 0]], []⟩ 8 (by kernel_rfl) (by kernel_rfl) (by kernel_rfl) (by kernel_rfl)) ?_
  intro W base args ds gs before hval0 hW hcnd _
  have hval : ∀ (j : Nat) t v, Try.f10.params[j]? = some t → args[j]? = some v → Value.okWide Try.prog W .any base t v := hval0
  have hW' := hW
  obtain ⟨p, q, hA0, hV, rfl, hfz, hnd⟩ := hW
  have hA : DataW.TrodAll enc Try.prog W 0 (fun _ => true) true Try.f10.params.toList args.toList ds p := hA0
  rw [Try.params10] at hA hval
  obtain ⟨v0, vs0, d0, ds0, p0, q0, hargs, rfl, rfl, h0, r0⟩ := trodAll_cons hA
  obtain ⟨v1, vs1, d1, ds1, p1, q1, rfl, rfl, rfl, h1, r1⟩ := trodAll_cons r0
  obtain ⟨rfl, rfl, rfl⟩ := trodAll_nil r1
  obtain rfl : args = #[v0, v1] := by cases args; simp_all
  obtain ⟨rfl, rfl⟩ := trodVars_none hV
  have k0 := h0
  have lt0 : ∀ x ∈ p0, x.block < W.heap.size := by obtain ⟨m, hm⟩ := k0; exact DataW.trod_lt m _ _ _ hm
  obtain ⟨a0, w0, rfl⟩ := open_bytes Try.underlying28 Try.underlying5 (by kernel_rfl) (by kernel_rfl) (hval 0 28 v0 rfl rfl) h0
  have k1 := h1
  have lt1 : ∀ x ∈ p1, x.block < W.heap.size := by obtain ⟨m, hm⟩ := k1; exact DataW.trod_lt m _ _ _ hm
  obtain ⟨a1, w1, rfl⟩ := open_bytes Try.underlying28 Try.underlying5 (by kernel_rfl) (by kernel_rfl) (hval 1 28 v1 rfl rfl) h1
  clear hA0 hval0
  refine (walk a0 a1 w0 w1 W).mono fun e W' ⟨he, bel⟩ => ?_
  subst he
  exact ⟨_, rfl, _, _, _, [], _, [], hW', trodAll_mk1 (shut_bool Try.underlying4 _), (trodAll_cons_mk (Below.trod laidOut (by kernel_rfl) (of_decide_eq_true (by kernel_rfl)) k0 bel lt0) (trodAll_cons_mk (Below.trod laidOut (by kernel_rfl) (of_decide_eq_true (by kernel_rfl)) k1 bel lt1) trodAll_mk0)), rfl, bel.frame _, fun h => by cases h⟩

theorem over : Rows.fieldXorRow.holds Try.pinned (OpenSpec.ofChange Rows.fieldXorSpec) :=
  OpenClaim.holds_of_wide 10 Try.f10 rfl rfl rfl rfl rfl rfl rfl ⟨rfl, rfl, rfl, rfl, rfl⟩ rfl rfl rfl rfl rfl (by kernel_rfl) Try.func10 (by kernel_rfl)
    (of_decide_eq_true (by kernel_rfl)) (by unfold Func.isWrapper; first | (rw [if_pos (by decide +kernel)]; kernel_rfl) | (rw [if_neg (by decide +kernel)]; exact ⟨rfl, rfl⟩))
    (fun os started H enc _ => lifted os started H enc)

theorem proved : Rows.FieldXorSaid := over
end Go.Proofs.Ytccjpofngannhaa.fieldXor
