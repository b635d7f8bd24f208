/- Doubling of blocks by package field is the document's, bit by bit: the statement FieldDouble. No condition. -/
import Derived.Test.YtccjpofngannhaaQuiet
import Derived.Test.YtccjpofngannhaaOpen
import Derived.Test.YtccjpofngannhaaRef3
namespace Go.Proofs.Ytccjpofngannhaa.fieldDouble
open Go.ChangeShapes Go.WideShapes Go.ChangeAt Go.RowKit
set_option linter.unusedVariables false

theorem own : ownKnob Try.prog.godebug = none := by kernel_rfl
def topK : Nat → Nat := fun j => if j = 15 then 128 else 0
theorem topK_key : IsKey topK := fun j _ => by unfold topK; split <;> omega
theorem built135 : Try.prog.built 28 [(0, .int .u8 (135 : Nat))] = some (cellsOf .u8 (mk 16 (oneK 135))) := by kernel_rfl
theorem double135 : mk 16 (dbl topK) = mk 16 (oneK 135) := by decide +kernel
theorem class_refDouble {W0 : World} {f : Nat → Nat} (hf : IsKey f) : ∀ w, Below W0.heap.size W0 w → Calls Try.prog 20 #[.agg (cellsOf .u8 (mk 16 f))] w fun e w' => e = .returned (.agg (cellsOf .u8 (mk 16 (dbl f)))) ∧ Below W0.heap.size W0 w' :=
  fun w hw => (refDouble_any f hf w).mono fun _ _ ⟨he, hb⟩ => ⟨he, hw.trans (hb.mono hw.size)⟩
theorem call_refDouble (args : Array Value) (w : World) : (callFunc 20 args).run Try.prog w = .ok (.enter 20 args) w := by
  simp [go_sem]

set_option maxRecDepth 100000 in
set_option maxHeartbeats 2000000 in
theorem walk (a : Nat → Nat) (ha : IsKey a) (w : World) :
    Calls Try.prog 8 #[.agg (cellsOf .u8 (mk 16 a))] w fun e w' => e = .returned (.bool true) ∧ Below w.heap.size w w' := by
  have kt := topK_key
  go_enter Try.func8, Try.ntmps8
  go_wp2_with (refine store_row_on rfl 28 _ _ rfl rfl (w.heap.size + 1) (cellsOf .u8 (mk 16 topK)) rfl rfl 28 (cellsOf .u8 (mk 16 zeroK)) (blk_two w .u8 _ (mk 16 zeroK) _) (keySize _) (by rw [cellsOf_size, cellsOf_size, mk_len, mk_len]) (cellsOf_one _ _) ?_)
  have BA : IntBlk (((w.alloc (.cells (cellsOf .u8 (mk 16 a)) 28)).alloc (.cells (cellsOf .u8 (mk 16 zeroK)) 28)).setRow (w.heap.size + 1) (cellsOf .u8 (mk 16 topK))) w.heap.size .u8 28 (mk 16 a) :=
    ((IntBlk.new w .u8 28 (mk 16 a)).alloc _).otherRow (by omega) _
  have BB : IntBlk (((w.alloc (.cells (cellsOf .u8 (mk 16 a)) 28)).alloc (.cells (cellsOf .u8 (mk 16 zeroK)) 28)).setRow (w.heap.size + 1) (cellsOf .u8 (mk 16 topK))) (w.heap.size + 1) .u8 28 (mk 16 topK) :=
    (blk_two w .u8 _ (mk 16 zeroK) _).setRow .u8 (mk 16 topK)
  have BW : Below w.heap.size w (((w.alloc (.cells (cellsOf .u8 (mk 16 a)) 28)).alloc (.cells (cellsOf .u8 (mk 16 zeroK)) 28)).setRow (w.heap.size + 1) (cellsOf .u8 (mk 16 topK))) :=
    below_setRow (below_two w _ _) (by omega) _
  change Code.wp _ _ _ _ (((w.alloc (.cells (cellsOf .u8 (mk 16 a)) 28)).alloc (.cells (cellsOf .u8 (mk 16 zeroK)) 28)).setRow (w.heap.size + 1) (cellsOf .u8 (mk 16 topK)))
  generalize ((w.alloc (.cells (cellsOf .u8 (mk 16 a)) 28)).alloc (.cells (cellsOf .u8 (mk 16 zeroK)) 28)).setRow (w.heap.size + 1) (cellsOf .u8 (mk 16 topK)) = W0 at *
  have HA : Hid (∀ w', Below W0.heap.size W0 w' → IntBlk w' w.heap.size .u8 28 (mk 16 a)) := fun w' h => BA.below h BA.lt
  have HB : Hid (∀ w', Below W0.heap.size W0 w' → IntBlk w' (w.heap.size + 1) .u8 28 (mk 16 topK)) := fun w' h => BB.below h BB.lt
  have HW := Lib.hid BW
  clear BA BB BW
  refine wp_region_class (fun w' => Below W0.heap.size W0 w') (by kernel_rfl) (by kernel_rfl) ((Below.refl _ _).drew) ?_
  iterate 12 (first
    | go_big_quiet_skip
    | (go_big_quiet_want
       first
         | (go_big_quiet_op; go_big_quiet_on)
         | ((first
             | (refine quiet_load _ rfl w.heap.size a rfl HA.out ?_)
             | (refine quiet_load _ rfl (w.heap.size + 1) topK rfl HB.out ?_)
             | (refine quiet_build 135 rfl (oneK 135) built135 ?_)
             | (refine quiet_pick _ _ _ rfl rfl rfl ?_)
             | (refine quiet_key _ _ _ rfl 18 rfl _ rfl _ call_double (class_double (by assumption)) ?_)
             | (refine quiet_key _ _ _ rfl 20 rfl _ rfl _ call_refDouble (class_refDouble (by assumption)) ?_)
             | (refine quiet_eql _ _ rfl _ _ rfl rfl (by first | exact double135 | exact rfl) ?_)); go_simp; go_big_quiet_on)))
  refine wpQuiet_nil ?_
  intro w1 hw1
  have H1 := Lib.hid (HW.out.trans (hw1.mono HW.out.size)); clear hw1
  go_wp2
  go_ret
  exact ⟨rfl, H1.out⟩

theorem laidOut : laidOutB Try.prog = true := by kernel_rfl
set_option maxRecDepth 100000 in
theorem lifted (os : Os) (started : os.Started) (H : Type) (enc : TypeId × Value → H) :
    ReturnsInHanded {} Try.checked os 8 .any (Rows.fieldDoubleSpec.pre6 enc Try.prog Try.f8 Rows.fieldDoubleRow.domain false) (Rows.fieldDoubleSpec.post enc Try.prog Try.f8 false true false false) := by
  refine returnsInHanded_of_change (C := Try.checked) own started (by kernel_rfl) Try.func8
    (ChangeSpec.witness6 (enc := enc) (C := Try.checked) false ⟨#[], #[.agg #[.int .u8 0, .int .u8 0, .int .u8 0, .int .u8 0, .int .u8 0, .int .u8 0, .int .u8 0, .int .u8 0, .int .u8 0, .int .u8 0, .int .u8 0, .int .u8 0, .int .u8 0, .int .u8 0, .int .u8 0, .int .u8 0]], []⟩ 8 (by kernel_rfl) (by kernel_rfl) (by kernel_rfl) (by kernel_rfl)) ?_
  intro W base args ds gs before hval0 hW hcnd _
  have hval : ∀ (j : Nat) t v, Try.f8.params[j]? = some t → args[j]? = some v → Value.okWide Try.prog W .any base t v := hval0
  have hW' := hW
  obtain ⟨p, q, hA0, hV, rfl, hfz, hnd⟩ := hW
  have hA : DataW.TrodAll enc Try.prog W 0 (fun _ => true) true Try.f8.params.toList args.toList ds p := hA0
  rw [Try.params8] at hA hval
  obtain ⟨v0, vs0, d0, ds0, p0, q0, hargs, rfl, rfl, h0, r0⟩ := trodAll_cons hA
  obtain ⟨rfl, rfl, rfl⟩ := trodAll_nil r0
  obtain rfl : args = #[v0] := by cases args; simp_all
  obtain ⟨rfl, rfl⟩ := trodVars_none hV
  have k0 := h0
  have lt0 : ∀ x ∈ p0, x.block < W.heap.size := by obtain ⟨m, hm⟩ := k0; exact DataW.trod_lt m _ _ _ hm
  obtain ⟨a0, w0, rfl⟩ := open_bytes Try.underlying28 Try.underlying5 (by kernel_rfl) (by kernel_rfl) (hval 0 28 v0 rfl rfl) h0
  clear hA0 hval0
  refine (walk a0 w0 W).mono fun e W' ⟨he, bel⟩ => ?_
  subst he
  exact ⟨_, rfl, _, _, _, [], _, [], hW', trodAll_mk1 (shut_bool Try.underlying4 _), (trodAll_cons_mk (Below.trod laidOut (by kernel_rfl) (of_decide_eq_true (by kernel_rfl)) k0 bel lt0) trodAll_mk0), rfl, bel.frame _, fun h => by cases h⟩

theorem over : Rows.fieldDoubleRow.holds Try.pinned (OpenSpec.ofChange Rows.fieldDoubleSpec) :=
  OpenClaim.holds_of_wide 8 Try.f8 rfl rfl rfl rfl rfl rfl rfl ⟨rfl, rfl, rfl, rfl, rfl⟩ rfl rfl rfl rfl rfl (by kernel_rfl) Try.func8 (by kernel_rfl)
    (of_decide_eq_true (by kernel_rfl)) (by unfold Func.isWrapper; first | (rw [if_pos (by decide +kernel)]; kernel_rfl) | (rw [if_neg (by decide +kernel)]; exact ⟨rfl, rfl⟩))
    (fun os started H enc _ => lifted os started H enc)

theorem proved : Rows.FieldDoubleSaid := over
end Go.Proofs.Ytccjpofngannhaa.fieldDouble
