/- The contract of package citadelref02's Table: an array of what all bytes are substituted by. No condition. -/
import Derived.Test.YtilfjmpoiiepkaaSubC
import Derived.Test.YtilfjmpoiiepkaaArr
import Derived.Great.BuildSlice
namespace Go.Proofs.Ytilfjmpoiiepkaa
open Go.ChangeShapes Go.WideShapes Go.ChangeAt Go.RowKit

set_option maxRecDepth 100000 in
theorem tabZero : (Try.prog.info? 62).bind (·.zero) = some (.agg (cellsOf .u8 (mk 256 zeroK))) := by kernel_rfl
theorem tabZero_run (W : World) : (zeroValue 62).run Try.prog W = .ok (.agg (cellsOf .u8 (mk 256 zeroK))) W := by
  have h := tabZero
  cases hq : Try.prog.info? 62 with
  | none => rw [hq] at h; simp at h
  | some i =>
    rw [hq] at h
    simp only [Option.bind_some] at h
    simp [zeroValue, typeInfo, hq, h]
theorem tabSize (f : Nat → Nat) : (Try.prog.info? 62).map (·.size) = some (cellsOf .u8 (mk 256 f)).size := by
  rw [cellsOf_size, mk_len]; kernel_rfl

set_option maxRecDepth 100000 in
set_option maxHeartbeats 1000000 in
theorem Table_any (w : World) :
    Calls Try.prog 35 #[] w fun e w' => e = .returned (.agg (cellsOf .u8 (mk 256 subN))) ∧ Below w.heap.size w w' := by
  have hz := tabZero_run
  go_enter Try.func35, Try.ntmps35
  go_wp2_with (first
    | (refine wpList_buildFlatArr rfl 62 5 256 _ rfl .u8 (mk 256 subN) Try.underlying62 (by kernel_rfl) (by rw [mk_len]; kernel_rfl) (by kernel_rfl) ?_)
    | (refine wpList_store_row rfl 62 _ _ rfl w.heap.size (cellsOf .u8 (mk 256 subN)) rfl rfl 62 (cellsOf .u8 (mk 256 zeroK)) (IntBlk.new w .u8 62 (mk 256 zeroK)) (tabSize _) (by rw [cellsOf_size, cellsOf_size, mk_len, mk_len]) (cellsOf_one _ _) ?_))
  refine bodyPost_ret (results_cell_row rfl _ _ w.heap.size 62 (cellsOf .u8 (mk 256 subN)) (0, 0) _ rfl ((IntBlk.new w .u8 62 (mk 256 zeroK)).setRow .u8 (mk 256 subN)) Try.underlying62 rfl (tabSize _)) rfl ⟨rfl, below_setRow ((Below.refl _ _).alloc (Nat.le_refl _) _) (Nat.le_refl _) _⟩
end Go.Proofs.Ytilfjmpoiiepkaa
