/- The contract of package sbox's Rotate: it answers the word with its first byte behind the others, and writes nothing that was there. Condition: the word's bytes are bytes. -/
import Derived.Test.YtilfjmpoiiepkaaWordS
import Derived.Great.BuildSlice
namespace Go.Proofs.Ytilfjmpoiiepkaa
open Go.ChangeShapes Go.WideShapes Go.ChangeAt Go.RowKit

def turnK (f : Nat → Nat) : Nat → Nat := fun i => f ((i + 1) % 4)

set_option maxRecDepth 100000 in
set_option maxHeartbeats 1000000 in
theorem Rotate_any (f : Nat → Nat) (w : World) :
    Calls Try.prog 54 #[.agg (cellsOf .u8 (mk 4 f))] w fun e w' => e = .returned (.agg (cellsOf .u8 (mk 4 (turnK f)))) ∧ Below w.heap.size w w' := by
  have hd : IntBlk ((w.alloc (.cells (cellsOf .u8 (mk 4 f)) 26)).alloc (.cells (cellsOf .u8 (mk 4 zeroK)) 26)) (w.heap.size + 1) .u8 26 (mk 4 zeroK) := blk_two w .u8 26 (mk 4 zeroK) _
  have hb := below_two w (.cells (cellsOf .u8 (mk 4 f)) 26) (.cells (cellsOf .u8 (mk 4 zeroK)) 26)
  have HD := Lib.hid hd
  have HB := Lib.hid hb
  clear hd hb
  go_enter Try.func54, Try.ntmps54
  have g0 : (cellsOf .u8 (mk 4 f))[0]? = some (.int .u8 (f 0)) := by rw [cellsOf_get _ _ (by rw [mk_len]; omega), mk_get (by omega)]
  have g1 : (cellsOf .u8 (mk 4 f))[1]? = some (.int .u8 (f 1)) := by rw [cellsOf_get _ _ (by rw [mk_len]; omega), mk_get (by omega)]
  have g2 : (cellsOf .u8 (mk 4 f))[2]? = some (.int .u8 (f 2)) := by rw [cellsOf_get _ _ (by rw [mk_len]; omega), mk_get (by omega)]
  have g3 : (cellsOf .u8 (mk 4 f))[3]? = some (.int .u8 (f 3)) := by rw [cellsOf_get _ _ (by rw [mk_len]; omega), mk_get (by omega)]
  go_wp2_with (first
    | (refine wpList_buildTo rfl 26 _ rfl (some 11) rfl (cellsOf .u8 (mk 4 (turnK f))) (by kernel_rfl) ?_)
    | (refine wpList_store_row rfl 26 _ _ rfl (w.heap.size + 1) (cellsOf .u8 (mk 4 (turnK f))) rfl rfl 26 (cellsOf .u8 (mk 4 zeroK)) HD.out (wordSize _) (by rw [cellsOf_size, cellsOf_size, mk_len, mk_len]) (cellsOf_one _ _) ?_))
  refine bodyPost_ret (results_cell_row rfl _ _ (w.heap.size + 1) 26 (cellsOf .u8 (mk 4 (turnK f))) (0, 0) _ rfl (HD.out.setRow .u8 (mk 4 (turnK f))) wordUnder rfl (wordSize _)) rfl ⟨rfl, below_setRow HB.out (by omega) _⟩
end Go.Proofs.Ytilfjmpoiiepkaa
