/- Words (arrays of four bytes) by value: their index, their size. No condition. -/
import Derived.Test.YtilfjmpoiiepkaaKeyS
namespace Go.Proofs.Ytilfjmpoiiepkaa
open Go.ChangeShapes Go.WideShapes Go.ChangeAt Go.RowKit

theorem wordUnder : Try.prog.underlying 26 = some (.array 4 5) := Try.underlying26
theorem word_index (f : Nat → Nat) {i : Nat} (hi : i < 4) (W : World) : (Instr.index 26 (.agg (cellsOf .u8 (mk 4 f))) (.int .i64 i)).run Try.prog W = .ok (.int .u8 (f i)) W := by
  have := run_index_ints W (t := 26) (mk 4 f) (by rw [mk_len]; exact wordUnder) byteElem (i := i) (by rw [mk_len]; exact hi)
  rw [mk_get hi] at this; exact this
theorem wordSize (f : Nat → Nat) : (Try.prog.info? 26).map (·.size) = some (cellsOf .u8 (mk 4 f)).size := by
  rw [cellsOf_size, mk_len]; kernel_rfl
end Go.Proofs.Ytilfjmpoiiepkaa
