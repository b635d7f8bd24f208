/- Keys by value: their index, and their size. No condition. -/
import Derived.Test.YtilfjmpoiiepkaaRows
import Derived.Test.YtilfjmpoiiepkaaKey
import Derived.Test.YtilfjmpoiiepkaaArr
import Derived.WalkKit
import Derived.ProofKit
import Derived.OpenShut
import Derived.Lib.Hide
import Derived.StillTailTactics
import Derived.Outline
namespace Go.Proofs.Ytilfjmpoiiepkaa
open Go.ChangeShapes Go.WideShapes Go.ChangeAt Go.RowKit

theorem byteElem : IntElem Try.prog 5 .u8 := ⟨Try.underlying5, by kernel_rfl⟩
theorem keyUnder : Try.prog.underlying 23 = some (.array 16 5) := Try.underlying23
theorem key_index (f : Nat → Nat) {i : Nat} (hi : i < 16) (W : World) : (Instr.index 23 (.agg (cellsOf .u8 (mk 16 f))) (.int .i64 i)).run Try.prog W = .ok (.int .u8 (f i)) W := by
  have := run_index_ints W (t := 23) (mk 16 f) (by rw [mk_len]; exact keyUnder) byteElem (i := i) (by rw [mk_len]; exact hi)
  rw [mk_get hi] at this; exact this
theorem key_get (f : Nat → Nat) {i : Nat} (hi : i < 16) : (cellsOf .u8 (mk 16 f))[i]? = some (.int .u8 (f i)) := by
  rw [cellsOf_get _ _ (by rw [mk_len]; exact hi), mk_get hi]
theorem keySize (f : Nat → Nat) : (Try.prog.info? 23).map (·.size) = some (cellsOf .u8 (mk 16 f)).size := by
  rw [cellsOf_size, mk_len]; kernel_rfl

end Go.Proofs.Ytilfjmpoiiepkaa
