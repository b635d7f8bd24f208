/- Pieces (64 bytes) and schedules (64 words) by value: their index, their size. No condition. -/
import Derived.Test.YtibbnnechjmdmaaByteE
import Derived.Test.YtibbnnechjmdmaaDigNum
import Derived.Test.YtibbnnechjmdmaaArr
import Derived.WalkKit
import Derived.ProofKit
import Derived.OpenShut
import Derived.Lib.Hide
import Derived.StillTailTactics
import Derived.Outline
namespace Go.Proofs.Ytibbnnechjmdmaa
open Go.ChangeShapes Go.WideShapes Go.ChangeAt Go.RowKit

theorem wdElem : IntElem Try.prog 27 .u32 := ⟨Try.underlying27, by kernel_rfl⟩
theorem pieceUnder : Try.prog.underlying 26 = some (.array 64 5) := Try.underlying26
theorem schedUnder : Try.prog.underlying 28 = some (.array 64 27) := Try.underlying28
theorem pieceSize (f : Nat → Nat) : (Try.prog.info? 26).map (·.size) = some (cellsOf .u8 (mk 64 f)).size := by
  rw [cellsOf_size, mk_len]; kernel_rfl
theorem schedSize (f : Nat → Nat) : (Try.prog.info? 28).map (·.size) = some (cellsOf .u32 (mk 64 f)).size := by
  rw [cellsOf_size, mk_len]; kernel_rfl
end Go.Proofs.Ytibbnnechjmdmaa
