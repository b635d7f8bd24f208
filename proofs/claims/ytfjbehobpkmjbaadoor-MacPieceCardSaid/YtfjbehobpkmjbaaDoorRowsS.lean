/- Pieces (64 bytes) and schedules (64 words) by value: their index, their size. No condition. -/
import Derived.Test.YtfjbehobpkmjbaaDoorByteE
import Derived.Test.YtfjbehobpkmjbaaDoorDigNum
import Derived.Test.YtfjbehobpkmjbaaDoorArr
import Derived.WalkKit
import Derived.ProofKit
import Derived.OpenShut
import Derived.Lib.Hide
import Derived.StillTailTactics
import Derived.Outline
namespace Go.Proofs.YtfjbehobpkmjbaaDoor
open Go.ChangeShapes Go.WideShapes Go.ChangeAt Go.RowKit

theorem wdElem : IntElem Tryd.prog 56 .u32 := ⟨Tryd.underlying56, by kernel_rfl⟩
theorem pieceUnder : Tryd.prog.underlying 25 = some (.array 64 5) := Tryd.underlying25
theorem schedUnder : Tryd.prog.underlying 57 = some (.array 64 56) := Tryd.underlying57
theorem pieceSize (f : Nat → Nat) : (Tryd.prog.info? 25).map (·.size) = some (cellsOf .u8 (mk 64 f)).size := by
  rw [cellsOf_size, mk_len]; kernel_rfl
theorem schedSize (f : Nat → Nat) : (Tryd.prog.info? 57).map (·.size) = some (cellsOf .u32 (mk 64 f)).size := by
  rw [cellsOf_size, mk_len]; kernel_rfl
end Go.Proofs.YtfjbehobpkmjbaaDoor
