/- Pieces (64 bytes) and schedules (64 words) by value: their index, their size. No condition. -/
import Derived.Test.YtibbnnechjmdmaaDoorByteE
import Derived.Test.YtibbnnechjmdmaaDoorDigNum
import Derived.Test.YtibbnnechjmdmaaDoorArr
import Derived.WalkKit
import Derived.ProofKit
import Derived.OpenShut
import Derived.Lib.Hide
import Derived.StillTailTactics
import Derived.Outline
namespace Go.Proofs.YtibbnnechjmdmaaDoor
open Go.ChangeShapes Go.WideShapes Go.ChangeAt Go.RowKit

theorem wdElem : IntElem Tryd.prog 22 .u32 := ⟨Tryd.underlying22, by kernel_rfl⟩
theorem pieceUnder : Tryd.prog.underlying 47 = some (.array 64 5) := Tryd.underlying47
theorem schedUnder : Tryd.prog.underlying 24 = some (.array 64 22) := Tryd.underlying24
theorem pieceSize (f : Nat → Nat) : (Tryd.prog.info? 47).map (·.size) = some (cellsOf .u8 (mk 64 f)).size := by
  rw [cellsOf_size, mk_len]; kernel_rfl
theorem schedSize (f : Nat → Nat) : (Tryd.prog.info? 24).map (·.size) = some (cellsOf .u32 (mk 64 f)).size := by
  rw [cellsOf_size, mk_len]; kernel_rfl
end Go.Proofs.YtibbnnechjmdmaaDoor
