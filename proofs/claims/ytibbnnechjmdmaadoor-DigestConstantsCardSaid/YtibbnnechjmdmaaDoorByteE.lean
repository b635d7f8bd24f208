/- The type of bytes. No condition. -/
import Derived.Test.YtibbnnechjmdmaaDoorRows
import Derived.Test.YtibbnnechjmdmaaDoorArr
import Derived.WalkKit
namespace Go.Proofs.YtibbnnechjmdmaaDoor
open Go Go.RowKit

theorem byteElem : IntElem Tryd.prog 5 .u8 := ⟨Tryd.underlying5, by kernel_rfl⟩
end Go.Proofs.YtibbnnechjmdmaaDoor
