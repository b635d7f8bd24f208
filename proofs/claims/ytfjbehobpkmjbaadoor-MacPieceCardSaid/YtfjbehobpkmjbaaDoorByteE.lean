/- The type of bytes. No condition. -/
import Derived.Test.YtfjbehobpkmjbaaDoorRows
import Derived.Test.YtfjbehobpkmjbaaDoorArr
import Derived.WalkKit
namespace Go.Proofs.YtfjbehobpkmjbaaDoor
open Go Go.RowKit

theorem byteElem : IntElem Tryd.prog 5 .u8 := ⟨Tryd.underlying5, by kernel_rfl⟩
end Go.Proofs.YtfjbehobpkmjbaaDoor
