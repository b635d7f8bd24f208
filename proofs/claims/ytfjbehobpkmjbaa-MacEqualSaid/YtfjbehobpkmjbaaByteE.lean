/- The type of bytes. No condition. -/
import Derived.Test.YtfjbehobpkmjbaaRows
import Derived.Test.YtfjbehobpkmjbaaArr
import Derived.WalkKit
namespace Go.Proofs.Ytfjbehobpkmjbaa
open Go Go.RowKit

theorem byteElem : IntElem Try.prog 5 .u8 := ⟨Try.underlying5, by kernel_rfl⟩
end Go.Proofs.Ytfjbehobpkmjbaa
