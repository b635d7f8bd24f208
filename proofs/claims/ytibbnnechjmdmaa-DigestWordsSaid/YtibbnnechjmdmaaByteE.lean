/- The type of bytes. No condition. -/
import Derived.Test.YtibbnnechjmdmaaRows
import Derived.Test.YtibbnnechjmdmaaArr
import Derived.WalkKit
namespace Go.Proofs.Ytibbnnechjmdmaa
open Go Go.RowKit

theorem byteElem : IntElem Try.prog 5 .u8 := ⟨Try.underlying5, by kernel_rfl⟩
end Go.Proofs.Ytibbnnechjmdmaa
