/- WdBase over TwBase. -/
import Derived.Test.YtghdeedglekphaaTwBase
import Derived.RangeFuncNested
import Derived.RangeFuncBound
import Derived.RangeFuncCalls
namespace Go.Proofs.Ytghdeedglekphaa
end Go.Proofs.Ytghdeedglekphaa
