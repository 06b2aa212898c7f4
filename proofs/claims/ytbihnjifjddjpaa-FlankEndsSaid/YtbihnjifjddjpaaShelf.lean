/- The library's contracts at this translation's numbers: none is wanted. -/
import Derived.Test.YtbihnjifjddjpaaProg
namespace Go.Proofs
end Go.Proofs
