/- No contract of the library's is laid at this translation's numbers: its one library function is walked in a text of its own. -/
import Derived.Test.YtmmdjbbbjlkmoaaDoorProg
namespace Go.Proofs
end Go.Proofs
