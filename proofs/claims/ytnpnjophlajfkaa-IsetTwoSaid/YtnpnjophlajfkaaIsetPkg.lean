/- The landed iset, whole, on the landed vers. -/
import Derived.Test.YtnpnjophlajfkaaIsetTop
import Derived.Test.YtnpnjophlajfkaaVerNxt
namespace Go.Proofs.Ytnpnjophlajfkaa

set_option maxRecDepth 100000 in
theorem iset_ok : IsetOk := iset_of_vers vers_ok
end Go.Proofs.Ytnpnjophlajfkaa
