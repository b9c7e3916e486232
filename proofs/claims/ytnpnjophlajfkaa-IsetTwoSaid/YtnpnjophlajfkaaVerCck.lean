/- The landed vers: counts, Check (split off VerSml: these want nothing of the library). -/
import Derived.Test.YtnpnjophlajfkaaVerRef
set_option linter.unusedSimpArgs false
set_option linter.unusedVariables false
namespace Go.Proofs.Ytnpnjophlajfkaa
open Go.RowKit Go.Sort

end Go.Proofs.Ytnpnjophlajfkaa
