/- The landed vers: Next; the package as it landed (vers_ok). -/
import Derived.Test.YtnpnjophlajfkaaVerSrt
import Derived.Test.YtnpnjophlajfkaaVerNew
set_option linter.unusedSimpArgs false
set_option linter.unusedVariables false
namespace Go.Proofs.Ytnpnjophlajfkaa
open Go.RowKit Go.Sort

set_option maxRecDepth 100000 in
theorem most_zero (t : Int) : Ver.most t [] = max t 0 := rfl

set_option maxRecDepth 100000 in
theorem vers_ok : VersOk where
  before := fun a b => ver_before _ a b
  sort := fun h hl => (ver_sort h hl).mono (fun e w' ⟨v', he, hr⟩ => ⟨v', he, hr.rows (fun _ _ => rfl), hr.2⟩)
end Go.Proofs.Ytnpnjophlajfkaa
