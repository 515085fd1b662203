/-
  The laws' copies of terms and their comparison.
-/
import Derived.Test.YtphjaggiddjhgaaDoorTrmD

namespace Go.Proofs.YtphjaggiddjhgaaDoor
open Go.RowKit Plain
set_option linter.unusedVariables false

end Go.Proofs.YtphjaggiddjhgaaDoor
