/-
  The laws' copies of terms and their comparison.
-/
import Derived.Test.YtphjaggiddjhgaaTrmD

namespace Go.Proofs.Ytphjaggiddjhgaa
open Go.RowKit Plain
set_option linter.unusedVariables false

end Go.Proofs.Ytphjaggiddjhgaa
