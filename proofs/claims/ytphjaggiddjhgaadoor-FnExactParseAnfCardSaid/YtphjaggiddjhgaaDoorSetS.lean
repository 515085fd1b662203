/-
  setSize of the program: the number of variables of a set.
-/
import Derived.Test.YtphjaggiddjhgaaDoorTabI
namespace Go.Proofs.YtphjaggiddjhgaaDoor
open Go.RowKit Plain
set_option linter.unusedVariables false

end Go.Proofs.YtphjaggiddjhgaaDoor
