/-
  FormatInt of the model answers the library's plain 'itoa'.
-/
import Derived.Test.YthdcjldmafhcjaaDoorBase
import Derived.Test.YthdcjldmafhcjaaDoorPlainD
namespace Go.Proofs.YthdcjldmafhcjaaDoor
open Go.RowKit Plain
set_option linter.unusedVariables false
end Go.Proofs.YthdcjldmafhcjaaDoor
