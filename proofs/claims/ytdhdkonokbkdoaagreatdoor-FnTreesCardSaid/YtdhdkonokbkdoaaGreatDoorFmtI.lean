/-
  FormatInt of the model answers the library's plain 'itoa'.
-/
import Derived.Test.YtdhdkonokbkdoaaGreatDoorBase
import Derived.Test.YtdhdkonokbkdoaaGreatDoorPlainD
namespace Go.Proofs.YtdhdkonokbkdoaaGreatDoor
open Go.RowKit Plain
set_option linter.unusedVariables false
end Go.Proofs.YtdhdkonokbkdoaaGreatDoor
