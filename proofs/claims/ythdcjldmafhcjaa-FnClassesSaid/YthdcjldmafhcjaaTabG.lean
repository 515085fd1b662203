/-
  Two tables of as many variables: the test, and the tables of 'and', 'or', 'exclusive or'.
  Two tables of as many variables in the program; the tables of 'and', 'or', 'exclusive or', of the program and of its model.
-/
import Derived.Test.YthdcjldmafhcjaaTabE

namespace Go.Proofs.Ythdcjldmafhcjaa
open Go.RowKit Plain
set_option linter.unusedVariables false

def Plain.fitB (n a m b : Int) : Bool := isT n a && isT m b && decide (n = m)

end Go.Proofs.Ythdcjldmafhcjaa

namespace Go.Proofs.Ythdcjldmafhcjaa
open Go.RowKit Plain
set_option linter.unusedVariables false

end Go.Proofs.Ythdcjldmafhcjaa
