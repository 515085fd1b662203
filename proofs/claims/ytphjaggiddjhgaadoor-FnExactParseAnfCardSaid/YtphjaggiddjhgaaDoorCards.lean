/-
  DERIVED. GIVEN WITH THE SEED: THE CARDS: each row of YtphjaggiddjhgaaDoorRows.lean that lists a variable, with what it lists TIED to the program's text (the seventh form; the later family's looks); each row that meets fmt, with fmt's text TOLD by the authors' own Lean function (tested against real Go, not proved from fmt's source: count such statements apart). THE CARD IS WHAT COUNTS. Prove the row's statement (the work); the ties are given (YtphjaggiddjhgaaDoorTie.lean); close each card by the builder's one call (the guide's Derived/Test/ToyasCard.lean, 'card_holds'). Laid BY PROGRAM, IN A SANDBOX (cutbox-door.mjs). By AI agents, Wed Nov 11 2026. No macro, syntax, notation, axiom, sorry.
-/
import Derived.Test.YtphjaggiddjhgaaDoorRows
import GoSem.ClaimSeven
namespace Go.Proofs.YtphjaggiddjhgaaDoor
namespace Rows

/-- THE TIED CARD OF 'laws.FnExactParseTable'. -/
def fnExactParseTableCard : Claim7 := { stood := { row := fnExactParseTableRow, standIns := [], harness := (true, "b82b6b6a13fa876ec33ab2e92b0a0e6faf5a70079de3e1b830fcaa612632d658"), looks := false }, kinds := [], alts := [], laidByText := true, laidKinds := [.data, .data], laidTests := true, laidLooks := .later }
def FnExactParseTableCardSaid : Prop := Claim7.holds Tryd.pinned (.plain (OpenSpec.ofChange fnExactParseTableSpec)) fnExactParseTableCard

/-- THE TIED CARD OF 'laws.FnExactTableOfCoefficients'. -/
def fnExactTableOfCoefficientsCard : Claim7 := { stood := { row := fnExactTableOfCoefficientsRow, standIns := [], harness := (true, "b82b6b6a13fa876ec33ab2e92b0a0e6faf5a70079de3e1b830fcaa612632d658"), looks := false }, kinds := [], alts := [], laidByText := true, laidKinds := [.data, .data], laidTests := true, laidLooks := .later }
def FnExactTableOfCoefficientsCardSaid : Prop := Claim7.holds Tryd.pinned (.plain (OpenSpec.ofChange fnExactTableOfCoefficientsSpec)) fnExactTableOfCoefficientsCard

/-- THE TIED CARD OF 'laws.FnExactParseAnf'. -/
def fnExactParseAnfCard : Claim7 := { stood := { row := fnExactParseAnfRow, standIns := [], harness := (true, "b82b6b6a13fa876ec33ab2e92b0a0e6faf5a70079de3e1b830fcaa612632d658"), looks := false }, kinds := [], alts := [], laidByText := true, laidKinds := [.data, .pinned], laidTests := true, laidLooks := .later }
def FnExactParseAnfCardSaid : Prop := Claim7.holds Tryd.pinned (.plain (OpenSpec.ofChange fnExactParseAnfSpec)) fnExactParseAnfCard

/-- THE SECOND FORM's CARD OF 'laws.FnExactParseTable'. -/
def fnExactParseTableUptoCard : Claim7 := { stood := { row := fnExactParseTableUptoRow, standIns := [], harness := (true, "b82b6b6a13fa876ec33ab2e92b0a0e6faf5a70079de3e1b830fcaa612632d658"), looks := false }, kinds := [], alts := [], laidByText := true, laidKinds := [.data, .data], laidTests := true, laidLooks := .later }
def FnExactParseTableUptoCardSaid : Prop := Claim7.holds Tryd.pinned (.plain (OpenSpec.upto fnExactParseTableSpec)) fnExactParseTableUptoCard

/-- THE SECOND FORM's CARD OF 'laws.FnExactTableOfCoefficients'. -/
def fnExactTableOfCoefficientsUptoCard : Claim7 := { stood := { row := fnExactTableOfCoefficientsUptoRow, standIns := [], harness := (true, "b82b6b6a13fa876ec33ab2e92b0a0e6faf5a70079de3e1b830fcaa612632d658"), looks := false }, kinds := [], alts := [], laidByText := true, laidKinds := [.data, .data], laidTests := true, laidLooks := .later }
def FnExactTableOfCoefficientsUptoCardSaid : Prop := Claim7.holds Tryd.pinned (.plain (OpenSpec.upto fnExactTableOfCoefficientsSpec)) fnExactTableOfCoefficientsUptoCard

/-- THE SECOND FORM's CARD OF 'laws.FnExactParseAnf'. -/
def fnExactParseAnfUptoCard : Claim7 := { stood := { row := fnExactParseAnfUptoRow, standIns := [], harness := (true, "b82b6b6a13fa876ec33ab2e92b0a0e6faf5a70079de3e1b830fcaa612632d658"), looks := false }, kinds := [], alts := [], laidByText := true, laidKinds := [.data, .pinned], laidTests := true, laidLooks := .later }
def FnExactParseAnfUptoCardSaid : Prop := Claim7.holds Tryd.pinned (.plain (OpenSpec.upto fnExactParseAnfSpec)) fnExactParseAnfUptoCard
end Rows
end Go.Proofs.YtphjaggiddjhgaaDoor
