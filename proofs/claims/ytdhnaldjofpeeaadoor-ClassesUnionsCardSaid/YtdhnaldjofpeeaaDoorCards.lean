/-
  DERIVED. GIVEN WITH THE SEED: THE CARDS: each row of YtdhnaldjofpeeaaDoorRows.lean that lists a variable, with what it lists TIED to the program's text (the seventh form; the later family's looks); each row that meets fmt, with fmt's text TOLD by the authors' own Lean function (tested against real Go, not proved from fmt's source: count such statements apart). THE CARD IS WHAT COUNTS. Prove the row's statement (the work); the ties are given (YtdhnaldjofpeeaaDoorTie.lean); close each card by the builder's one call (the guide's Derived/Test/ToyasCard.lean, 'card_holds'). Laid BY PROGRAM, IN A SANDBOX (cutbox-door.mjs). By AI agents, Wed Nov 11 2026. No macro, syntax, notation, axiom, sorry.
-/
import Derived.Test.YtdhnaldjofpeeaaDoorRows
import GoSem.ClaimSeven
namespace Go.Proofs.YtdhnaldjofpeeaaDoor
namespace Rows

/-- THE TIED CARD OF 'shibbolethlaw02.ClassesKnown'. -/
def classesKnownCard : Claim7 := { stood := { row := classesKnownRow, standIns := [], harness := (true, "c18607268062fbb40788e984cdf95477ff045d1dfe50deca1cb3512b6cca2247"), looks := false }, kinds := [], alts := [], laidByText := true, laidKinds := [.data], laidTests := true, laidLooks := .later }
def ClassesKnownCardSaid : Prop := Claim7.holds Tryd.pinned (.plain (OpenSpec.ofChange classesKnownSpec)) classesKnownCard

/-- THE TIED CARD OF 'shibbolethlaw02.ClassesTells'. -/
def classesTellsCard : Claim7 := { stood := { row := classesTellsRow, standIns := [], harness := (true, "c18607268062fbb40788e984cdf95477ff045d1dfe50deca1cb3512b6cca2247"), looks := false }, kinds := [], alts := [], laidByText := true, laidKinds := [.data], laidTests := true, laidLooks := .later }
def ClassesTellsCardSaid : Prop := Claim7.holds Tryd.pinned (.plain (OpenSpec.ofChange classesTellsSpec)) classesTellsCard

/-- THE TIED CARD OF 'shibbolethlaw02.ClassesParts'. -/
def classesPartsCard : Claim7 := { stood := { row := classesPartsRow, standIns := [], harness := (true, "c18607268062fbb40788e984cdf95477ff045d1dfe50deca1cb3512b6cca2247"), looks := false }, kinds := [], alts := [], laidByText := true, laidKinds := [.data], laidTests := true, laidLooks := .later }
def ClassesPartsCardSaid : Prop := Claim7.holds Tryd.pinned (.plain (OpenSpec.ofChange classesPartsSpec)) classesPartsCard

/-- THE TIED CARD OF 'shibbolethlaw02.ClassesUnions'. -/
def classesUnionsCard : Claim7 := { stood := { row := classesUnionsRow, standIns := [], harness := (true, "c18607268062fbb40788e984cdf95477ff045d1dfe50deca1cb3512b6cca2247"), looks := false }, kinds := [], alts := [], laidByText := true, laidKinds := [.data], laidTests := true, laidLooks := .later }
def ClassesUnionsCardSaid : Prop := Claim7.holds Tryd.pinned (.plain (OpenSpec.ofChange classesUnionsSpec)) classesUnionsCard

/-- THE TIED CARD OF 'shibbolethlaw02.ClassesFew'. -/
def classesFewCard : Claim7 := { stood := { row := classesFewRow, standIns := [], harness := (true, "c18607268062fbb40788e984cdf95477ff045d1dfe50deca1cb3512b6cca2247"), looks := false }, kinds := [], alts := [], laidByText := true, laidKinds := [.data], laidTests := true, laidLooks := .later }
def ClassesFewCardSaid : Prop := Claim7.holds Tryd.pinned (.plain (OpenSpec.ofChange classesFewSpec)) classesFewCard

/-- THE SECOND FORM's CARD OF 'shibbolethlaw02.ClassesKnown'. -/
def classesKnownUptoCard : Claim7 := { stood := { row := classesKnownUptoRow, standIns := [], harness := (true, "c18607268062fbb40788e984cdf95477ff045d1dfe50deca1cb3512b6cca2247"), looks := false }, kinds := [], alts := [], laidByText := true, laidKinds := [.data], laidTests := true, laidLooks := .later }
def ClassesKnownUptoCardSaid : Prop := Claim7.holds Tryd.pinned (.plain (OpenSpec.upto classesKnownSpec)) classesKnownUptoCard

/-- THE SECOND FORM's CARD OF 'shibbolethlaw02.ClassesTells'. -/
def classesTellsUptoCard : Claim7 := { stood := { row := classesTellsUptoRow, standIns := [], harness := (true, "c18607268062fbb40788e984cdf95477ff045d1dfe50deca1cb3512b6cca2247"), looks := false }, kinds := [], alts := [], laidByText := true, laidKinds := [.data], laidTests := true, laidLooks := .later }
def ClassesTellsUptoCardSaid : Prop := Claim7.holds Tryd.pinned (.plain (OpenSpec.upto classesTellsSpec)) classesTellsUptoCard

/-- THE SECOND FORM's CARD OF 'shibbolethlaw02.ClassesParts'. -/
def classesPartsUptoCard : Claim7 := { stood := { row := classesPartsUptoRow, standIns := [], harness := (true, "c18607268062fbb40788e984cdf95477ff045d1dfe50deca1cb3512b6cca2247"), looks := false }, kinds := [], alts := [], laidByText := true, laidKinds := [.data], laidTests := true, laidLooks := .later }
def ClassesPartsUptoCardSaid : Prop := Claim7.holds Tryd.pinned (.plain (OpenSpec.upto classesPartsSpec)) classesPartsUptoCard

/-- THE SECOND FORM's CARD OF 'shibbolethlaw02.ClassesUnions'. -/
def classesUnionsUptoCard : Claim7 := { stood := { row := classesUnionsUptoRow, standIns := [], harness := (true, "c18607268062fbb40788e984cdf95477ff045d1dfe50deca1cb3512b6cca2247"), looks := false }, kinds := [], alts := [], laidByText := true, laidKinds := [.data], laidTests := true, laidLooks := .later }
def ClassesUnionsUptoCardSaid : Prop := Claim7.holds Tryd.pinned (.plain (OpenSpec.upto classesUnionsSpec)) classesUnionsUptoCard

/-- THE SECOND FORM's CARD OF 'shibbolethlaw02.ClassesFew'. -/
def classesFewUptoCard : Claim7 := { stood := { row := classesFewUptoRow, standIns := [], harness := (true, "c18607268062fbb40788e984cdf95477ff045d1dfe50deca1cb3512b6cca2247"), looks := false }, kinds := [], alts := [], laidByText := true, laidKinds := [.data], laidTests := true, laidLooks := .later }
def ClassesFewUptoCardSaid : Prop := Claim7.holds Tryd.pinned (.plain (OpenSpec.upto classesFewSpec)) classesFewUptoCard
end Rows
end Go.Proofs.YtdhnaldjofpeeaaDoor
