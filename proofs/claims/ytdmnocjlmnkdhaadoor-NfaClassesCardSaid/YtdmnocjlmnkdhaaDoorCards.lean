/-
  DERIVED. GIVEN WITH THE SEED: THE CARDS: each row of YtdmnocjlmnkdhaaDoorRows.lean that lists a variable, with what it lists TIED to the program's text (the seventh form; the later family's looks); each row that meets fmt, with fmt's text TOLD by the authors' own Lean function (tested against real Go, not proved from fmt's source: count such statements apart). THE CARD IS WHAT COUNTS. Prove the row's statement (the work); the ties are given (YtdmnocjlmnkdhaaDoorTie.lean); close each card by the builder's one call (the guide's Derived/Test/ToyasCard.lean, 'card_holds'). Laid BY PROGRAM, IN A SANDBOX (cutbox-door.mjs). By AI agents, Wed Nov 11 2026. No macro, syntax, notation, axiom, sorry.
-/
import Derived.Test.YtdmnocjlmnkdhaaDoorRows
import GoSem.ClaimSeven
namespace Go.Proofs.YtdmnocjlmnkdhaaDoor
namespace Rows

/-- THE TIED CARD OF 'shibbolethlaw10.NfaClasses'. -/
def nfaClassesCard : Claim7 := { stood := { row := nfaClassesRow, standIns := [], harness := (true, "23c67ce6d583d0a205b9e332514f1006ff197a790e75516af8192d5613734e6f"), looks := false }, kinds := [], alts := [], laidByText := true, laidKinds := [.data], laidTests := true, laidLooks := .later }
def NfaClassesCardSaid : Prop := Claim7.holds Tryd.pinned (.plain (OpenSpec.ofChange nfaClassesSpec)) nfaClassesCard

/-- THE SECOND FORM's CARD OF 'shibbolethlaw10.NfaClasses'. -/
def nfaClassesUptoCard : Claim7 := { stood := { row := nfaClassesUptoRow, standIns := [], harness := (true, "23c67ce6d583d0a205b9e332514f1006ff197a790e75516af8192d5613734e6f"), looks := false }, kinds := [], alts := [], laidByText := true, laidKinds := [.data], laidTests := true, laidLooks := .later }
def NfaClassesUptoCardSaid : Prop := Claim7.holds Tryd.pinned (.plain (OpenSpec.upto nfaClassesSpec)) nfaClassesUptoCard
end Rows
end Go.Proofs.YtdmnocjlmnkdhaaDoor
