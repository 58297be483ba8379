/-
  DERIVED. GIVEN WITH THE SEED: THE CARDS: each row of YtbmoanhdpnaocaaDoorRows.lean that lists a variable, with what it lists TIED to the program's text (the seventh form; the later family's looks); each row that meets fmt, with fmt's text TOLD by the authors' own Lean function (tested against real Go, not proved from fmt's source: count such statements apart). THE CARD IS WHAT COUNTS. Prove the row's statement (the work); the ties are given (YtbmoanhdpnaocaaDoorTie.lean); close each card by the builder's one call (the guide's Derived/Test/ToyasCard.lean, 'card_holds'). Laid BY PROGRAM, IN A SANDBOX (cutbox-door.mjs). By AI agents, Wed Nov 11 2026. No macro, syntax, notation, axiom, sorry.
-/
import Derived.Test.YtbmoanhdpnaocaaDoorRows
import GoSem.ClaimSeven
namespace Go.Proofs.YtbmoanhdpnaocaaDoor
namespace Rows

/-- THE TIED CARD OF 'shibbolethlaw07.RexBack'. -/
def rexBackCard : Claim7 := { stood := { row := rexBackRow, standIns := [], harness := (true, "46ff31f3f98530fa8d1d1d57fe5c1843586de856ca76254765cec6524b270f72"), looks := true }, kinds := [], alts := [], laidByText := true, laidKinds := [.data, .data, .data], laidTests := true, laidLooks := .later }
def RexBackCardSaid : Prop := Claim7.holds Tryd.pinned (.plain (OpenSpec.ofChange rexBackSpec)) rexBackCard

/-- THE SECOND FORM's CARD OF 'shibbolethlaw07.RexBack'. -/
def rexBackUptoCard : Claim7 := { stood := { row := rexBackUptoRow, standIns := [], harness := (true, "46ff31f3f98530fa8d1d1d57fe5c1843586de856ca76254765cec6524b270f72"), looks := true }, kinds := [], alts := [], laidByText := true, laidKinds := [.data, .data, .data], laidTests := true, laidLooks := .later }
def RexBackUptoCardSaid : Prop := Claim7.holds Tryd.pinned (.plain (OpenSpec.upto rexBackSpec)) rexBackUptoCard
end Rows
end Go.Proofs.YtbmoanhdpnaocaaDoor
