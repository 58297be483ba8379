/-
  DERIVED. GIVEN WITH THE SEED: THE CARDS: each row of YtojndkdhjhcphaaDoorRows.lean that lists a variable, with what it lists TIED to the program's text (the seventh form; the later family's looks); each row that meets fmt, with fmt's text TOLD by the authors' own Lean function (tested against real Go, not proved from fmt's source: count such statements apart). THE CARD IS WHAT COUNTS. Prove the row's statement (the work); the ties are given (YtojndkdhjhcphaaDoorTie.lean); close each card by the builder's one call (the guide's Derived/Test/ToyasCard.lean, 'card_holds'). Laid BY PROGRAM, IN A SANDBOX (cutbox-door.mjs). By AI agents, Wed Nov 11 2026. No macro, syntax, notation, axiom, sorry.
-/
import Derived.Test.YtojndkdhjhcphaaDoorRows
import GoSem.ClaimSeven
namespace Go.Proofs.YtojndkdhjhcphaaDoor
namespace Rows

/-- THE TIED CARD OF 'shibbolethlaw08.SpotsKnown'. -/
def spotsKnownCard : Claim7 := { stood := { row := spotsKnownRow, standIns := [], harness := (true, "e4cc6465941acc4eac5d38168b4209f3597e19d3e54ceab2de8d52aee0919919"), looks := true }, kinds := [], alts := [], laidByText := true, laidKinds := [.data], laidTests := true, laidLooks := .later }
def SpotsKnownCardSaid : Prop := Claim7.holds Tryd.pinned (.plain (OpenSpec.ofChange spotsKnownSpec)) spotsKnownCard

/-- THE TIED CARD OF 'shibbolethlaw08.SpotsWords'. -/
def spotsWordsCard : Claim7 := { stood := { row := spotsWordsRow, standIns := [], harness := (true, "e4cc6465941acc4eac5d38168b4209f3597e19d3e54ceab2de8d52aee0919919"), looks := true }, kinds := [], alts := [], laidByText := true, laidKinds := [.data], laidTests := true, laidLooks := .later }
def SpotsWordsCardSaid : Prop := Claim7.holds Tryd.pinned (.plain (OpenSpec.ofChange spotsWordsSpec)) spotsWordsCard

/-- THE TIED CARD OF 'shibbolethlaw08.SpotsTimes'. -/
def spotsTimesCard : Claim7 := { stood := { row := spotsTimesRow, standIns := [], harness := (true, "e4cc6465941acc4eac5d38168b4209f3597e19d3e54ceab2de8d52aee0919919"), looks := true }, kinds := [], alts := [], laidByText := true, laidKinds := [.data], laidTests := true, laidLooks := .later }
def SpotsTimesCardSaid : Prop := Claim7.holds Tryd.pinned (.plain (OpenSpec.ofChange spotsTimesSpec)) spotsTimesCard

/-- THE TIED CARD OF 'shibbolethlaw08.SpotsApart'. -/
def spotsApartCard : Claim7 := { stood := { row := spotsApartRow, standIns := [], harness := (true, "e4cc6465941acc4eac5d38168b4209f3597e19d3e54ceab2de8d52aee0919919"), looks := true }, kinds := [], alts := [], laidByText := true, laidKinds := [.data], laidTests := true, laidLooks := .later }
def SpotsApartCardSaid : Prop := Claim7.holds Tryd.pinned (.plain (OpenSpec.ofChange spotsApartSpec)) spotsApartCard

/-- THE SECOND FORM's CARD OF 'shibbolethlaw08.SpotsKnown'. -/
def spotsKnownUptoCard : Claim7 := { stood := { row := spotsKnownUptoRow, standIns := [], harness := (true, "e4cc6465941acc4eac5d38168b4209f3597e19d3e54ceab2de8d52aee0919919"), looks := true }, kinds := [], alts := [], laidByText := true, laidKinds := [.data], laidTests := true, laidLooks := .later }
def SpotsKnownUptoCardSaid : Prop := Claim7.holds Tryd.pinned (.plain (OpenSpec.upto spotsKnownSpec)) spotsKnownUptoCard

/-- THE SECOND FORM's CARD OF 'shibbolethlaw08.SpotsWords'. -/
def spotsWordsUptoCard : Claim7 := { stood := { row := spotsWordsUptoRow, standIns := [], harness := (true, "e4cc6465941acc4eac5d38168b4209f3597e19d3e54ceab2de8d52aee0919919"), looks := true }, kinds := [], alts := [], laidByText := true, laidKinds := [.data], laidTests := true, laidLooks := .later }
def SpotsWordsUptoCardSaid : Prop := Claim7.holds Tryd.pinned (.plain (OpenSpec.upto spotsWordsSpec)) spotsWordsUptoCard

/-- THE SECOND FORM's CARD OF 'shibbolethlaw08.SpotsTimes'. -/
def spotsTimesUptoCard : Claim7 := { stood := { row := spotsTimesUptoRow, standIns := [], harness := (true, "e4cc6465941acc4eac5d38168b4209f3597e19d3e54ceab2de8d52aee0919919"), looks := true }, kinds := [], alts := [], laidByText := true, laidKinds := [.data], laidTests := true, laidLooks := .later }
def SpotsTimesUptoCardSaid : Prop := Claim7.holds Tryd.pinned (.plain (OpenSpec.upto spotsTimesSpec)) spotsTimesUptoCard

/-- THE SECOND FORM's CARD OF 'shibbolethlaw08.SpotsApart'. -/
def spotsApartUptoCard : Claim7 := { stood := { row := spotsApartUptoRow, standIns := [], harness := (true, "e4cc6465941acc4eac5d38168b4209f3597e19d3e54ceab2de8d52aee0919919"), looks := true }, kinds := [], alts := [], laidByText := true, laidKinds := [.data], laidTests := true, laidLooks := .later }
def SpotsApartUptoCardSaid : Prop := Claim7.holds Tryd.pinned (.plain (OpenSpec.upto spotsApartSpec)) spotsApartUptoCard
end Rows
end Go.Proofs.YtojndkdhjhcphaaDoor
