/-
  DERIVED. GIVEN WITH THE SEED: THE CARDS: each row of YtplkhgmjcljjhaaDoorRows.lean that lists a variable, with what it lists TIED to the program's text (the seventh form; the later family's looks); each row that meets fmt, with fmt's text TOLD by the authors' own Lean function (tested against real Go, not proved from fmt's source: count such statements apart). THE CARD IS WHAT COUNTS. Prove the row's statement (the work); the ties are given (YtplkhgmjcljjhaaDoorTie.lean); close each card by the builder's one call (the guide's Derived/Test/ToyasCard.lean, 'card_holds'). Laid BY PROGRAM, IN A SANDBOX (cutbox-door.mjs). By AI agents, Wed Nov 11 2026. No macro, syntax, notation, axiom, sorry.
-/
import Derived.Test.YtplkhgmjcljjhaaDoorRows
import GoSem.ClaimSeven
namespace Go.Proofs.YtplkhgmjcljjhaaDoor
namespace Rows

/-- THE TIED CARD OF 'shibbolethlaw12.MiniLeasts'. -/
def miniLeastsCard : Claim7 := { stood := { row := miniLeastsRow, standIns := [], harness := (true, "858f64c114a24ce6b38f191244f46b05b030832373bcfbff426b4b28096f3764"), looks := false }, kinds := [], alts := [], laidByText := true, laidKinds := [.data], laidTests := true, laidLooks := .later }
def MiniLeastsCardSaid : Prop := Claim7.holds Tryd.pinned (.plain (OpenSpec.ofChange miniLeastsSpec)) miniLeastsCard

/-- THE TIED CARD OF 'shibbolethlaw12.MiniKnown'. -/
def miniKnownCard : Claim7 := { stood := { row := miniKnownRow, standIns := [], harness := (true, "858f64c114a24ce6b38f191244f46b05b030832373bcfbff426b4b28096f3764"), looks := false }, kinds := [], alts := [], laidByText := true, laidKinds := [.data], laidTests := true, laidLooks := .later }
def MiniKnownCardSaid : Prop := Claim7.holds Tryd.pinned (.plain (OpenSpec.ofChange miniKnownSpec)) miniKnownCard

/-- THE TIED CARD OF 'shibbolethlaw12.MiniTakes'. -/
def miniTakesCard : Claim7 := { stood := { row := miniTakesRow, standIns := [], harness := (true, "858f64c114a24ce6b38f191244f46b05b030832373bcfbff426b4b28096f3764"), looks := false }, kinds := [], alts := [], laidByText := true, laidKinds := [.data], laidTests := true, laidLooks := .later }
def MiniTakesCardSaid : Prop := Claim7.holds Tryd.pinned (.plain (OpenSpec.ofChange miniTakesSpec)) miniTakesCard

/-- THE TIED CARD OF 'shibbolethlaw12.MiniSame'. -/
def miniSameCard : Claim7 := { stood := { row := miniSameRow, standIns := [], harness := (true, "858f64c114a24ce6b38f191244f46b05b030832373bcfbff426b4b28096f3764"), looks := false }, kinds := [], alts := [], laidByText := true, laidKinds := [.data], laidTests := true, laidLooks := .later }
def MiniSameCardSaid : Prop := Claim7.holds Tryd.pinned (.plain (OpenSpec.ofChange miniSameSpec)) miniSameCard

/-- THE SECOND FORM's CARD OF 'shibbolethlaw12.MiniLeasts'. -/
def miniLeastsUptoCard : Claim7 := { stood := { row := miniLeastsUptoRow, standIns := [], harness := (true, "858f64c114a24ce6b38f191244f46b05b030832373bcfbff426b4b28096f3764"), looks := false }, kinds := [], alts := [], laidByText := true, laidKinds := [.data], laidTests := true, laidLooks := .later }
def MiniLeastsUptoCardSaid : Prop := Claim7.holds Tryd.pinned (.plain (OpenSpec.upto miniLeastsSpec)) miniLeastsUptoCard

/-- THE SECOND FORM's CARD OF 'shibbolethlaw12.MiniKnown'. -/
def miniKnownUptoCard : Claim7 := { stood := { row := miniKnownUptoRow, standIns := [], harness := (true, "858f64c114a24ce6b38f191244f46b05b030832373bcfbff426b4b28096f3764"), looks := false }, kinds := [], alts := [], laidByText := true, laidKinds := [.data], laidTests := true, laidLooks := .later }
def MiniKnownUptoCardSaid : Prop := Claim7.holds Tryd.pinned (.plain (OpenSpec.upto miniKnownSpec)) miniKnownUptoCard

/-- THE SECOND FORM's CARD OF 'shibbolethlaw12.MiniTakes'. -/
def miniTakesUptoCard : Claim7 := { stood := { row := miniTakesUptoRow, standIns := [], harness := (true, "858f64c114a24ce6b38f191244f46b05b030832373bcfbff426b4b28096f3764"), looks := false }, kinds := [], alts := [], laidByText := true, laidKinds := [.data], laidTests := true, laidLooks := .later }
def MiniTakesUptoCardSaid : Prop := Claim7.holds Tryd.pinned (.plain (OpenSpec.upto miniTakesSpec)) miniTakesUptoCard

/-- THE SECOND FORM's CARD OF 'shibbolethlaw12.MiniSame'. -/
def miniSameUptoCard : Claim7 := { stood := { row := miniSameUptoRow, standIns := [], harness := (true, "858f64c114a24ce6b38f191244f46b05b030832373bcfbff426b4b28096f3764"), looks := false }, kinds := [], alts := [], laidByText := true, laidKinds := [.data], laidTests := true, laidLooks := .later }
def MiniSameUptoCardSaid : Prop := Claim7.holds Tryd.pinned (.plain (OpenSpec.upto miniSameSpec)) miniSameUptoCard
end Rows
end Go.Proofs.YtplkhgmjcljjhaaDoor
