/-
  DERIVED. GIVEN WITH THE SEED: THE CARDS: each row of YtioghbhcdofnnaaDoorRows.lean that lists a variable, with what it lists TIED to the program's text (the seventh form; the later family's looks); each row that meets fmt, with fmt's text TOLD by the authors' own Lean function (tested against real Go, not proved from fmt's source: count such statements apart). THE CARD IS WHAT COUNTS. Prove the row's statement (the work); the ties are given (YtioghbhcdofnnaaDoorTie.lean); close each card by the builder's one call (the guide's Derived/Test/ToyasCard.lean, 'card_holds'). Laid BY PROGRAM, IN A SANDBOX (cutbox-door.mjs). By AI agents, Wed Nov 11 2026. No macro, syntax, notation, axiom, sorry.
-/
import Derived.Test.YtioghbhcdofnnaaDoorRows
import GoSem.ClaimSeven
namespace Go.Proofs.YtioghbhcdofnnaaDoor
namespace Rows

/-- THE TIED CARD OF 'shibbolethlaw01.OctetsKnown'. -/
def octetsKnownCard : Claim7 := { stood := { row := octetsKnownRow, standIns := [], harness := (true, "b489697a75602c849ad403f2d6e7d0a5deb2146d64912d600cb0346adfcdaea2"), looks := false }, kinds := [], alts := [], laidByText := true, laidKinds := [.data], laidTests := true, laidLooks := .later }
def OctetsKnownCardSaid : Prop := Claim7.holds Tryd.pinned (.plain (OpenSpec.ofChange octetsKnownSpec)) octetsKnownCard

/-- THE TIED CARD OF 'shibbolethlaw01.OctetsTells'. -/
def octetsTellsCard : Claim7 := { stood := { row := octetsTellsRow, standIns := [], harness := (true, "b489697a75602c849ad403f2d6e7d0a5deb2146d64912d600cb0346adfcdaea2"), looks := false }, kinds := [], alts := [], laidByText := true, laidKinds := [.data], laidTests := true, laidLooks := .later }
def OctetsTellsCardSaid : Prop := Claim7.holds Tryd.pinned (.plain (OpenSpec.ofChange octetsTellsSpec)) octetsTellsCard

/-- THE TIED CARD OF 'shibbolethlaw01.OctetsOf'. -/
def octetsOfCard : Claim7 := { stood := { row := octetsOfRow, standIns := [], harness := (true, "b489697a75602c849ad403f2d6e7d0a5deb2146d64912d600cb0346adfcdaea2"), looks := false }, kinds := [], alts := [], laidByText := true, laidKinds := [.data], laidTests := true, laidLooks := .later }
def OctetsOfCardSaid : Prop := Claim7.holds Tryd.pinned (.plain (OpenSpec.ofChange octetsOfSpec)) octetsOfCard

/-- THE TIED CARD OF 'shibbolethlaw01.OctetsAlgebra'. -/
def octetsAlgebraCard : Claim7 := { stood := { row := octetsAlgebraRow, standIns := [], harness := (true, "b489697a75602c849ad403f2d6e7d0a5deb2146d64912d600cb0346adfcdaea2"), looks := false }, kinds := [], alts := [], laidByText := true, laidKinds := [.data], laidTests := true, laidLooks := .later }
def OctetsAlgebraCardSaid : Prop := Claim7.holds Tryd.pinned (.plain (OpenSpec.ofChange octetsAlgebraSpec)) octetsAlgebraCard

/-- THE TIED CARD OF 'shibbolethlaw01.OctetsBack'. -/
def octetsBackCard : Claim7 := { stood := { row := octetsBackRow, standIns := [], harness := (true, "b489697a75602c849ad403f2d6e7d0a5deb2146d64912d600cb0346adfcdaea2"), looks := false }, kinds := [], alts := [], laidByText := true, laidKinds := [.data], laidTests := true, laidLooks := .later }
def OctetsBackCardSaid : Prop := Claim7.holds Tryd.pinned (.plain (OpenSpec.ofChange octetsBackSpec)) octetsBackCard

/-- THE SECOND FORM's CARD OF 'shibbolethlaw01.OctetsKnown'. -/
def octetsKnownUptoCard : Claim7 := { stood := { row := octetsKnownUptoRow, standIns := [], harness := (true, "b489697a75602c849ad403f2d6e7d0a5deb2146d64912d600cb0346adfcdaea2"), looks := false }, kinds := [], alts := [], laidByText := true, laidKinds := [.data], laidTests := true, laidLooks := .later }
def OctetsKnownUptoCardSaid : Prop := Claim7.holds Tryd.pinned (.plain (OpenSpec.upto octetsKnownSpec)) octetsKnownUptoCard

/-- THE SECOND FORM's CARD OF 'shibbolethlaw01.OctetsTells'. -/
def octetsTellsUptoCard : Claim7 := { stood := { row := octetsTellsUptoRow, standIns := [], harness := (true, "b489697a75602c849ad403f2d6e7d0a5deb2146d64912d600cb0346adfcdaea2"), looks := false }, kinds := [], alts := [], laidByText := true, laidKinds := [.data], laidTests := true, laidLooks := .later }
def OctetsTellsUptoCardSaid : Prop := Claim7.holds Tryd.pinned (.plain (OpenSpec.upto octetsTellsSpec)) octetsTellsUptoCard

/-- THE SECOND FORM's CARD OF 'shibbolethlaw01.OctetsOf'. -/
def octetsOfUptoCard : Claim7 := { stood := { row := octetsOfUptoRow, standIns := [], harness := (true, "b489697a75602c849ad403f2d6e7d0a5deb2146d64912d600cb0346adfcdaea2"), looks := false }, kinds := [], alts := [], laidByText := true, laidKinds := [.data], laidTests := true, laidLooks := .later }
def OctetsOfUptoCardSaid : Prop := Claim7.holds Tryd.pinned (.plain (OpenSpec.upto octetsOfSpec)) octetsOfUptoCard

/-- THE SECOND FORM's CARD OF 'shibbolethlaw01.OctetsAlgebra'. -/
def octetsAlgebraUptoCard : Claim7 := { stood := { row := octetsAlgebraUptoRow, standIns := [], harness := (true, "b489697a75602c849ad403f2d6e7d0a5deb2146d64912d600cb0346adfcdaea2"), looks := false }, kinds := [], alts := [], laidByText := true, laidKinds := [.data], laidTests := true, laidLooks := .later }
def OctetsAlgebraUptoCardSaid : Prop := Claim7.holds Tryd.pinned (.plain (OpenSpec.upto octetsAlgebraSpec)) octetsAlgebraUptoCard

/-- THE SECOND FORM's CARD OF 'shibbolethlaw01.OctetsBack'. -/
def octetsBackUptoCard : Claim7 := { stood := { row := octetsBackUptoRow, standIns := [], harness := (true, "b489697a75602c849ad403f2d6e7d0a5deb2146d64912d600cb0346adfcdaea2"), looks := false }, kinds := [], alts := [], laidByText := true, laidKinds := [.data], laidTests := true, laidLooks := .later }
def OctetsBackUptoCardSaid : Prop := Claim7.holds Tryd.pinned (.plain (OpenSpec.upto octetsBackSpec)) octetsBackUptoCard
end Rows
end Go.Proofs.YtioghbhcdofnnaaDoor
