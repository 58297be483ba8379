/-
  DERIVED. GIVEN WITH THE SEED: THE CARDS: each row of YtkpdggemhjhnbaaDoorRows.lean that lists a variable, with what it lists TIED to the program's text (the seventh form; the later family's looks); each row that meets fmt, with fmt's text TOLD by the authors' own Lean function (tested against real Go, not proved from fmt's source: count such statements apart). THE CARD IS WHAT COUNTS. Prove the row's statement (the work); the ties are given (YtkpdggemhjhnbaaDoorTie.lean); close each card by the builder's one call (the guide's Derived/Test/ToyasCard.lean, 'card_holds'). Laid BY PROGRAM, IN A SANDBOX (cutbox-door.mjs). By AI agents, Wed Nov 11 2026. No macro, syntax, notation, axiom, sorry.
-/
import Derived.Test.YtkpdggemhjhnbaaDoorRows
import GoSem.ClaimSeven
namespace Go.Proofs.YtkpdggemhjhnbaaDoor
namespace Rows

/-- THE TIED CARD OF 'shibbolethlaw10.NfaRuns'. -/
def nfaRunsCard : Claim7 := { stood := { row := nfaRunsRow, standIns := [], harness := (true, "fe9f87550e9df4e594d1896cfdad3ee73529a58888aaa954c4ff6d2013607562"), looks := false }, kinds := [], alts := [], laidByText := true, laidKinds := [.data], laidTests := true, laidLooks := .later }
def NfaRunsCardSaid : Prop := Claim7.holds Tryd.pinned (.plain (OpenSpec.ofChange nfaRunsSpec)) nfaRunsCard

/-- THE TIED CARD OF 'shibbolethlaw10.NfaTrims'. -/
def nfaTrimsCard : Claim7 := { stood := { row := nfaTrimsRow, standIns := [], harness := (true, "fe9f87550e9df4e594d1896cfdad3ee73529a58888aaa954c4ff6d2013607562"), looks := false }, kinds := [], alts := [], laidByText := true, laidKinds := [.data], laidTests := true, laidLooks := .later }
def NfaTrimsCardSaid : Prop := Claim7.holds Tryd.pinned (.plain (OpenSpec.ofChange nfaTrimsSpec)) nfaTrimsCard

/-- THE TIED CARD OF 'shibbolethlaw10.NfaKnown'. -/
def nfaKnownCard : Claim7 := { stood := { row := nfaKnownRow, standIns := [], harness := (true, "fe9f87550e9df4e594d1896cfdad3ee73529a58888aaa954c4ff6d2013607562"), looks := false }, kinds := [], alts := [], laidByText := true, laidKinds := [.data], laidTests := true, laidLooks := .later }
def NfaKnownCardSaid : Prop := Claim7.holds Tryd.pinned (.plain (OpenSpec.ofChange nfaKnownSpec)) nfaKnownCard

/-- THE TIED CARD OF 'shibbolethlaw10.NfaUseful'. -/
def nfaUsefulCard : Claim7 := { stood := { row := nfaUsefulRow, standIns := [], harness := (true, "fe9f87550e9df4e594d1896cfdad3ee73529a58888aaa954c4ff6d2013607562"), looks := false }, kinds := [], alts := [], laidByText := true, laidKinds := [.data], laidTests := true, laidLooks := .later }
def NfaUsefulCardSaid : Prop := Claim7.holds Tryd.pinned (.plain (OpenSpec.ofChange nfaUsefulSpec)) nfaUsefulCard

/-- THE TIED CARD OF 'shibbolethlaw10.NfaClasses'. -/
def nfaClassesCard : Claim7 := { stood := { row := nfaClassesRow, standIns := [], harness := (true, "fe9f87550e9df4e594d1896cfdad3ee73529a58888aaa954c4ff6d2013607562"), looks := false }, kinds := [], alts := [], laidByText := true, laidKinds := [.data], laidTests := true, laidLooks := .later }
def NfaClassesCardSaid : Prop := Claim7.holds Tryd.pinned (.plain (OpenSpec.ofChange nfaClassesSpec)) nfaClassesCard

/-- THE TIED CARD OF 'shibbolethlaw10.NfaOwn'. -/
def nfaOwnCard : Claim7 := { stood := { row := nfaOwnRow, standIns := [], harness := (true, "fe9f87550e9df4e594d1896cfdad3ee73529a58888aaa954c4ff6d2013607562"), looks := false }, kinds := [], alts := [], laidByText := true, laidKinds := [.data], laidTests := true, laidLooks := .later }
def NfaOwnCardSaid : Prop := Claim7.holds Tryd.pinned (.plain (OpenSpec.ofChange nfaOwnSpec)) nfaOwnCard

/-- THE SECOND FORM's CARD OF 'shibbolethlaw10.NfaRuns'. -/
def nfaRunsUptoCard : Claim7 := { stood := { row := nfaRunsUptoRow, standIns := [], harness := (true, "fe9f87550e9df4e594d1896cfdad3ee73529a58888aaa954c4ff6d2013607562"), looks := false }, kinds := [], alts := [], laidByText := true, laidKinds := [.data], laidTests := true, laidLooks := .later }
def NfaRunsUptoCardSaid : Prop := Claim7.holds Tryd.pinned (.plain (OpenSpec.upto nfaRunsSpec)) nfaRunsUptoCard

/-- THE SECOND FORM's CARD OF 'shibbolethlaw10.NfaTrims'. -/
def nfaTrimsUptoCard : Claim7 := { stood := { row := nfaTrimsUptoRow, standIns := [], harness := (true, "fe9f87550e9df4e594d1896cfdad3ee73529a58888aaa954c4ff6d2013607562"), looks := false }, kinds := [], alts := [], laidByText := true, laidKinds := [.data], laidTests := true, laidLooks := .later }
def NfaTrimsUptoCardSaid : Prop := Claim7.holds Tryd.pinned (.plain (OpenSpec.upto nfaTrimsSpec)) nfaTrimsUptoCard

/-- THE SECOND FORM's CARD OF 'shibbolethlaw10.NfaKnown'. -/
def nfaKnownUptoCard : Claim7 := { stood := { row := nfaKnownUptoRow, standIns := [], harness := (true, "fe9f87550e9df4e594d1896cfdad3ee73529a58888aaa954c4ff6d2013607562"), looks := false }, kinds := [], alts := [], laidByText := true, laidKinds := [.data], laidTests := true, laidLooks := .later }
def NfaKnownUptoCardSaid : Prop := Claim7.holds Tryd.pinned (.plain (OpenSpec.upto nfaKnownSpec)) nfaKnownUptoCard

/-- THE SECOND FORM's CARD OF 'shibbolethlaw10.NfaUseful'. -/
def nfaUsefulUptoCard : Claim7 := { stood := { row := nfaUsefulUptoRow, standIns := [], harness := (true, "fe9f87550e9df4e594d1896cfdad3ee73529a58888aaa954c4ff6d2013607562"), looks := false }, kinds := [], alts := [], laidByText := true, laidKinds := [.data], laidTests := true, laidLooks := .later }
def NfaUsefulUptoCardSaid : Prop := Claim7.holds Tryd.pinned (.plain (OpenSpec.upto nfaUsefulSpec)) nfaUsefulUptoCard

/-- THE SECOND FORM's CARD OF 'shibbolethlaw10.NfaClasses'. -/
def nfaClassesUptoCard : Claim7 := { stood := { row := nfaClassesUptoRow, standIns := [], harness := (true, "fe9f87550e9df4e594d1896cfdad3ee73529a58888aaa954c4ff6d2013607562"), looks := false }, kinds := [], alts := [], laidByText := true, laidKinds := [.data], laidTests := true, laidLooks := .later }
def NfaClassesUptoCardSaid : Prop := Claim7.holds Tryd.pinned (.plain (OpenSpec.upto nfaClassesSpec)) nfaClassesUptoCard

/-- THE SECOND FORM's CARD OF 'shibbolethlaw10.NfaOwn'. -/
def nfaOwnUptoCard : Claim7 := { stood := { row := nfaOwnUptoRow, standIns := [], harness := (true, "fe9f87550e9df4e594d1896cfdad3ee73529a58888aaa954c4ff6d2013607562"), looks := false }, kinds := [], alts := [], laidByText := true, laidKinds := [.data], laidTests := true, laidLooks := .later }
def NfaOwnUptoCardSaid : Prop := Claim7.holds Tryd.pinned (.plain (OpenSpec.upto nfaOwnSpec)) nfaOwnUptoCard
end Rows
end Go.Proofs.YtkpdggemhjhnbaaDoor
