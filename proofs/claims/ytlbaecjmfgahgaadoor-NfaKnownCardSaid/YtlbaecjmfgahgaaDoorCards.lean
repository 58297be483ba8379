/-
  DERIVED. GIVEN WITH THE SEED: THE CARDS: each row of YtlbaecjmfgahgaaDoorRows.lean that lists a variable, with what it lists TIED to the program's text (the seventh form; the later family's looks); each row that meets fmt, with fmt's text TOLD by the authors' own Lean function (tested against real Go, not proved from fmt's source: count such statements apart). THE CARD IS WHAT COUNTS. Prove the row's statement (the work); the ties are given (YtlbaecjmfgahgaaDoorTie.lean); close each card by the builder's one call (the guide's Derived/Test/ToyasCard.lean, 'card_holds'). Laid BY PROGRAM, IN A SANDBOX (cutbox-door.mjs). By AI agents, Wed Nov 11 2026. No macro, syntax, notation, axiom, sorry.
-/
import Derived.Test.YtlbaecjmfgahgaaDoorRows
import GoSem.ClaimSeven
namespace Go.Proofs.YtlbaecjmfgahgaaDoor
namespace Rows

/-- THE TIED CARD OF 'shibbolethlaw10.NfaTrims'. -/
def nfaTrimsCard : Claim7 := { stood := { row := nfaTrimsRow, standIns := [], harness := (true, "d09c15459edd8c33f61d0cc555c3999f1f4bb4daf904ee952419e6bb12cc5cf3"), looks := false }, kinds := [], alts := [], laidByText := true, laidKinds := [.data], laidTests := true, laidLooks := .later }
def NfaTrimsCardSaid : Prop := Claim7.holds Tryd.pinned (.plain (OpenSpec.ofChange nfaTrimsSpec)) nfaTrimsCard

/-- THE TIED CARD OF 'shibbolethlaw10.NfaKnown'. -/
def nfaKnownCard : Claim7 := { stood := { row := nfaKnownRow, standIns := [], harness := (true, "d09c15459edd8c33f61d0cc555c3999f1f4bb4daf904ee952419e6bb12cc5cf3"), looks := false }, kinds := [], alts := [], laidByText := true, laidKinds := [.data], laidTests := true, laidLooks := .later }
def NfaKnownCardSaid : Prop := Claim7.holds Tryd.pinned (.plain (OpenSpec.ofChange nfaKnownSpec)) nfaKnownCard

/-- THE SECOND FORM's CARD OF 'shibbolethlaw10.NfaTrims'. -/
def nfaTrimsUptoCard : Claim7 := { stood := { row := nfaTrimsUptoRow, standIns := [], harness := (true, "d09c15459edd8c33f61d0cc555c3999f1f4bb4daf904ee952419e6bb12cc5cf3"), looks := false }, kinds := [], alts := [], laidByText := true, laidKinds := [.data], laidTests := true, laidLooks := .later }
def NfaTrimsUptoCardSaid : Prop := Claim7.holds Tryd.pinned (.plain (OpenSpec.upto nfaTrimsSpec)) nfaTrimsUptoCard

/-- THE SECOND FORM's CARD OF 'shibbolethlaw10.NfaKnown'. -/
def nfaKnownUptoCard : Claim7 := { stood := { row := nfaKnownUptoRow, standIns := [], harness := (true, "d09c15459edd8c33f61d0cc555c3999f1f4bb4daf904ee952419e6bb12cc5cf3"), looks := false }, kinds := [], alts := [], laidByText := true, laidKinds := [.data], laidTests := true, laidLooks := .later }
def NfaKnownUptoCardSaid : Prop := Claim7.holds Tryd.pinned (.plain (OpenSpec.upto nfaKnownSpec)) nfaKnownUptoCard
end Rows
end Go.Proofs.YtlbaecjmfgahgaaDoor
