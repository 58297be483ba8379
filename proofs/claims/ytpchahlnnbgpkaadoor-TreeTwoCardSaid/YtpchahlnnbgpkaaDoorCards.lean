/-
  DERIVED. GIVEN WITH THE SEED: THE CARDS: each row of YtpchahlnnbgpkaaDoorRows.lean that lists a variable, with what it lists TIED to the program's text (the seventh form; the later family's looks); each row that meets fmt, with fmt's text TOLD by the authors' own Lean function (tested against real Go, not proved from fmt's source: count such statements apart). THE CARD IS WHAT COUNTS. Prove the row's statement (the work); the ties are given (YtpchahlnnbgpkaaDoorTie.lean); close each card by the builder's one call (the guide's Derived/Test/ToyasCard.lean, 'card_holds'). Laid BY PROGRAM, IN A SANDBOX (cutbox-door.mjs). By AI agents, Wed Nov 11 2026. No macro, syntax, notation, axiom, sorry.
-/
import Derived.Test.YtpchahlnnbgpkaaDoorRows
import GoSem.ClaimSeven
namespace Go.Proofs.YtpchahlnnbgpkaaDoor
namespace Rows

/-- THE TIED CARD OF 'shibbolethlaw06.TreeKnown'. -/
def treeKnownCard : Claim7 := { stood := { row := treeKnownRow, standIns := [], harness := (true, "3dad1d64b76144937fd6823c5a113735aec3f5f5ac696528df5d98a58067adb0"), looks := false }, kinds := [], alts := [], laidByText := true, laidKinds := [.data, .data, .data], laidTests := true, laidLooks := .later }
def TreeKnownCardSaid : Prop := Claim7.holds Tryd.pinned (.plain (OpenSpec.ofChange treeKnownSpec)) treeKnownCard

/-- THE TIED CARD OF 'shibbolethlaw06.TreeTells'. -/
def treeTellsCard : Claim7 := { stood := { row := treeTellsRow, standIns := [], harness := (true, "3dad1d64b76144937fd6823c5a113735aec3f5f5ac696528df5d98a58067adb0"), looks := false }, kinds := [], alts := [], laidByText := true, laidKinds := [.data, .data, .data], laidTests := true, laidLooks := .later }
def TreeTellsCardSaid : Prop := Claim7.holds Tryd.pinned (.plain (OpenSpec.ofChange treeTellsSpec)) treeTellsCard

/-- THE TIED CARD OF 'shibbolethlaw06.TreeTwo'. -/
def treeTwoCard : Claim7 := { stood := { row := treeTwoRow, standIns := [], harness := (true, "3dad1d64b76144937fd6823c5a113735aec3f5f5ac696528df5d98a58067adb0"), looks := false }, kinds := [], alts := [], laidByText := true, laidKinds := [.data, .data, .data], laidTests := true, laidLooks := .later }
def TreeTwoCardSaid : Prop := Claim7.holds Tryd.pinned (.plain (OpenSpec.ofChange treeTwoSpec)) treeTwoCard

/-- THE TIED CARD OF 'shibbolethlaw06.TreePlain'. -/
def treePlainCard : Claim7 := { stood := { row := treePlainRow, standIns := [], harness := (true, "3dad1d64b76144937fd6823c5a113735aec3f5f5ac696528df5d98a58067adb0"), looks := false }, kinds := [], alts := [], laidByText := true, laidKinds := [.data, .data, .data], laidTests := true, laidLooks := .later }
def TreePlainCardSaid : Prop := Claim7.holds Tryd.pinned (.plain (OpenSpec.ofChange treePlainSpec)) treePlainCard

/-- THE SECOND FORM's CARD OF 'shibbolethlaw06.TreeKnown'. -/
def treeKnownUptoCard : Claim7 := { stood := { row := treeKnownUptoRow, standIns := [], harness := (true, "3dad1d64b76144937fd6823c5a113735aec3f5f5ac696528df5d98a58067adb0"), looks := false }, kinds := [], alts := [], laidByText := true, laidKinds := [.data, .data, .data], laidTests := true, laidLooks := .later }
def TreeKnownUptoCardSaid : Prop := Claim7.holds Tryd.pinned (.plain (OpenSpec.upto treeKnownSpec)) treeKnownUptoCard

/-- THE SECOND FORM's CARD OF 'shibbolethlaw06.TreeTells'. -/
def treeTellsUptoCard : Claim7 := { stood := { row := treeTellsUptoRow, standIns := [], harness := (true, "3dad1d64b76144937fd6823c5a113735aec3f5f5ac696528df5d98a58067adb0"), looks := false }, kinds := [], alts := [], laidByText := true, laidKinds := [.data, .data, .data], laidTests := true, laidLooks := .later }
def TreeTellsUptoCardSaid : Prop := Claim7.holds Tryd.pinned (.plain (OpenSpec.upto treeTellsSpec)) treeTellsUptoCard

/-- THE SECOND FORM's CARD OF 'shibbolethlaw06.TreeTwo'. -/
def treeTwoUptoCard : Claim7 := { stood := { row := treeTwoUptoRow, standIns := [], harness := (true, "3dad1d64b76144937fd6823c5a113735aec3f5f5ac696528df5d98a58067adb0"), looks := false }, kinds := [], alts := [], laidByText := true, laidKinds := [.data, .data, .data], laidTests := true, laidLooks := .later }
def TreeTwoUptoCardSaid : Prop := Claim7.holds Tryd.pinned (.plain (OpenSpec.upto treeTwoSpec)) treeTwoUptoCard

/-- THE SECOND FORM's CARD OF 'shibbolethlaw06.TreePlain'. -/
def treePlainUptoCard : Claim7 := { stood := { row := treePlainUptoRow, standIns := [], harness := (true, "3dad1d64b76144937fd6823c5a113735aec3f5f5ac696528df5d98a58067adb0"), looks := false }, kinds := [], alts := [], laidByText := true, laidKinds := [.data, .data, .data], laidTests := true, laidLooks := .later }
def TreePlainUptoCardSaid : Prop := Claim7.holds Tryd.pinned (.plain (OpenSpec.upto treePlainSpec)) treePlainUptoCard
end Rows
end Go.Proofs.YtpchahlnnbgpkaaDoor
