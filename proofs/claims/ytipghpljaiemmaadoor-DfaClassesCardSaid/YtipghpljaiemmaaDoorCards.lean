/-
  DERIVED. GIVEN WITH THE SEED: THE CARDS: each row of YtipghpljaiemmaaDoorRows.lean that lists a variable, with what it lists TIED to the program's text (the seventh form; the later family's looks); each row that meets fmt, with fmt's text TOLD by the authors' own Lean function (tested against real Go, not proved from fmt's source: count such statements apart). THE CARD IS WHAT COUNTS. Prove the row's statement (the work); the ties are given (YtipghpljaiemmaaDoorTie.lean); close each card by the builder's one call (the guide's Derived/Test/ToyasCard.lean, 'card_holds'). Laid BY PROGRAM, IN A SANDBOX (cutbox-door.mjs). By AI agents, Wed Nov 11 2026. No macro, syntax, notation, axiom, sorry.
-/
import Derived.Test.YtipghpljaiemmaaDoorRows
import GoSem.ClaimSeven
namespace Go.Proofs.YtipghpljaiemmaaDoor
namespace Rows

/-- THE TIED CARD OF 'shibbolethlaw11.DfaBuilds'. -/
def dfaBuildsCard : Claim7 := { stood := { row := dfaBuildsRow, standIns := [], harness := (true, "ffe2c5234a04b1f76460fdb2c02fe03f2df3a8a6b27a01885fb7e7ceb622e739"), looks := true }, kinds := [], alts := [], laidByText := true, laidKinds := [.data], laidTests := true, laidLooks := .later }
def DfaBuildsCardSaid : Prop := Claim7.holds Tryd.pinned (.plain (OpenSpec.ofChange dfaBuildsSpec)) dfaBuildsCard

/-- THE TIED CARD OF 'shibbolethlaw11.DfaKnown'. -/
def dfaKnownCard : Claim7 := { stood := { row := dfaKnownRow, standIns := [], harness := (true, "ffe2c5234a04b1f76460fdb2c02fe03f2df3a8a6b27a01885fb7e7ceb622e739"), looks := true }, kinds := [], alts := [], laidByText := true, laidKinds := [.data], laidTests := true, laidLooks := .later }
def DfaKnownCardSaid : Prop := Claim7.holds Tryd.pinned (.plain (OpenSpec.ofChange dfaKnownSpec)) dfaKnownCard

/-- THE TIED CARD OF 'shibbolethlaw11.DfaTakes'. -/
def dfaTakesCard : Claim7 := { stood := { row := dfaTakesRow, standIns := [], harness := (true, "ffe2c5234a04b1f76460fdb2c02fe03f2df3a8a6b27a01885fb7e7ceb622e739"), looks := true }, kinds := [], alts := [], laidByText := true, laidKinds := [.data], laidTests := true, laidLooks := .later }
def DfaTakesCardSaid : Prop := Claim7.holds Tryd.pinned (.plain (OpenSpec.ofChange dfaTakesSpec)) dfaTakesCard

/-- THE TIED CARD OF 'shibbolethlaw11.DfaReached'. -/
def dfaReachedCard : Claim7 := { stood := { row := dfaReachedRow, standIns := [], harness := (true, "ffe2c5234a04b1f76460fdb2c02fe03f2df3a8a6b27a01885fb7e7ceb622e739"), looks := true }, kinds := [], alts := [], laidByText := true, laidKinds := [.data], laidTests := true, laidLooks := .later }
def DfaReachedCardSaid : Prop := Claim7.holds Tryd.pinned (.plain (OpenSpec.ofChange dfaReachedSpec)) dfaReachedCard

/-- THE TIED CARD OF 'shibbolethlaw11.DfaClasses'. -/
def dfaClassesCard : Claim7 := { stood := { row := dfaClassesRow, standIns := [], harness := (true, "ffe2c5234a04b1f76460fdb2c02fe03f2df3a8a6b27a01885fb7e7ceb622e739"), looks := true }, kinds := [], alts := [], laidByText := true, laidKinds := [.data], laidTests := true, laidLooks := .later }
def DfaClassesCardSaid : Prop := Claim7.holds Tryd.pinned (.plain (OpenSpec.ofChange dfaClassesSpec)) dfaClassesCard

/-- THE SECOND FORM's CARD OF 'shibbolethlaw11.DfaBuilds'. -/
def dfaBuildsUptoCard : Claim7 := { stood := { row := dfaBuildsUptoRow, standIns := [], harness := (true, "ffe2c5234a04b1f76460fdb2c02fe03f2df3a8a6b27a01885fb7e7ceb622e739"), looks := true }, kinds := [], alts := [], laidByText := true, laidKinds := [.data], laidTests := true, laidLooks := .later }
def DfaBuildsUptoCardSaid : Prop := Claim7.holds Tryd.pinned (.plain (OpenSpec.upto dfaBuildsSpec)) dfaBuildsUptoCard

/-- THE SECOND FORM's CARD OF 'shibbolethlaw11.DfaKnown'. -/
def dfaKnownUptoCard : Claim7 := { stood := { row := dfaKnownUptoRow, standIns := [], harness := (true, "ffe2c5234a04b1f76460fdb2c02fe03f2df3a8a6b27a01885fb7e7ceb622e739"), looks := true }, kinds := [], alts := [], laidByText := true, laidKinds := [.data], laidTests := true, laidLooks := .later }
def DfaKnownUptoCardSaid : Prop := Claim7.holds Tryd.pinned (.plain (OpenSpec.upto dfaKnownSpec)) dfaKnownUptoCard

/-- THE SECOND FORM's CARD OF 'shibbolethlaw11.DfaTakes'. -/
def dfaTakesUptoCard : Claim7 := { stood := { row := dfaTakesUptoRow, standIns := [], harness := (true, "ffe2c5234a04b1f76460fdb2c02fe03f2df3a8a6b27a01885fb7e7ceb622e739"), looks := true }, kinds := [], alts := [], laidByText := true, laidKinds := [.data], laidTests := true, laidLooks := .later }
def DfaTakesUptoCardSaid : Prop := Claim7.holds Tryd.pinned (.plain (OpenSpec.upto dfaTakesSpec)) dfaTakesUptoCard

/-- THE SECOND FORM's CARD OF 'shibbolethlaw11.DfaReached'. -/
def dfaReachedUptoCard : Claim7 := { stood := { row := dfaReachedUptoRow, standIns := [], harness := (true, "ffe2c5234a04b1f76460fdb2c02fe03f2df3a8a6b27a01885fb7e7ceb622e739"), looks := true }, kinds := [], alts := [], laidByText := true, laidKinds := [.data], laidTests := true, laidLooks := .later }
def DfaReachedUptoCardSaid : Prop := Claim7.holds Tryd.pinned (.plain (OpenSpec.upto dfaReachedSpec)) dfaReachedUptoCard

/-- THE SECOND FORM's CARD OF 'shibbolethlaw11.DfaClasses'. -/
def dfaClassesUptoCard : Claim7 := { stood := { row := dfaClassesUptoRow, standIns := [], harness := (true, "ffe2c5234a04b1f76460fdb2c02fe03f2df3a8a6b27a01885fb7e7ceb622e739"), looks := true }, kinds := [], alts := [], laidByText := true, laidKinds := [.data], laidTests := true, laidLooks := .later }
def DfaClassesUptoCardSaid : Prop := Claim7.holds Tryd.pinned (.plain (OpenSpec.upto dfaClassesSpec)) dfaClassesUptoCard
end Rows
end Go.Proofs.YtipghpljaiemmaaDoor
