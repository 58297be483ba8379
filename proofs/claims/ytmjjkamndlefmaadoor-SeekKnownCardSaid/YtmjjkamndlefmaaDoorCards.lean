/-
  DERIVED. GIVEN WITH THE SEED: THE CARDS: each row of YtmjjkamndlefmaaDoorRows.lean that lists a variable, with what it lists TIED to the program's text (the seventh form; the later family's looks); each row that meets fmt, with fmt's text TOLD by the authors' own Lean function (tested against real Go, not proved from fmt's source: count such statements apart). THE CARD IS WHAT COUNTS. Prove the row's statement (the work); the ties are given (YtmjjkamndlefmaaDoorTie.lean); close each card by the builder's one call (the guide's Derived/Test/ToyasCard.lean, 'card_holds'). Laid BY PROGRAM, IN A SANDBOX (cutbox-door.mjs). By AI agents, Wed Nov 11 2026. No macro, syntax, notation, axiom, sorry.
-/
import Derived.Test.YtmjjkamndlefmaaDoorRows
import GoSem.ClaimSeven
namespace Go.Proofs.YtmjjkamndlefmaaDoor
namespace Rows

/-- THE TIED CARD OF 'shibbolethlaw13.SeekWords'. -/
def seekWordsCard : Claim7 := { stood := { row := seekWordsRow, standIns := [], harness := (true, "5ae6efb057a676888604708a25ee45a9dc5ee2ee62c2315df0fcae417ffdc528"), looks := false }, kinds := [], alts := [], laidByText := true, laidKinds := [.data], laidTests := true, laidLooks := .later }
def SeekWordsCardSaid : Prop := Claim7.holds Tryd.pinned (.plain (OpenSpec.ofChange seekWordsSpec)) seekWordsCard

/-- THE TIED CARD OF 'shibbolethlaw13.SeekPaths'. -/
def seekPathsCard : Claim7 := { stood := { row := seekPathsRow, standIns := [], harness := (true, "5ae6efb057a676888604708a25ee45a9dc5ee2ee62c2315df0fcae417ffdc528"), looks := false }, kinds := [], alts := [], laidByText := true, laidKinds := [.data], laidTests := true, laidLooks := .later }
def SeekPathsCardSaid : Prop := Claim7.holds Tryd.pinned (.plain (OpenSpec.ofChange seekPathsSpec)) seekPathsCard

/-- THE TIED CARD OF 'shibbolethlaw13.SeekKnown'. -/
def seekKnownCard : Claim7 := { stood := { row := seekKnownRow, standIns := [], harness := (true, "5ae6efb057a676888604708a25ee45a9dc5ee2ee62c2315df0fcae417ffdc528"), looks := false }, kinds := [], alts := [], laidByText := true, laidKinds := [.data], laidTests := true, laidLooks := .later }
def SeekKnownCardSaid : Prop := Claim7.holds Tryd.pinned (.plain (OpenSpec.ofChange seekKnownSpec)) seekKnownCard

/-- THE TIED CARD OF 'shibbolethlaw13.SeekLeast'. -/
def seekLeastCard : Claim7 := { stood := { row := seekLeastRow, standIns := [], harness := (true, "5ae6efb057a676888604708a25ee45a9dc5ee2ee62c2315df0fcae417ffdc528"), looks := false }, kinds := [], alts := [], laidByText := true, laidKinds := [.data], laidTests := true, laidLooks := .later }
def SeekLeastCardSaid : Prop := Claim7.holds Tryd.pinned (.plain (OpenSpec.ofChange seekLeastSpec)) seekLeastCard

/-- THE TIED CARD OF 'shibbolethlaw13.SeekPath'. -/
def seekPathCard : Claim7 := { stood := { row := seekPathRow, standIns := [], harness := (true, "5ae6efb057a676888604708a25ee45a9dc5ee2ee62c2315df0fcae417ffdc528"), looks := false }, kinds := [], alts := [], laidByText := true, laidKinds := [.data], laidTests := true, laidLooks := .later }
def SeekPathCardSaid : Prop := Claim7.holds Tryd.pinned (.plain (OpenSpec.ofChange seekPathSpec)) seekPathCard

/-- THE TIED CARD OF 'shibbolethlaw13.SeekOrder'. -/
def seekOrderCard : Claim7 := { stood := { row := seekOrderRow, standIns := [], harness := (true, "5ae6efb057a676888604708a25ee45a9dc5ee2ee62c2315df0fcae417ffdc528"), looks := false }, kinds := [], alts := [], laidByText := true, laidKinds := [.data], laidTests := true, laidLooks := .later }
def SeekOrderCardSaid : Prop := Claim7.holds Tryd.pinned (.plain (OpenSpec.ofChange seekOrderSpec)) seekOrderCard

/-- THE SECOND FORM's CARD OF 'shibbolethlaw13.SeekWords'. -/
def seekWordsUptoCard : Claim7 := { stood := { row := seekWordsUptoRow, standIns := [], harness := (true, "5ae6efb057a676888604708a25ee45a9dc5ee2ee62c2315df0fcae417ffdc528"), looks := false }, kinds := [], alts := [], laidByText := true, laidKinds := [.data], laidTests := true, laidLooks := .later }
def SeekWordsUptoCardSaid : Prop := Claim7.holds Tryd.pinned (.plain (OpenSpec.upto seekWordsSpec)) seekWordsUptoCard

/-- THE SECOND FORM's CARD OF 'shibbolethlaw13.SeekPaths'. -/
def seekPathsUptoCard : Claim7 := { stood := { row := seekPathsUptoRow, standIns := [], harness := (true, "5ae6efb057a676888604708a25ee45a9dc5ee2ee62c2315df0fcae417ffdc528"), looks := false }, kinds := [], alts := [], laidByText := true, laidKinds := [.data], laidTests := true, laidLooks := .later }
def SeekPathsUptoCardSaid : Prop := Claim7.holds Tryd.pinned (.plain (OpenSpec.upto seekPathsSpec)) seekPathsUptoCard

/-- THE SECOND FORM's CARD OF 'shibbolethlaw13.SeekKnown'. -/
def seekKnownUptoCard : Claim7 := { stood := { row := seekKnownUptoRow, standIns := [], harness := (true, "5ae6efb057a676888604708a25ee45a9dc5ee2ee62c2315df0fcae417ffdc528"), looks := false }, kinds := [], alts := [], laidByText := true, laidKinds := [.data], laidTests := true, laidLooks := .later }
def SeekKnownUptoCardSaid : Prop := Claim7.holds Tryd.pinned (.plain (OpenSpec.upto seekKnownSpec)) seekKnownUptoCard

/-- THE SECOND FORM's CARD OF 'shibbolethlaw13.SeekLeast'. -/
def seekLeastUptoCard : Claim7 := { stood := { row := seekLeastUptoRow, standIns := [], harness := (true, "5ae6efb057a676888604708a25ee45a9dc5ee2ee62c2315df0fcae417ffdc528"), looks := false }, kinds := [], alts := [], laidByText := true, laidKinds := [.data], laidTests := true, laidLooks := .later }
def SeekLeastUptoCardSaid : Prop := Claim7.holds Tryd.pinned (.plain (OpenSpec.upto seekLeastSpec)) seekLeastUptoCard

/-- THE SECOND FORM's CARD OF 'shibbolethlaw13.SeekPath'. -/
def seekPathUptoCard : Claim7 := { stood := { row := seekPathUptoRow, standIns := [], harness := (true, "5ae6efb057a676888604708a25ee45a9dc5ee2ee62c2315df0fcae417ffdc528"), looks := false }, kinds := [], alts := [], laidByText := true, laidKinds := [.data], laidTests := true, laidLooks := .later }
def SeekPathUptoCardSaid : Prop := Claim7.holds Tryd.pinned (.plain (OpenSpec.upto seekPathSpec)) seekPathUptoCard

/-- THE SECOND FORM's CARD OF 'shibbolethlaw13.SeekOrder'. -/
def seekOrderUptoCard : Claim7 := { stood := { row := seekOrderUptoRow, standIns := [], harness := (true, "5ae6efb057a676888604708a25ee45a9dc5ee2ee62c2315df0fcae417ffdc528"), looks := false }, kinds := [], alts := [], laidByText := true, laidKinds := [.data], laidTests := true, laidLooks := .later }
def SeekOrderUptoCardSaid : Prop := Claim7.holds Tryd.pinned (.plain (OpenSpec.upto seekOrderSpec)) seekOrderUptoCard
end Rows
end Go.Proofs.YtmjjkamndlefmaaDoor
