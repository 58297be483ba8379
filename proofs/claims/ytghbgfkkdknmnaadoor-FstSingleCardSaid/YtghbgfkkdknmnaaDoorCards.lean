/-
  DERIVED. GIVEN WITH THE SEED: THE CARDS: each row of YtghbgfkkdknmnaaDoorRows.lean that lists a variable, with what it lists TIED to the program's text (the seventh form; the later family's looks); each row that meets fmt, with fmt's text TOLD by the authors' own Lean function (tested against real Go, not proved from fmt's source: count such statements apart). THE CARD IS WHAT COUNTS. Prove the row's statement (the work); the ties are given (YtghbgfkkdknmnaaDoorTie.lean); close each card by the builder's one call (the guide's Derived/Test/ToyasCard.lean, 'card_holds'). Laid BY PROGRAM, IN A SANDBOX (cutbox-door.mjs). By AI agents, Wed Nov 11 2026. No macro, syntax, notation, axiom, sorry.
-/
import Derived.Test.YtghbgfkkdknmnaaDoorRows
import GoSem.ClaimSeven
namespace Go.Proofs.YtghbgfkkdknmnaaDoor
namespace Rows

/-- THE TIED CARD OF 'shibbolethlaw14.FstMarks'. -/
def fstMarksCard : Claim7 := { stood := { row := fstMarksRow, standIns := [], harness := (true, "58e16f82f42b9841597640fd8e385e86af32e1939b14895c49203cd9d9eaad2d"), looks := false }, kinds := [], alts := [], laidByText := true, laidKinds := [.data], laidTests := true, laidLooks := .later }
def FstMarksCardSaid : Prop := Claim7.holds Tryd.pinned (.plain (OpenSpec.ofChange fstMarksSpec)) fstMarksCard

/-- THE TIED CARD OF 'shibbolethlaw14.FstSingle'. -/
def fstSingleCard : Claim7 := { stood := { row := fstSingleRow, standIns := [], harness := (true, "58e16f82f42b9841597640fd8e385e86af32e1939b14895c49203cd9d9eaad2d"), looks := false }, kinds := [], alts := [], laidByText := true, laidKinds := [.data], laidTests := true, laidLooks := .later }
def FstSingleCardSaid : Prop := Claim7.holds Tryd.pinned (.plain (OpenSpec.ofChange fstSingleSpec)) fstSingleCard

/-- THE TIED CARD OF 'shibbolethlaw14.FstKnown'. -/
def fstKnownCard : Claim7 := { stood := { row := fstKnownRow, standIns := [], harness := (true, "58e16f82f42b9841597640fd8e385e86af32e1939b14895c49203cd9d9eaad2d"), looks := false }, kinds := [], alts := [], laidByText := true, laidKinds := [.data], laidTests := true, laidLooks := .later }
def FstKnownCardSaid : Prop := Claim7.holds Tryd.pinned (.plain (OpenSpec.ofChange fstKnownSpec)) fstKnownCard

/-- THE TIED CARD OF 'shibbolethlaw14.FstAll'. -/
def fstAllCard : Claim7 := { stood := { row := fstAllRow, standIns := [], harness := (true, "58e16f82f42b9841597640fd8e385e86af32e1939b14895c49203cd9d9eaad2d"), looks := false }, kinds := [], alts := [], laidByText := true, laidKinds := [.data], laidTests := true, laidLooks := .later }
def FstAllCardSaid : Prop := Claim7.holds Tryd.pinned (.plain (OpenSpec.ofChange fstAllSpec)) fstAllCard

/-- THE TIED CARD OF 'shibbolethlaw14.FstTrims'. -/
def fstTrimsCard : Claim7 := { stood := { row := fstTrimsRow, standIns := [], harness := (true, "58e16f82f42b9841597640fd8e385e86af32e1939b14895c49203cd9d9eaad2d"), looks := false }, kinds := [], alts := [], laidByText := true, laidKinds := [.data], laidTests := true, laidLooks := .later }
def FstTrimsCardSaid : Prop := Claim7.holds Tryd.pinned (.plain (OpenSpec.ofChange fstTrimsSpec)) fstTrimsCard

/-- THE TIED CARD OF 'shibbolethlaw14.FstFields'. -/
def fstFieldsCard : Claim7 := { stood := { row := fstFieldsRow, standIns := [], harness := (true, "58e16f82f42b9841597640fd8e385e86af32e1939b14895c49203cd9d9eaad2d"), looks := false }, kinds := [], alts := [], laidByText := true, laidKinds := [.data], laidTests := true, laidLooks := .later }
def FstFieldsCardSaid : Prop := Claim7.holds Tryd.pinned (.plain (OpenSpec.ofChange fstFieldsSpec)) fstFieldsCard

/-- THE SECOND FORM's CARD OF 'shibbolethlaw14.FstMarks'. -/
def fstMarksUptoCard : Claim7 := { stood := { row := fstMarksUptoRow, standIns := [], harness := (true, "58e16f82f42b9841597640fd8e385e86af32e1939b14895c49203cd9d9eaad2d"), looks := false }, kinds := [], alts := [], laidByText := true, laidKinds := [.data], laidTests := true, laidLooks := .later }
def FstMarksUptoCardSaid : Prop := Claim7.holds Tryd.pinned (.plain (OpenSpec.upto fstMarksSpec)) fstMarksUptoCard

/-- THE SECOND FORM's CARD OF 'shibbolethlaw14.FstSingle'. -/
def fstSingleUptoCard : Claim7 := { stood := { row := fstSingleUptoRow, standIns := [], harness := (true, "58e16f82f42b9841597640fd8e385e86af32e1939b14895c49203cd9d9eaad2d"), looks := false }, kinds := [], alts := [], laidByText := true, laidKinds := [.data], laidTests := true, laidLooks := .later }
def FstSingleUptoCardSaid : Prop := Claim7.holds Tryd.pinned (.plain (OpenSpec.upto fstSingleSpec)) fstSingleUptoCard

/-- THE SECOND FORM's CARD OF 'shibbolethlaw14.FstKnown'. -/
def fstKnownUptoCard : Claim7 := { stood := { row := fstKnownUptoRow, standIns := [], harness := (true, "58e16f82f42b9841597640fd8e385e86af32e1939b14895c49203cd9d9eaad2d"), looks := false }, kinds := [], alts := [], laidByText := true, laidKinds := [.data], laidTests := true, laidLooks := .later }
def FstKnownUptoCardSaid : Prop := Claim7.holds Tryd.pinned (.plain (OpenSpec.upto fstKnownSpec)) fstKnownUptoCard

/-- THE SECOND FORM's CARD OF 'shibbolethlaw14.FstAll'. -/
def fstAllUptoCard : Claim7 := { stood := { row := fstAllUptoRow, standIns := [], harness := (true, "58e16f82f42b9841597640fd8e385e86af32e1939b14895c49203cd9d9eaad2d"), looks := false }, kinds := [], alts := [], laidByText := true, laidKinds := [.data], laidTests := true, laidLooks := .later }
def FstAllUptoCardSaid : Prop := Claim7.holds Tryd.pinned (.plain (OpenSpec.upto fstAllSpec)) fstAllUptoCard

/-- THE SECOND FORM's CARD OF 'shibbolethlaw14.FstTrims'. -/
def fstTrimsUptoCard : Claim7 := { stood := { row := fstTrimsUptoRow, standIns := [], harness := (true, "58e16f82f42b9841597640fd8e385e86af32e1939b14895c49203cd9d9eaad2d"), looks := false }, kinds := [], alts := [], laidByText := true, laidKinds := [.data], laidTests := true, laidLooks := .later }
def FstTrimsUptoCardSaid : Prop := Claim7.holds Tryd.pinned (.plain (OpenSpec.upto fstTrimsSpec)) fstTrimsUptoCard

/-- THE SECOND FORM's CARD OF 'shibbolethlaw14.FstFields'. -/
def fstFieldsUptoCard : Claim7 := { stood := { row := fstFieldsUptoRow, standIns := [], harness := (true, "58e16f82f42b9841597640fd8e385e86af32e1939b14895c49203cd9d9eaad2d"), looks := false }, kinds := [], alts := [], laidByText := true, laidKinds := [.data], laidTests := true, laidLooks := .later }
def FstFieldsUptoCardSaid : Prop := Claim7.holds Tryd.pinned (.plain (OpenSpec.upto fstFieldsSpec)) fstFieldsUptoCard
end Rows
end Go.Proofs.YtghbgfkkdknmnaaDoor
