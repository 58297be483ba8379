/-
  NARROWER THAN 'FOR EVERY INPUT', by the rows' own cells (each row's printed sentence says how): FstMarks: laid · FstSingle: laid · FstKnown: laid · FstAll: laid · FstTrims: laid · FstFields: laid.
  DERIVED. THE GIVEN ROWS OF THIS SEAT. 6 by the template 'for every input the law returns true; each argument reads behind the call as it read before'; 0 by the template 'total and deterministic' (their statements: YtghbgfkkdknmnaaDoorTotals.lean).
  GIVEN WITH THE SEED: the statements are not yours to turn. If you find one false, say at which input.
  Laid BY PROGRAM, IN A SANDBOX (cutbox-rows.mjs): the forced cells as the released guide's own fill.sh prints them over the translation 41d76ad7f5b62a5c… (all of the seat's roots in one cut). By AI agents, Wed Nov 11 2026. No macro, syntax, notation, axiom, sorry.
-/
import Derived.Test.YtghbgfkkdknmnaaDoorChecked
import GoSem.Claim
import GoSem.ClaimJoined
import GoSem.ClaimMapViews
import Derived.JoinedTies
import Derived.KernelRfl
namespace Go.Proofs.YtghbgfkkdknmnaaDoor
/- THE CELL 'sum', in the pinned program and in every row, IS THE sha256 OF THE DUMP (.gsa) THAT YtghbgfkkdknmnaaDoorProg.lean LOADS. Nothing in Lean hashes anything: it is a label: what it is worth is what the hold of that sum in a sandbox is worth. -/
noncomputable def Tryd.pinned : Pinned := { name := "ytghbgfkkdknmnaadoor", sum := "41d76ad7f5b62a5c22995016a62b46403b3fdf5d58d6c98b7dba8781252ff9e4", checked := Tryd.checked }
namespace Rows
def none {H : Type} : Left H := { results := [], args := [] }

/- WHAT THE LISTED PACKAGE-LEVEL VARIABLES READ AS WHEN THE CALL BEGINS. Each datum BY PROGRAM (the guide's laid-datum.mjs) off the statement by which the dump's own 'gosem.cut.vars' lays the variable. In a bare row this is a premise. The card (YtghbgfkkdknmnaaDoorCards.lean) ties it to the program's text. -/
def laid_math_bits_deBruijn64tab {H : Type} : DataW H := .agg [.lit (.int .u8 0), .lit (.int .u8 1), .lit (.int .u8 56), .lit (.int .u8 2), .lit (.int .u8 57), .lit (.int .u8 49), .lit (.int .u8 28), .lit (.int .u8 3), .lit (.int .u8 61), .lit (.int .u8 58), .lit (.int .u8 42), .lit (.int .u8 50), .lit (.int .u8 38), .lit (.int .u8 29), .lit (.int .u8 17), .lit (.int .u8 4), .lit (.int .u8 62), .lit (.int .u8 47), .lit (.int .u8 59), .lit (.int .u8 36), .lit (.int .u8 45), .lit (.int .u8 43), .lit (.int .u8 51), .lit (.int .u8 22), .lit (.int .u8 53), .lit (.int .u8 39), .lit (.int .u8 33), .lit (.int .u8 30), .lit (.int .u8 24), .lit (.int .u8 18), .lit (.int .u8 12), .lit (.int .u8 5), .lit (.int .u8 63), .lit (.int .u8 55), .lit (.int .u8 48), .lit (.int .u8 27), .lit (.int .u8 60), .lit (.int .u8 41), .lit (.int .u8 37), .lit (.int .u8 16), .lit (.int .u8 46), .lit (.int .u8 35), .lit (.int .u8 44), .lit (.int .u8 21), .lit (.int .u8 52), .lit (.int .u8 32), .lit (.int .u8 23), .lit (.int .u8 11), .lit (.int .u8 54), .lit (.int .u8 26), .lit (.int .u8 40), .lit (.int .u8 15), .lit (.int .u8 34), .lit (.int .u8 20), .lit (.int .u8 31), .lit (.int .u8 10), .lit (.int .u8 25), .lit (.int .u8 14), .lit (.int .u8 19), .lit (.int .u8 9), .lit (.int .u8 13), .lit (.int .u8 8), .lit (.int .u8 7), .lit (.int .u8 6)]

/-- 'shibbolethlaw14.FstMarks': WHATEVER THE INPUT: true; the input reads as it did. -/
def fstMarksSpec : ChangeSpec := { name := "fstMarks", fn := fun _ => fun
  | [d1, d2] => { results := [.lit (.bool true)], args := [d1, d2] }
  | _ => none }
def fstMarksRow : OpenClaim := { program := "ytghbgfkkdknmnaadoor", sum := "41d76ad7f5b62a5c22995016a62b46403b3fdf5d58d6c98b7dba8781252ff9e4", func := "shibboleth/shibbolethlaw14.FstMarks", spec := "fstMarks", unfollowed := true, recurses := true, named := ["math/bits.deBruijn64tab"], plainKeys := false, apart := false, laid := [("math/bits.deBruijn64tab", laid_math_bits_deBruijn64tab)] }
def FstMarksSaid : Prop := fstMarksRow.holds Tryd.pinned (OpenSpec.ofChange fstMarksSpec)

/-- ITS FALSE NEIGHBOUR: 'it returns false'. Refute it at one input. -/
def fstMarksWrong : ChangeSpec := { name := "fstMarks", fn := fun _ => fun
  | [d1, d2] => { results := [.lit (.bool false)], args := [d1, d2] }
  | _ => none }
def FstMarksWrongFalsely : Prop := fstMarksRow.holds Tryd.pinned (OpenSpec.ofChange fstMarksWrong)

/-- 'shibbolethlaw14.FstSingle': WHATEVER THE INPUT: true; the input reads as it did. -/
def fstSingleSpec : ChangeSpec := { name := "fstSingle", fn := fun _ => fun
  | [d] => { results := [.lit (.bool true)], args := [d] }
  | _ => none }
def fstSingleRow : OpenClaim := { program := "ytghbgfkkdknmnaadoor", sum := "41d76ad7f5b62a5c22995016a62b46403b3fdf5d58d6c98b7dba8781252ff9e4", func := "shibboleth/shibbolethlaw14.FstSingle", spec := "fstSingle", unfollowed := true, recurses := true, named := ["math/bits.deBruijn64tab"], plainKeys := false, apart := false, laid := [("math/bits.deBruijn64tab", laid_math_bits_deBruijn64tab)] }
def FstSingleSaid : Prop := fstSingleRow.holds Tryd.pinned (OpenSpec.ofChange fstSingleSpec)

/-- ITS FALSE NEIGHBOUR: 'it returns false'. Refute it at one input. -/
def fstSingleWrong : ChangeSpec := { name := "fstSingle", fn := fun _ => fun
  | [d] => { results := [.lit (.bool false)], args := [d] }
  | _ => none }
def FstSingleWrongFalsely : Prop := fstSingleRow.holds Tryd.pinned (OpenSpec.ofChange fstSingleWrong)

/-- 'shibbolethlaw14.FstKnown': WHATEVER THE INPUT: true; the input reads as it did. -/
def fstKnownSpec : ChangeSpec := { name := "fstKnown", fn := fun _ => fun
  | [] => { results := [.lit (.bool true)], args := [] }
  | _ => none }
def fstKnownRow : OpenClaim := { program := "ytghbgfkkdknmnaadoor", sum := "41d76ad7f5b62a5c22995016a62b46403b3fdf5d58d6c98b7dba8781252ff9e4", func := "shibboleth/shibbolethlaw14.FstKnown", spec := "fstKnown", unfollowed := true, recurses := true, named := ["math/bits.deBruijn64tab"], plainKeys := false, apart := false, laid := [("math/bits.deBruijn64tab", laid_math_bits_deBruijn64tab)] }
def FstKnownSaid : Prop := fstKnownRow.holds Tryd.pinned (OpenSpec.ofChange fstKnownSpec)

/-- ITS FALSE NEIGHBOUR: 'it returns false'. Refute it at one input. -/
def fstKnownWrong : ChangeSpec := { name := "fstKnown", fn := fun _ => fun
  | [] => { results := [.lit (.bool false)], args := [] }
  | _ => none }
def FstKnownWrongFalsely : Prop := fstKnownRow.holds Tryd.pinned (OpenSpec.ofChange fstKnownWrong)

/-- 'shibbolethlaw14.FstAll': WHATEVER THE INPUT: true; the input reads as it did. -/
def fstAllSpec : ChangeSpec := { name := "fstAll", fn := fun _ => fun
  | [d1, d2, d3] => { results := [.lit (.bool true)], args := [d1, d2, d3] }
  | _ => none }
def fstAllRow : OpenClaim := { program := "ytghbgfkkdknmnaadoor", sum := "41d76ad7f5b62a5c22995016a62b46403b3fdf5d58d6c98b7dba8781252ff9e4", func := "shibboleth/shibbolethlaw14.FstAll", spec := "fstAll", unfollowed := true, recurses := true, named := ["math/bits.deBruijn64tab"], plainKeys := false, apart := false, laid := [("math/bits.deBruijn64tab", laid_math_bits_deBruijn64tab)] }
def FstAllSaid : Prop := fstAllRow.holds Tryd.pinned (OpenSpec.ofChange fstAllSpec)

/-- ITS FALSE NEIGHBOUR: 'it returns false'. Refute it at one input. -/
def fstAllWrong : ChangeSpec := { name := "fstAll", fn := fun _ => fun
  | [d1, d2, d3] => { results := [.lit (.bool false)], args := [d1, d2, d3] }
  | _ => none }
def FstAllWrongFalsely : Prop := fstAllRow.holds Tryd.pinned (OpenSpec.ofChange fstAllWrong)

/-- 'shibbolethlaw14.FstTrims': WHATEVER THE INPUT: true; the input reads as it did. -/
def fstTrimsSpec : ChangeSpec := { name := "fstTrims", fn := fun _ => fun
  | [d1, d2] => { results := [.lit (.bool true)], args := [d1, d2] }
  | _ => none }
def fstTrimsRow : OpenClaim := { program := "ytghbgfkkdknmnaadoor", sum := "41d76ad7f5b62a5c22995016a62b46403b3fdf5d58d6c98b7dba8781252ff9e4", func := "shibboleth/shibbolethlaw14.FstTrims", spec := "fstTrims", unfollowed := true, recurses := true, named := ["math/bits.deBruijn64tab"], plainKeys := false, apart := false, laid := [("math/bits.deBruijn64tab", laid_math_bits_deBruijn64tab)] }
def FstTrimsSaid : Prop := fstTrimsRow.holds Tryd.pinned (OpenSpec.ofChange fstTrimsSpec)

/-- ITS FALSE NEIGHBOUR: 'it returns false'. Refute it at one input. -/
def fstTrimsWrong : ChangeSpec := { name := "fstTrims", fn := fun _ => fun
  | [d1, d2] => { results := [.lit (.bool false)], args := [d1, d2] }
  | _ => none }
def FstTrimsWrongFalsely : Prop := fstTrimsRow.holds Tryd.pinned (OpenSpec.ofChange fstTrimsWrong)

/-- 'shibbolethlaw14.FstFields': WHATEVER THE INPUT: true; the input reads as it did. -/
def fstFieldsSpec : ChangeSpec := { name := "fstFields", fn := fun _ => fun
  | [d1, d2] => { results := [.lit (.bool true)], args := [d1, d2] }
  | _ => none }
def fstFieldsRow : OpenClaim := { program := "ytghbgfkkdknmnaadoor", sum := "41d76ad7f5b62a5c22995016a62b46403b3fdf5d58d6c98b7dba8781252ff9e4", func := "shibboleth/shibbolethlaw14.FstFields", spec := "fstFields", unfollowed := true, recurses := true, named := ["math/bits.deBruijn64tab"], plainKeys := false, apart := false, laid := [("math/bits.deBruijn64tab", laid_math_bits_deBruijn64tab)] }
def FstFieldsSaid : Prop := fstFieldsRow.holds Tryd.pinned (OpenSpec.ofChange fstFieldsSpec)

/-- ITS FALSE NEIGHBOUR: 'it returns false'. Refute it at one input. -/
def fstFieldsWrong : ChangeSpec := { name := "fstFields", fn := fun _ => fun
  | [d1, d2] => { results := [.lit (.bool false)], args := [d1, d2] }
  | _ => none }
def FstFieldsWrongFalsely : Prop := fstFieldsRow.holds Tryd.pinned (OpenSpec.ofChange fstFieldsWrong)

/- THE SECOND FORM. 'bulk': how many values and letters a reading holds, each counted each time it is reached (what is shared counts as often as it is met; a slice's spare places count too). A statement '..UptoSaid' is the law's where the arguments, and the package variables that the reading takes, are together of bulk at most 1048576: NARROWER than '..Said'. Prove '..Said' where nothing that the law and all that it calls make is longer than what came in: it says more and counts as full. Else prove '..UptoSaid'. A law counts once. -/
mutual
def uptoBulk {H : Type} : DataW H → Nat
  | .lit (.string bytes) => bytes.length + 1
  | .lit _ => 1
  | .nil => 1
  | .ptr d => uptoBulk d + 1
  | .slice elems spare => uptoBulkAll elems + uptoBulkAll spare + 1
  | .agg parts => uptoBulkAll parts + 1
  | .iface _ d => uptoBulk d + 1
  | .map entries => uptoBulkEntries entries + 1
  | .held _ => 1
def uptoBulkAll {H : Type} : List (DataW H) → Nat
  | [] => 0
  | d :: r => uptoBulk d + uptoBulkAll r
def uptoBulkEntries {H : Type} : List (Lit × DataW H) → Nat
  | [] => 0
  | x :: r => uptoBulkEntry x + uptoBulkEntries r
def uptoBulkEntry {H : Type} : Lit × DataW H → Nat
  | (.string bytes, d) => bytes.length + uptoBulk d + 1
  | (_, d) => uptoBulk d + 1
 end
def uptoSmall : (H : Type) → List (DataW H) → Bool := fun _ ds => decide (uptoBulkAll ds ≤ 1048576)
def OpenSpec.upto (s : _root_.Go.ChangeSpec) : _root_.Go.OpenSpec := { _root_.Go.OpenSpec.ofChange s with cond := some uptoSmall }

/-- 'shibbolethlaw14.FstMarks', WHERE WHAT IT READS IS OF BULK AT MOST 1048576: true; the input reads as it did. -/
def fstMarksUptoRow : OpenClaim := { program := "ytghbgfkkdknmnaadoor", sum := "41d76ad7f5b62a5c22995016a62b46403b3fdf5d58d6c98b7dba8781252ff9e4", func := "shibboleth/shibbolethlaw14.FstMarks", spec := "fstMarks", unfollowed := true, recurses := true, named := ["math/bits.deBruijn64tab"], plainKeys := false, apart := false, laid := [("math/bits.deBruijn64tab", laid_math_bits_deBruijn64tab)], narrowed := true }
def FstMarksUptoSaid : Prop := fstMarksUptoRow.holds Tryd.pinned (OpenSpec.upto fstMarksSpec)

/-- 'shibbolethlaw14.FstSingle', WHERE WHAT IT READS IS OF BULK AT MOST 1048576: true; the input reads as it did. -/
def fstSingleUptoRow : OpenClaim := { program := "ytghbgfkkdknmnaadoor", sum := "41d76ad7f5b62a5c22995016a62b46403b3fdf5d58d6c98b7dba8781252ff9e4", func := "shibboleth/shibbolethlaw14.FstSingle", spec := "fstSingle", unfollowed := true, recurses := true, named := ["math/bits.deBruijn64tab"], plainKeys := false, apart := false, laid := [("math/bits.deBruijn64tab", laid_math_bits_deBruijn64tab)], narrowed := true }
def FstSingleUptoSaid : Prop := fstSingleUptoRow.holds Tryd.pinned (OpenSpec.upto fstSingleSpec)

/-- 'shibbolethlaw14.FstKnown', WHERE WHAT IT READS IS OF BULK AT MOST 1048576: true; the input reads as it did. -/
def fstKnownUptoRow : OpenClaim := { program := "ytghbgfkkdknmnaadoor", sum := "41d76ad7f5b62a5c22995016a62b46403b3fdf5d58d6c98b7dba8781252ff9e4", func := "shibboleth/shibbolethlaw14.FstKnown", spec := "fstKnown", unfollowed := true, recurses := true, named := ["math/bits.deBruijn64tab"], plainKeys := false, apart := false, laid := [("math/bits.deBruijn64tab", laid_math_bits_deBruijn64tab)], narrowed := true }
def FstKnownUptoSaid : Prop := fstKnownUptoRow.holds Tryd.pinned (OpenSpec.upto fstKnownSpec)

/-- 'shibbolethlaw14.FstAll', WHERE WHAT IT READS IS OF BULK AT MOST 1048576: true; the input reads as it did. -/
def fstAllUptoRow : OpenClaim := { program := "ytghbgfkkdknmnaadoor", sum := "41d76ad7f5b62a5c22995016a62b46403b3fdf5d58d6c98b7dba8781252ff9e4", func := "shibboleth/shibbolethlaw14.FstAll", spec := "fstAll", unfollowed := true, recurses := true, named := ["math/bits.deBruijn64tab"], plainKeys := false, apart := false, laid := [("math/bits.deBruijn64tab", laid_math_bits_deBruijn64tab)], narrowed := true }
def FstAllUptoSaid : Prop := fstAllUptoRow.holds Tryd.pinned (OpenSpec.upto fstAllSpec)

/-- 'shibbolethlaw14.FstTrims', WHERE WHAT IT READS IS OF BULK AT MOST 1048576: true; the input reads as it did. -/
def fstTrimsUptoRow : OpenClaim := { program := "ytghbgfkkdknmnaadoor", sum := "41d76ad7f5b62a5c22995016a62b46403b3fdf5d58d6c98b7dba8781252ff9e4", func := "shibboleth/shibbolethlaw14.FstTrims", spec := "fstTrims", unfollowed := true, recurses := true, named := ["math/bits.deBruijn64tab"], plainKeys := false, apart := false, laid := [("math/bits.deBruijn64tab", laid_math_bits_deBruijn64tab)], narrowed := true }
def FstTrimsUptoSaid : Prop := fstTrimsUptoRow.holds Tryd.pinned (OpenSpec.upto fstTrimsSpec)

/-- 'shibbolethlaw14.FstFields', WHERE WHAT IT READS IS OF BULK AT MOST 1048576: true; the input reads as it did. -/
def fstFieldsUptoRow : OpenClaim := { program := "ytghbgfkkdknmnaadoor", sum := "41d76ad7f5b62a5c22995016a62b46403b3fdf5d58d6c98b7dba8781252ff9e4", func := "shibboleth/shibbolethlaw14.FstFields", spec := "fstFields", unfollowed := true, recurses := true, named := ["math/bits.deBruijn64tab"], plainKeys := false, apart := false, laid := [("math/bits.deBruijn64tab", laid_math_bits_deBruijn64tab)], narrowed := true }
def FstFieldsUptoSaid : Prop := fstFieldsUptoRow.holds Tryd.pinned (OpenSpec.upto fstFieldsSpec)

end Rows
end Go.Proofs.YtghbgfkkdknmnaaDoor
