/- A value is a slice of these numbers. -/
import Derived.Test.YtbgafjfegjbblaaKit
namespace Go.Proofs.Ytbgafjfegjbblaa
open Go.RowKit
/-- v is a slice of these numbers, each of kind k. -/
def NumsAt (k : IntKind) (w : World) (v : Value) (l : List Int) : Prop :=
  (∀ x ∈ l, (Lit.int k x).wf = true) ∧ l.length ≤ maxLen ∧ ∃ a cap, v = .slice a l.length cap ∧ ∀ i, i < l.length → ∃ b o, a = some ⟨b, o, none⟩ ∧ w.cell? ⟨b, o + i, none⟩ = some (.int k (l.getD i 0))
end Go.Proofs.Ytbgafjfegjbblaa
