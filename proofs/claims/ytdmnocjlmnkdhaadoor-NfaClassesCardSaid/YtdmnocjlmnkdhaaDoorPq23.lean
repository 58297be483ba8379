/- The reader of a machine: after, behind. -/
import Derived.Test.YtdmnocjlmnkdhaaDoorPq22
namespace Go.Proofs.YtdmnocjlmnkdhaaDoor
open Go.RowKit Sets Nf
namespace Df
theorem foldl_snoc_get (G : List Nat) (l : List Nat) (j : Nat) (h : j < l.length) : (l.take (j + 1)).foldl (fun a k => a ||| G.getD k 0) 0 = (l.take j).foldl (fun a k => a ||| G.getD k 0) 0 ||| G.getD (l.getD j 0) 0 := by
  rw [List.take_succ_eq_append_getElem h, List.foldl_append, List.getD_eq_getElem?_getD (l := l), List.getElem?_eq_getElem h]; rfl
theorem set_u8 {w : World} {B S b o k : Nat} (h : SetB w B S) (hc : w.cell? ⟨b, o, none⟩ = some (.int .u8 k)) : b ≠ B := by
  intro e
  subst e
  rw [cell_of_row w b o _ _ _ h.row] at hc
  have ho : o < 4 := by have := (Array.getElem?_eq_some_iff.1 hc).1; simpa [setC] using this
  have : o = 0 ∨ o = 1 ∨ o = 2 ∨ o = 3 := by omega
  rcases this with rfl | rfl | rfl | rfl <;> simp [setC] at hc
def orTo (G l : List Nat) (j : Nat) : Nat := (l.take j).foldl (fun a k => a ||| G.getD k 0) 0
end Df
end Go.Proofs.YtdmnocjlmnkdhaaDoor
