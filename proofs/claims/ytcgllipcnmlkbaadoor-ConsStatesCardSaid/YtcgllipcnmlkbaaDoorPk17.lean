/- awake. -/
import Derived.Test.YtcgllipcnmlkbaaDoorPkU
import Derived.Test.YtcgllipcnmlkbaaDoorPk16
import Derived.Test.YtcgllipcnmlkbaaDoorPkZ
import Derived.Test.YtcgllipcnmlkbaaDoorPkR
import Derived.Test.YtcgllipcnmlkbaaDoorPkA
namespace Go.Proofs.YtcgllipcnmlkbaaDoor
open Go.RowKit Sets Tr Rx Sp
theorem mdV_cells {w : World} {D : Nat} {a b c d e f : Value} (h : w.heap[D]? = some (.cells (mdV a b c d e f) 46 (0, 0))) : w.cell? ⟨D, 0, none⟩ = some a ∧ w.cell? ⟨D, 1, none⟩ = some b ∧ w.cell? ⟨D, 2, none⟩ = some c ∧ w.cell? ⟨D, 3, none⟩ = some d ∧ w.cell? ⟨D, 4, none⟩ = some e ∧ w.cell? ⟨D, 5, none⟩ = some f := by
  unfold mdV at h; simp [World.cell?, h]
theorem bool_at {w : World} {B q c : Nat} {l : List Bool} (h : OwnB B w (.slice (some ⟨q, 0, none⟩) l.length c) l) {j : Nat} (hj : j < l.length) : w.cell? ⟨q, j, none⟩ = some (.bool (l.getD j false)) := by
  have := World.ownsRow.cellAt h j (by omega)
  rw [this]
  unfold boL
  rw [List.getElem?_map, List.getElem?_eq_getElem hj, List.getD_eq_getElem?_getD, List.getElem?_eq_getElem hj]
  rfl
theorem own_some {w : World} {B : Nat} {e : TypeId} {s n : Nat} {v : Value} {xs : List Value} (h : w.ownsRow B e s v n xs) (hn : 0 < n) : ∃ q c, v = .slice (some ⟨q, 0, none⟩) n c := by
  rcases h.2 with ⟨h3, h4⟩ | ⟨g, cap, cur, h3, -⟩
  · omega
  · exact ⟨g, cap, h3⟩
end Go.Proofs.YtcgllipcnmlkbaaDoor
