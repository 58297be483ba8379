/- Worlds that differ in numbers and truths alone. -/
import Derived.Test.YtlbaecjmfgahgaaDoorNfU
import Derived.Test.YtlbaecjmfgahgaaDoorNfS
import Derived.Test.YtlbaecjmfgahgaaDoorSimW
namespace Go.Proofs.YtlbaecjmfgahgaaDoor
open Go.RowKit Sets Nf
namespace Nf
theorem OvI.tag {W0 wD W : World} {D B c : Nat} {a : Option Addr} {l : List (Nat × Nat)} (h : OvI W0 wD D W) (ho : W0.ownsRow B 41 5 (.slice a l.length c) l.length (spL l)) (hB : D ≤ B) {j : Nat} (hj : j < l.length) :
    ∃ g v, a = some ⟨g, 0, none⟩ ∧ W.cell? ⟨g, j * 5 + 4, none⟩ = some (.int .u8 v) ∧ W.frozen? ⟨g, j * 5 + 4, none⟩ = false ∧ ∀ v2, OvI W0 wD D (W.setCell ⟨g, j * 5 + 4, none⟩ (.int .u8 v2)) := by
  obtain ⟨g, u', e, h1, h2, h3, h4, h5⟩ := h.sim.own ho (j := j * 5 + 4) (u := .int .u8 (l.getD j (0, 0)).2) (by rw [spL_get l j hj 4 (by decide)]; rfl)
  obtain ⟨y, rfl⟩ := lk_int h2
  exact ⟨g, y, e, h3, h4, fun v2 => ⟨h5 _ (.inr (.inl ⟨_, _, _, rfl, rfl⟩)), h.low.setCell (by show D ≤ g; omega) _⟩⟩
theorem OvI.list {W0 wD W : World} {D B : Nat} {x : Ma} {m : Mc} (h : OvI W0 wD D W) (ho : OwnM B W0 x m) {j : Nat} (hj : j < m.fo.length) :
    ∃ g a c, x.oa = some ⟨g, 0, none⟩ ∧ W.cell? ⟨g, j, none⟩ = some (.slice a (m.fo.getD j []).length c) ∧ OwnN B W0 (.slice a (m.fo.getD j []).length c) (m.fo.getD j []) := by
  obtain ⟨vs, h1, h2, h3⟩ := ho.fo
  have h4 := h3 j hj
  obtain ⟨a, c, e1, -⟩ := h4.nums
  obtain ⟨g, u', e, h5, h6, h7, -⟩ := h.sim.own h2 (j := j) (u := vs.getD j (.slice none 0 0)) (by rw [List.getD_eq_getElem?_getD, List.getElem?_eq_getElem (by omega)]; rfl)
  rw [e1] at h6 h4
  rw [lk_slice h6] at h7
  exact ⟨g, a, c, e, h7, h4⟩
theorem OvI.box {W0 wD W : World} {D b : Nat} {x : Ma} {m : Mc} (h : OvI W0 wD D W) (hb : BoxM W0 b x m) :
    W.cell? ⟨b, 0, none⟩ = some (.slice x.sa m.sp.length x.sc) ∧ W.cell? ⟨b, 1, none⟩ = some (.slice x.fa m.fi.length x.fc) ∧ W.cell? ⟨b, 2, none⟩ = some (.slice x.oa m.fo.length x.oc) ∧ W.cell? ⟨b, 3, none⟩ = some (.slice x.la m.la.length x.lc) :=
  ⟨h.sim.slice hb.row rfl, h.sim.slice hb.row rfl, h.sim.slice hb.row rfl, h.sim.slice hb.row rfl⟩
end Nf
end Go.Proofs.YtlbaecjmfgahgaaDoor
