/- Worlds that differ in numbers and truths alone (no program). -/
import Derived.Test.YtlbaecjmfgahgaaDoorNfG
namespace Go.Proofs.YtlbaecjmfgahgaaDoor
open Go.RowKit Sets Nf
namespace Nf
/-- two numbers of one kind, two truths; else the same -/
def lk (a b : Value) : Prop := a = b ∨ (∃ k x y, a = .int k x ∧ b = .int k y) ∨ (∃ x y, a = .bool x ∧ b = .bool y)
theorem lk_trans {a b c : Value} (h : lk a b) (g : lk b c) : lk a c := by
  rcases h with rfl | ⟨k, x, y, rfl, rfl⟩ | ⟨x, y, rfl, rfl⟩
  · exact g
  · rcases g with rfl | ⟨k2, x2, y2, e, rfl⟩ | ⟨x2, y2, e, rfl⟩
    · exact .inr (.inl ⟨_, _, _, rfl, rfl⟩)
    · cases e; exact .inr (.inl ⟨_, _, _, rfl, rfl⟩)
    · cases e
  · rcases g with rfl | ⟨k2, x2, y2, e, rfl⟩ | ⟨x2, y2, e, rfl⟩
    · exact .inr (.inr ⟨_, _, rfl, rfl⟩)
    · cases e
    · exact .inr (.inr ⟨_, _, rfl, rfl⟩)
def Sim (w w' : World) : Prop := ∀ (k : Nat) (cs : Array Value) (t : TypeId), w.heap[k]? = some (.cells cs t (0, 0)) → ∃ cs' : Array Value, w'.heap[k]? = some (.cells cs' t (0, 0)) ∧ ∀ (i : Nat) (v : Value), cs[i]? = some v → ∃ v', cs'[i]? = some v' ∧ lk v v'
theorem Sim.refl (w : World) : Sim w w := fun _ cs _ h => ⟨cs, h, fun _ v hv => ⟨v, hv, .inl rfl⟩⟩
theorem Sim.drew {w w' : World} (h : Sim w w') (n : Nat) : Sim w (w'.drewN n) := fun k cs t hk => h k cs t hk
theorem Sim.set {w W : World} (h : Sim w W) {g j : Nat} {cs : Array Value} {t : TypeId} {u v : Value} (hg : w.heap[g]? = some (.cells cs t (0, 0))) (hu : cs[j]? = some u) (hl : lk u v) : Sim w (W.setCell ⟨g, j, none⟩ v) := by
  intro k c2 t2 hk
  by_cases e : k = g
  · subst e
    obtain ⟨cs', h1, h2⟩ := h k c2 t2 hk
    rw [hg] at hk
    injection hk with hk
    injection hk with e1 e2
    subst e1 e2
    refine ⟨cs'.setIfInBounds j v, heap_setCell_same _ _ _ _ _ _ h1, fun i x hx => ?_⟩
    rw [Array.getElem?_setIfInBounds]
    by_cases e2 : j = i
    · subst e2
      obtain ⟨x', h3, -⟩ := h2 j x hx
      rw [if_pos rfl, if_pos (Array.getElem?_eq_some_iff.1 h3).1]
      rw [hu] at hx
      injection hx with hx
      subst hx
      exact ⟨v, rfl, hl⟩
    · rw [if_neg e2]; exact h2 i x hx
  · rw [Below.heap_setCell W ⟨g, j, none⟩ v k e]
    exact h k c2 t2 hk
theorem frozen_of_row {w : World} {b i : Nat} {cs : Array Value} {t : TypeId} (h : w.heap[b]? = some (.cells cs t (0, 0))) : w.frozen? ⟨b, i, none⟩ = false := by
  simp [World.frozen?, h]
/-- the slices of a machine stay -/
theorem Sim.slice {w W : World} (h : Sim w W) {b i : Nat} {cs : Array Value} {t : TypeId} {a : Option Addr} {n c : Nat} (hb : w.heap[b]? = some (.cells cs t (0, 0))) (hi : cs[i]? = some (.slice a n c)) : W.cell? ⟨b, i, none⟩ = some (.slice a n c) := by
  obtain ⟨cs', h1, h2⟩ := h b cs t hb
  obtain ⟨v', h3, h4⟩ := h2 i _ hi
  rw [cell_of_row W b i _ _ _ h1, h3]
  rcases h4 with rfl | ⟨k, x, y, e, -⟩ | ⟨x, y, e, -⟩
  · rfl
  · cases e
  · cases e
/-- a cell of a row of the machine's own -/
theorem Sim.own {w W : World} (h : Sim w W) {B size n c : Nat} {e : TypeId} {a : Option Addr} {xs : List Value} (ho : w.ownsRow B e size (.slice a n c) n xs) {j : Nat} {u : Value} (hu : xs[j]? = some u) :
    ∃ g u', a = some ⟨g, 0, none⟩ ∧ B ≤ g ∧ lk u u' ∧ W.cell? ⟨g, j, none⟩ = some u' ∧ W.frozen? ⟨g, j, none⟩ = false ∧ ∀ v2, lk u v2 → Sim w (W.setCell ⟨g, j, none⟩ v2) := by
  rcases ho.2 with ⟨h1, h2⟩ | ⟨g, cap, cur, h1, h2, h3, h4, h5, h6, h7⟩
  · have := ho.1
    rw [h2, Nat.zero_mul, List.length_eq_zero_iff] at this
    rw [this] at hu
    cases hu
  · injection h1 with h1
    subst h1
    have hcu : cur[j]? = some u := by
      rw [← h7, List.getElem?_take] at hu
      split at hu
      · rwa [Array.getElem?_toList] at hu
      · cases hu
    obtain ⟨cs', k1, k2⟩ := h g cur e h3
    obtain ⟨u', k3, k4⟩ := k2 j u hcu
    exact ⟨g, u', rfl, h2, k4, by rw [cell_of_row W g j _ _ _ k1, k3], frozen_of_row k1, fun v2 hl => h.set h3 hcu hl⟩
theorem lk_int {k : IntKind} {x : Int} {v : Value} (h : lk (.int k x) v) : ∃ y, v = .int k y := by
  rcases h with rfl | ⟨k, x, y, e, rfl⟩ | ⟨x, y, e, -⟩
  · exact ⟨_, rfl⟩
  · cases e; exact ⟨_, rfl⟩
  · cases e
theorem lk_bool {x : Bool} {v : Value} (h : lk (.bool x) v) : ∃ y, v = .bool y := by
  rcases h with rfl | ⟨k, x, y, e, -⟩ | ⟨x, y, e, rfl⟩
  · exact ⟨_, rfl⟩
  · cases e
  · exact ⟨_, rfl⟩
theorem lk_slice {a : Option Addr} {n c : Nat} {v : Value} (h : lk (.slice a n c) v) : v = .slice a n c := by
  rcases h with rfl | ⟨k, x, y, e, -⟩ | ⟨x, y, e, -⟩
  · rfl
  · cases e
  · cases e
/-- What holds while a law stores into memory of its own. -/
structure OvI (W0 wD : World) (D : Nat) (W : World) : Prop where
  sim : Sim W0 W
  low : Below D wD W
theorem OvI.num {W0 wD W : World} {D B c : Nat} {a : Option Addr} {l : List Int} (h : OvI W0 wD D W) (ho : OwnN B W0 (.slice a l.length c) l) (hB : D ≤ B) {j : Nat} (hj : j < l.length) :
    ∃ g v, a = some ⟨g, 0, none⟩ ∧ W.cell? ⟨g, j, none⟩ = some (.int .i64 v) ∧ W.frozen? ⟨g, j, none⟩ = false ∧ ∀ v2, OvI W0 wD D (W.setCell ⟨g, j, none⟩ (.int .i64 v2)) := by
  obtain ⟨g, u', e, h1, h2, h3, h4, h5⟩ := h.sim.own ho (j := j) (u := .int .i64 l[j]) (by unfold is64; rw [List.getElem?_map, List.getElem?_eq_getElem hj]; rfl)
  obtain ⟨y, rfl⟩ := lk_int h2
  exact ⟨g, y, e, h3, h4, fun v2 => ⟨h5 _ (.inr (.inl ⟨_, _, _, rfl, rfl⟩)), h.low.setCell (by show D ≤ g; omega) _⟩⟩
theorem OvI.flag {W0 wD W : World} {D B c : Nat} {a : Option Addr} {l : List Bool} (h : OvI W0 wD D W) (ho : W0.ownsRow B 4 1 (.slice a l.length c) l.length (bL l)) (hB : D ≤ B) {j : Nat} (hj : j < l.length) :
    ∃ g v, a = some ⟨g, 0, none⟩ ∧ W.cell? ⟨g, j, none⟩ = some (.bool v) ∧ W.frozen? ⟨g, j, none⟩ = false ∧ ∀ v2, OvI W0 wD D (W.setCell ⟨g, j, none⟩ (.bool v2)) := by
  obtain ⟨g, u', e, h1, h2, h3, h4, h5⟩ := h.sim.own ho (j := j) (u := .bool (l.getD j false)) (bL_get _ _ hj)
  obtain ⟨y, rfl⟩ := lk_bool h2
  exact ⟨g, y, e, h3, h4, fun v2 => ⟨h5 _ (.inr (.inr ⟨_, _, rfl, rfl⟩)), h.low.setCell (by show D ≤ g; omega) _⟩⟩
theorem OvI.drew {W0 wD W : World} {D : Nat} (h : OvI W0 wD D W) (n : Nat) : OvI W0 wD D (W.drewN n) := ⟨h.sim.drew n, below_drewN h.low n⟩
end Nf
end Go.Proofs.YtlbaecjmfgahgaaDoor
