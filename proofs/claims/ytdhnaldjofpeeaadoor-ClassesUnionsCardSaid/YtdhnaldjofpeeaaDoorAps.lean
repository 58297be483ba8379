/- append of sets to sets that the call owns. -/
import Derived.Test.YtdhnaldjofpeeaaDoorRef
import Derived.Test.YtdhnaldjofpeeaaDoorAppB
namespace Go.Proofs.YtdhnaldjofpeeaaDoor
open Go.RowKit Sets Cls
theorem owns_setsIn {w : World} {B : Nat} {v : Value} {L : List Nat} (h : w.ownsRow B 31 4 v L.length (setsL L)) (hm : L.length ≤ maxLen) : SetsIn w v L := by
  rcases h.2 with ⟨h1, h2⟩ | ⟨g, cap, cur, h1, -, h3, hnc, -, -, h4⟩
  · exact ⟨hm, none, 0, by rw [h1, h2], by omega, fun i hi => by omega⟩
  · refine ⟨hm, _, cap, h1, hnc, fun i hi => ⟨g, 0, rfl, fun q hq => ?_⟩⟩
    rw [Nat.zero_add, cell_of_row w g _ _ _ _ h3, ← Array.getElem?_toList]
    have := setsL_get L i q hi hq
    rw [← h4, List.getElem?_take_of_lt (by have := (List.getElem?_eq_some_iff.1 this).1; rw [h4, setsL_length] at this; omega)] at this
    exact this
theorem setsL_append (D L : List Nat) : setsL (D ++ L) = setsL D ++ setsL L := by unfold setsL; simp
theorem setsL_ones (L : List Nat) : ∀ u ∈ setsL L, u.oneCell' = true := by
  intro u hu
  unfold setsL at hu
  obtain ⟨S, -, hS⟩ := List.mem_flatMap.1 hu
  simp [set4] at hS
  rcases hS with rfl | rfl | rfl | rfl <;> rfl
theorem setsIn_cell {w : World} {ad : Addr} {cap : Nat} {L : List Nat} (h : SetsIn w (.slice (some ad) L.length cap) L) (j : Nat) (u : Value) (hj : (setsL L)[j]? = some u) : w.cell? (ad.add j) = some u := by
  obtain ⟨-, a, cap', e, -, hc⟩ := h
  cases e
  have hl := (List.getElem?_eq_some_iff.1 hj).1
  rw [setsL_length] at hl
  obtain ⟨b, o, e, hq⟩ := hc (j / 4) (by omega)
  cases e
  have h1 := hq (j % 4) (by omega)
  have h2 := setsL_get L (j / 4) (j % 4) (by omega) (by omega)
  rw [show j / 4 * 4 + j % 4 = j from by omega] at h2
  rw [Addr.add_lit, show o + j = o + j / 4 * 4 + j % 4 from by omega, h1, ← h2, hj]
theorem run_append_sets (w : World) (base : Nat) (ty : TypeId) (v x : Value) (D L : List Nat) (hown : w.ownsRow base 31 4 v D.length (setsL D)) (hin : SetsIn w x L) (hb : D.length + L.length ≤ 1000) (hbase : base ≤ w.heap.size) :
    ∃ v' w', (Builtin.append_ #[26, 26] ty #[v, x]).run Tryd.prog w = .ok v' w' ∧ w'.ownsRow base 31 4 v' (D ++ L).length (setsL (D ++ L)) ∧ Below base w w' := by
  obtain ⟨i0, hi, hz0, hz1, hz2⟩ := info_parts infoS
  have hin' := hin
  obtain ⟨-, a, cap, rfl, -, hc⟩ := hin'
  cases a with
  | some ad =>
    obtain ⟨v', w', hr, h1, h2, -⟩ := run_append_own (P := Tryd.prog) w base 26 ty 31 i0 _ 4 32 Tryd.underlying26 hi hz0 hz1 hz2 rfl (by decide) v D.length (setsL D) hown ad L.length cap (setsL L) (setsL_length L) (setsIn_cell hin) (setsL_ones L) (by unfold maxLen; omega) (by omega) hbase
    refine ⟨v', w', hr, ?_, (Below.refl _ _).grown h2 hbase (fun j hj => (hown.lt j hj).1)⟩
    rw [setsL_append, List.length_append]
    exact h1
  | none =>
    have hL : L = [] := by
      cases L with
      | nil => rfl
      | cons S L => obtain ⟨b, o, e, -⟩ := hc 0 (by simp); cases e
    subst hL
    refine ⟨v, w, ?_, by rw [List.append_nil]; exact hown, Below.refl _ _⟩
    obtain ⟨base', cap', rfl, hcap⟩ := owns_slice hown
    have hle : D.length + 0 ≤ cap' := hcap
    cases base' <;> simp [Builtin.append_, run_underlying Tryd.underlying26, sizeOf, typeInfo, hi, Builtin.lenOf, Builtin.firstCells, loadCells, hcap, storeCells]
theorem wp_append_sets {o : Oper} {a : Act} {w : World} {K : Act → World → Prop} {Q : Exit → Act → World → Prop} (s x : Operand)
    (ho : o.op = .call { callee := .builtin .append, args := #[s, x], argTypes := #[26, 26] }) (base : Nat) (D L : List Nat)
    (hown : w.ownsRow base 31 4 (a.eval s) D.length (setsL D)) (hin : SetsIn w (a.eval x) L) (hb : D.length + L.length ≤ 1000) (hbase : base ≤ w.heap.size)
    (h : ∀ v' w', w'.ownsRow base 31 4 v' (D ++ L).length (setsL (D ++ L)) → Below base w w' → K (a.put o.dst v') w') : o.wp Tryd.prog a w K Q := by
  obtain ⟨v', w', hr, h1, h2⟩ := run_append_sets w base o.type _ _ D L hown hin hb hbase
  unfold Oper.wp execOp
  simp only [ho, resolve, invoke, builtin, Sem.run_bind, Sem.run_pure, Result.andThen_ok, List.map_toArray, List.map_cons, List.map_nil, hr]
  exact h v' w' h1 h2
theorem wpList_append_sets {ops : Array Oper} {rest : List Oper} {o : Oper} {a : Act} {w : World} {Q : Exit → Act → World → Prop} (hgd : o.guard = none) (s x : Operand)
    (ho : o.op = .call { callee := .builtin .append, args := #[s, x], argTypes := #[26, 26] }) (base : Nat) (D L : List Nat)
    (hown : w.ownsRow base 31 4 (a.eval s) D.length (setsL D)) (hin : SetsIn w (a.eval x) L) (hb : D.length + L.length ≤ 1000) (hbase : base ≤ w.heap.size)
    (h : ∀ v' w', w'.ownsRow base 31 4 v' (D ++ L).length (setsL (D ++ L)) → Below base w w' → wpList Tryd.prog ops Q rest (a.put o.dst v') w') : wpList Tryd.prog ops Q (o :: rest) a w :=
  wpList_plain hgd fun _ hK => wp_append_sets s x ho base D L hown hin hb hbase fun v' w' h1 h2 => hK _ _ (h v' w' h1 h2)
theorem owns_none (w : World) (base : Nat) (hb : base ≤ w.heap.size) : (w.alloc (.cells #[] 31)).ownsRow base 31 4 (.slice (some ⟨w.heap.size, 0, none⟩) 0 0) 0 (setsL []) :=
  World.ownsRow_made w #[] 0 hb (by simp) (by simp)
end Go.Proofs.YtdhnaldjofpeeaaDoor
