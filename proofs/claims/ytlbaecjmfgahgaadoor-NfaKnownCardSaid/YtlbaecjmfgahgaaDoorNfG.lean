/- A machine in the making: memory of the call's own. -/
import Derived.Test.YtlbaecjmfgahgaaDoorNfD
import Derived.Test.YtlbaecjmfgahgaaDoorNfF
namespace Go.Proofs.YtlbaecjmfgahgaaDoor
open Go.RowKit Sets Nf
namespace Nf
def spL (L : List (Nat × Nat)) : List Value := L.flatMap sp5
def bL (l : List Bool) : List Value := l.map Value.bool
theorem spL_snoc (L : List (Nat × Nat)) (s : Nat × Nat) : spL (L ++ [s]) = spL L ++ sp5 s := by unfold spL; rw [List.flatMap_append]; simp
theorem spL_get : ∀ (L : List (Nat × Nat)) (i : Nat), i < L.length → ∀ j, j < 5 → (spL L)[i * 5 + j]? = (sp5 (L.getD i (0, 0)))[j]?
  | s :: L, 0, _, j, hj => by
    unfold spL
    rw [List.flatMap_cons, List.getElem?_append_left (by rw [sp5_len]; omega)]
    simp
  | s :: L, i + 1, h, j, hj => by
    have ih := spL_get L i (by simpa using h) j hj
    unfold spL at ih ⊢
    rw [List.flatMap_cons, List.getElem?_append_right (by rw [sp5_len]; omega), sp5_len, show (i + 1) * 5 + j - 5 = i * 5 + j from by omega, ih]
    rfl
theorem bL_get (l : List Bool) (i : Nat) (h : i < l.length) : (bL l)[i]? = some (.bool (l.getD i false)) := by
  unfold bL
  rw [List.getElem?_map, List.getElem?_eq_getElem h, List.getD_eq_getElem?_getD, List.getElem?_eq_getElem h]; rfl
/-- A machine whose lists lie in memory from B on, each in a row of its own. -/
structure OwnM (B : Nat) (w : World) (x : Ma) (m : Mc) : Prop where
  sp : w.ownsRow B 41 5 (.slice x.sa m.sp.length x.sc) m.sp.length (spL m.sp)
  fi : OwnN B w (.slice x.fa m.fi.length x.fc) m.fi
  fo : ∃ vs : List Value, vs.length = m.fo.length ∧ w.ownsRow B 23 1 (.slice x.oa m.fo.length x.oc) m.fo.length vs ∧ ∀ i, i < m.fo.length → OwnN B w (vs.getD i (.slice none 0 0)) (m.fo.getD i [])
  la : w.ownsRow B 4 1 (.slice x.la m.la.length x.lc) m.la.length (bL m.la)
theorem own_addr {w : World} {B n c size : Nat} {e : TypeId} {a : Option Addr} {xs : List Value} (h : w.ownsRow B e size (.slice a n c) n xs) (hn : 0 < n) : ∃ g, a = some ⟨g, 0, none⟩ := by
  obtain ⟨a', c', e1, h1⟩ := own_slice h
  injection e1 with e2 e3 e4
  subst e2
  rcases h1 with h1 | ⟨g, hg, -⟩
  · omega
  · exact ⟨g, hg⟩
theorem OwnM.mat {B : Nat} {w : World} {x : Ma} {m : Mc} (h : OwnM B w x m) : MAt w x m := by
  refine ⟨fun i hi => ?_, ?_, fun i hi => ?_, fun i hi => ?_⟩
  · obtain ⟨g, hg⟩ := own_addr h.sp (by omega)
    have hs := h.sp
    rw [hg] at hs
    refine ⟨g, 0, hg, fun j v hj => ?_⟩
    have hj5 : j < 5 := by have := (List.getElem?_eq_some_iff.1 hj).1; rwa [sp5_len] at this
    rw [Nat.zero_add, World.ownsRow.cellAt hs (i * 5 + j) (by omega), spL_get _ _ hi _ hj5]
    exact hj
  · obtain ⟨a, c, e, hn⟩ := h.fi.nums
    injection e with e1
    rw [e1]; exact hn
  · obtain ⟨vs, hl, hv, he⟩ := h.fo
    obtain ⟨g, hg⟩ := own_addr hv (by omega)
    rw [hg] at hv
    obtain ⟨a, c, e, hn⟩ := (he i hi).nums
    refine ⟨g, 0, a, c, hg, ?_, hn⟩
    rw [Nat.zero_add, World.ownsRow.cellAt hv i (by omega), ← e, List.getD_eq_getElem?_getD, List.getElem?_eq_getElem (by omega)]; rfl
  · obtain ⟨g, hg⟩ := own_addr h.la (by omega)
    have hs := h.la
    rw [hg] at hs
    exact ⟨g, 0, hg, by rw [Nat.zero_add, World.ownsRow.cellAt hs i (by omega), bL_get _ _ hi]⟩
theorem OwnM.stay {B : Nat} {w w' : World} {x : Ma} {m : Mc} (h : OwnM B w x m) (hb : Below w.heap.size w w') : OwnM B w' x m := by
  obtain ⟨vs, h1, h2, h3⟩ := h.fo
  exact ⟨own_stay h.sp hb, own_stay h.fi hb, ⟨vs, h1, own_stay h2 hb, fun i hi => own_stay (h3 i hi) hb⟩, own_stay h.la hb⟩
/-- Blocks of other types than T, but for b, stay. -/
def Fr (b : Nat) (T : TypeId) (w w' : World) : Prop := ∀ k cs t fr, w.heap[k]? = some (.cells cs t fr) → t ≠ T → k ≠ b → w'.heap[k]? = some (.cells cs t fr)
theorem own_type {w : World} {B size n g : Nat} {e : TypeId} {v : Value} {xs : List Value} (h : w.ownsRow B e size v n xs) (hg : v.ownBlock = some g) : ∃ cs, w.heap[g]? = some (.cells cs e (0, 0)) := by
  rcases h.2 with ⟨h1, -⟩ | ⟨k, cap, cur, h1, -, h3, -⟩
  · rw [h1] at hg; cases hg
  · rw [h1] at hg
    injection hg with hg
    exact ⟨cur, by rw [← hg]; exact h3⟩
theorem Ap.fr {w w' : World} {v v' : Value} {B size n : Nat} {e : TypeId} {xs : List Value} (ha : Ap w v w' v') (ho : w.ownsRow B e size v n xs) (b : Nat) : Fr b e w w' := by
  intro k cs t fr hk ht _
  rw [ha.block k (Array.getElem?_eq_some_iff.1 hk).1 (fun hv => ?_)]
  · exact hk
  · obtain ⟨c2, h2⟩ := own_type ho hv
    rw [hk] at h2
    injection h2 with h2
    injection h2 with _ h3
    exact ht h3
theorem Fr.set {b i : Nat} {T : TypeId} {w w' : World} (h : Fr b T w w') (v : Value) : Fr b T w (w'.setCell ⟨b, i, none⟩ v) := fun k cs t fr hk ht hb => by
  rw [Below.heap_setCell w' ⟨b, i, none⟩ v k hb]
  exact h k cs t fr hk ht hb
theorem Fr.own {b B size n : Nat} {T e : TypeId} {w w' : World} {v : Value} {xs : List Value} (h : Fr b T w w') (ho : w.ownsRow B e size v n xs) (he : e ≠ T) (hb : ∀ g, v.ownBlock = some g → g ≠ b) : w'.ownsRow B e size v n xs :=
  own_kept ho fun g hg => by
    obtain ⟨cs, hc⟩ := own_type ho hg
    rw [h g cs e (0, 0) hc he (hb g hg), hc]
/-- The trimmed machine in block b: what has come to its lists from the spots ps, po, pl. -/
structure TrI (s b : Nat) (m : Mc) (U : Nat) (w0 : World) (ps po pl : List Nat) (sv fv ov lv : Value) (vs : List Value) (W : World) : Prop where
  row : W.heap[b]? = some (.cells #[sv, fv, ov, lv, .bool m.em] 27 (0, 0))
  sp : W.ownsRow s 41 5 sv ps.length (spL (ps.map fun k => m.sp.getD k (0, 0)))
  fi : OwnN s W fv (leftL U m.fi)
  fo : W.ownsRow s 23 1 ov po.length vs
  len : vs.length = po.length
  each : ∀ i, i < po.length → OwnN s W (vs.getD i (.slice none 0 0)) (leftL U (m.fo.getD (po.getD i 0) []))
  la : W.ownsRow s 4 1 lv pl.length (bL (pl.map fun k => m.la.getD k false))
  low : s < b
  below : Below s w0 W
theorem TrI.notB {s b : Nat} {m : Mc} {U : Nat} {w0 : World} {ps po pl : List Nat} {sv fv ov lv : Value} {vs : List Value} {W : World} (h : TrI s b m U w0 ps po pl sv fv ov lv vs W) {B size n : Nat} {e : TypeId} {v : Value} {xs : List Value} (ho : W.ownsRow B e size v n xs) (he : e ≠ 27) : ∀ g, v.ownBlock = some g → g ≠ b := fun g hg eq => by
  obtain ⟨cs, hc⟩ := own_type ho hg
  rw [eq, h.row] at hc
  injection hc with hc
  injection hc with _ h2
  exact he h2.symm
theorem TrI.stay {s b : Nat} {m : Mc} {U : Nat} {w0 : World} {ps po pl : List Nat} {sv fv ov lv : Value} {vs : List Value} {W W' : World} (h : TrI s b m U w0 ps po pl sv fv ov lv vs W) (hb : Below W.heap.size W W') (hs : s ≤ W.heap.size) : TrI s b m U w0 ps po pl sv fv ov lv vs W' :=
  ⟨(hb.block b (Array.getElem?_eq_some_iff.1 h.row).1).trans h.row, own_stay h.sp hb, own_stay h.fi hb, own_stay h.fo hb, h.len, fun i hi => own_stay (h.each i hi) hb, own_stay h.la hb, h.low, h.below.trans (hb.mono hs)⟩
theorem TrI.pushS {s b : Nat} {m : Mc} {U : Nat} {w0 : World} {ps po pl : List Nat} {sv fv ov lv : Value} {vs : List Value} {W : World} (h : TrI s b m U w0 ps po pl sv fv ov lv vs W) {W2 : World} {sv' : Value} {k : Nat}
    (ho : W2.ownsRow s 41 5 sv' (ps.length + 1) (spL (ps.map fun k => m.sp.getD k (0, 0)) ++ sp5 (m.sp.getD k (0, 0)))) (hb : Below s W W2) (hf : Fr b 41 W W2) (hrow : W2.heap[b]? = W.heap[b]?) :
    TrI s b m U w0 (ps ++ [k]) po pl sv' fv ov lv vs (W2.setCell ⟨b, 0, none⟩ sv') := by
  have hf2 := hf.set (i := 0) sv'
  have hr2 := hrow.trans h.row
  refine ⟨?_, ?_, hf2.own h.fi (by decide) (h.notB h.fi (by decide)), hf2.own h.fo (by decide) (h.notB h.fo (by decide)), h.len, fun i hi => hf2.own (h.each i hi) (by decide) (h.notB (h.each i hi) (by decide)), hf2.own h.la (by decide) (h.notB h.la (by decide)), h.low, (h.below.trans hb).setCell (by have := h.low; show s ≤ b; omega) _⟩
  · rw [heap_setCell_same _ _ _ _ _ _ hr2]; rfl
  · rw [List.length_append, List.map_append, List.map_cons, List.map_nil, spL_snoc]
    refine own_kept ho fun g hg => Below.heap_setCell W2 ⟨b, 0, none⟩ sv' g (fun eq => ?_)
    obtain ⟨cs, hc⟩ := own_type ho hg
    rw [show g = b from eq, hr2] at hc
    injection hc with hc
    injection hc with _ h2
    exact absurd h2 (by decide)
theorem TrI.pushL {s b : Nat} {m : Mc} {U : Nat} {w0 : World} {ps po pl : List Nat} {sv fv ov lv : Value} {vs : List Value} {W : World} (h : TrI s b m U w0 ps po pl sv fv ov lv vs W) {W2 : World} {lv' : Value} {k : Nat}
    (ho : W2.ownsRow s 4 1 lv' (pl.length + 1) (bL (pl.map fun k => m.la.getD k false) ++ [.bool (m.la.getD k false)])) (hb : Below s W W2) (hf : Fr b 4 W W2) (hrow : W2.heap[b]? = W.heap[b]?) :
    TrI s b m U w0 ps po (pl ++ [k]) sv fv ov lv' vs (W2.setCell ⟨b, 3, none⟩ lv') := by
  have hf2 := hf.set (i := 3) lv'
  have hr2 := hrow.trans h.row
  refine ⟨?_, hf2.own h.sp (by decide) (h.notB h.sp (by decide)), hf2.own h.fi (by decide) (h.notB h.fi (by decide)), hf2.own h.fo (by decide) (h.notB h.fo (by decide)), h.len, fun i hi => hf2.own (h.each i hi) (by decide) (h.notB (h.each i hi) (by decide)), ?_, h.low, (h.below.trans hb).setCell (by have := h.low; show s ≤ b; omega) _⟩
  · rw [heap_setCell_same _ _ _ _ _ _ hr2]; rfl
  · rw [List.length_append, List.map_append, List.map_cons, List.map_nil]
    unfold bL at ho ⊢
    rw [List.map_append, List.map_cons, List.map_nil]
    refine own_kept ho fun g hg => Below.heap_setCell W2 ⟨b, 3, none⟩ lv' g (fun eq => ?_)
    obtain ⟨cs, hc⟩ := own_type ho hg
    rw [show g = b from eq, hr2] at hc
    injection hc with hc
    injection hc with _ h2
    exact absurd h2 (by decide)
theorem TrI.pushO {s b : Nat} {m : Mc} {U : Nat} {w0 : World} {ps po pl : List Nat} {sv fv ov lv : Value} {vs : List Value} {W : World} (h : TrI s b m U w0 ps po pl sv fv ov lv vs W) {W2 : World} {ov' v : Value} {k : Nat}
    (ho : W2.ownsRow s 23 1 ov' (po.length + 1) (vs ++ [v])) (hv : OwnN s W2 v (leftL U (m.fo.getD k []))) (hb : Below s W W2) (hf : Fr b 23 W W2) (hrow : W2.heap[b]? = W.heap[b]?) :
    TrI s b m U w0 ps (po ++ [k]) pl sv fv ov' lv (vs ++ [v]) (W2.setCell ⟨b, 2, none⟩ ov') := by
  have hf2 := hf.set (i := 2) ov'
  have hr2 := hrow.trans h.row
  have hnb : ∀ {B size n : Nat} {e : TypeId} {v : Value} {xs : List Value}, W2.ownsRow B e size v n xs → e ≠ 27 → (W2.setCell ⟨b, 2, none⟩ ov').ownsRow B e size v n xs := fun {B size n e v xs} hh hne => by
    refine own_kept hh fun g hg => Below.heap_setCell W2 ⟨b, 2, none⟩ ov' g (fun eq => ?_)
    obtain ⟨cs, hc⟩ := own_type hh hg
    rw [show g = b from eq, hr2] at hc
    injection hc with hc
    injection hc with _ h2
    exact hne h2.symm
  refine ⟨?_, hf2.own h.sp (by decide) (h.notB h.sp (by decide)), hf2.own h.fi (by decide) (h.notB h.fi (by decide)), ?_, by simp [h.len], fun i hi => ?_, hf2.own h.la (by decide) (h.notB h.la (by decide)), h.low, (h.below.trans hb).setCell (by have := h.low; show s ≤ b; omega) _⟩
  · rw [heap_setCell_same _ _ _ _ _ _ hr2]; rfl
  · rw [List.length_append]; exact hnb ho (by decide)
  · rw [List.length_append] at hi
    simp only [List.length_cons, List.length_nil] at hi
    by_cases e : i < po.length
    · rw [List.getD_eq_getElem?_getD, List.getElem?_append_left (by rw [h.len]; exact e), ← List.getD_eq_getElem?_getD, List.getD_eq_getElem?_getD (l := po ++ [k]), List.getElem?_append_left e, ← List.getD_eq_getElem?_getD]
      exact hf2.own (h.each i e) (by decide) (h.notB (h.each i e) (by decide))
    · have e2 : i = po.length := by omega
      rw [List.getD_eq_getElem?_getD, List.getElem?_append_right (by rw [h.len]; omega), List.getD_eq_getElem?_getD (l := po ++ [k]), List.getElem?_append_right (by omega), h.len, e2, Nat.sub_self]
      exact hnb hv (by decide)
end Nf
end Go.Proofs.YtlbaecjmfgahgaaDoor
