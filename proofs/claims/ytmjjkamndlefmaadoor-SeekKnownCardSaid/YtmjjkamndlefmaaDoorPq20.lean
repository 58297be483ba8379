/- Trim. -/
import Derived.Test.YtmjjkamndlefmaaDoorPq14
import Derived.Test.YtmjjkamndlefmaaDoorPq12
namespace Go.Proofs.YtmjjkamndlefmaaDoor
open Go.RowKit Go.Shelf Sets Nf
attribute [local go_sem] Oper.semAt_some
namespace Nf
def RT (x : Ma) (m : Mc) (s b5 g n U : Nat) : Nat → Value → World → Prop
  | 0, v, _ => v = .pointer (some ⟨s, 1, none⟩)
  | 1, v, _ => v = .slice x.fa m.fi.length x.fc
  | 2, v, _ => v = .slice (some ⟨g, 0, none⟩) n n
  | 3, v, w => ∃ a c, v = .slice a (leftL U m.fi).length c ∧ OwnN s w v (leftL U m.fi)
  | 4, v, _ => v = .pointer (some ⟨s, 4, none⟩)
  | 5, v, _ => v = .bool m.em
  | 6, v, w => ∃ a c, v = .agg #[.slice none 0 0, .slice a (leftL U m.fi).length c, .slice none 0 0, .slice none 0 0, .bool m.em] ∧ OwnN s w (.slice a (leftL U m.fi).length c) (leftL U m.fi)
  | 7, v, w => ∃ q, v = .pointer (some ⟨q, 0, none⟩) ∧ s + 1 < q ∧ b5 < q ∧ w.heap[q]? = some (.cells #[.slice none 0 0, .slice none 0 0, .slice none 0 0, .slice none 0 0, .bool false] 43 (0, 0))
  | _, _, _ => True
theorem RT_mono (x : Ma) (m : Mc) (s b5 g n U : Nat) (i : Nat) (v : Value) (w w' : World) (hb : Below w.heap.size w w') (h : RT x m s b5 g n U i v w) : RT x m s b5 g n U i v w' := by
  match i with
  | 0 => exact h
  | 1 => exact h
  | 2 => exact h
  | 3 => obtain ⟨a, c, e, h1⟩ := h; exact ⟨a, c, e, own_stay h1 hb⟩
  | 4 => exact h
  | 5 => exact h
  | 6 => obtain ⟨a, c, e, h1⟩ := h; exact ⟨a, c, e, own_stay h1 hb⟩
  | 7 => obtain ⟨q, e, h0, h1, h2⟩ := h; exact ⟨q, e, h0, h1, (hb.block q (Array.getElem?_eq_some_iff.1 h2).1).trans h2⟩
  | n + 8 => exact h
def RTd (i : Nat) : Nat := if i = 7 then 6 else i + 19
theorem nums_row {w w' : World} {g : Nat} {l : List Int} (h : NumsIn w (some ⟨g, 0, none⟩) l) (e : w'.heap[g]? = w.heap[g]?) : NumsIn w' (some ⟨g, 0, none⟩) l := fun i hi => by
  obtain ⟨b, o, eq, hc⟩ := h i hi
  injection eq with eq
  injection eq with e1 e2
  subst e1 e2
  exact ⟨g, 0, rfl, (World.cell?_of_block (w := w) e).trans hc⟩
theorem keeps_ap {w w' : World} {v v' : Value} {B size n : Nat} {e : TypeId} {xs : List Value} (ha : Ap w v w' v') (ho : w.ownsRow B e size v n xs) : KeepsOthers w w' :=
  ⟨ha.size, fun k o hk hc => by
    rw [ha.block k (Array.getElem?_eq_some_iff.1 hk).1 (fun hv => ?_)]
    · exact hk
    · obtain ⟨cs, h2⟩ := own_type ho hv
      rw [hk] at h2
      injection h2 with h2
      rw [h2] at hc
      cases hc⟩
theorem listN_kept {m : Mc} {U : Nat} (h : Us m U) (hn : m.sp.length ≤ 256) : listN U = kept U m.sp.length := by
  unfold listN kept
  obtain ⟨d, hd⟩ : ∃ d, 256 = m.sp.length + d := ⟨256 - m.sp.length, by omega⟩
  rw [hd, List.range_add, List.filter_append]
  have : ((List.range d).map (m.sp.length + ·)).filter U.testBit = [] := by
    rw [List.filter_eq_nil_iff]
    intro k hk hb
    obtain ⟨j, -, rfl⟩ := List.mem_map.1 hk
    have := h.lt hb
    omega
  rw [this, List.append_nil]
theorem OwnM.move {B : Nat} {w w' : World} {x : Ma} {m : Mc} (h : OwnM B w x m) (hk : ∀ (k : Nat) (cs : Array Value) (t : TypeId), w.heap[k]? = some (.cells cs t (0, 0)) → t ≠ 43 → w'.heap[k]? = w.heap[k]?) : OwnM B w' x m := by
  have ho : ∀ {B size n : Nat} {e : TypeId} {v : Value} {xs : List Value}, w.ownsRow B e size v n xs → e ≠ 43 → w'.ownsRow B e size v n xs := fun {B size n e v xs} h he => own_kept h fun q hq => by
    obtain ⟨cs, hc⟩ := own_type h hq
    exact hk q cs e hc he
  obtain ⟨vs, h1, h2, h3⟩ := h.fo
  exact ⟨ho h.sp (by decide), ho h.fi (by decide), ⟨vs, h1, ho h2 (by decide), fun i hi => ho (h3 i hi) (by decide)⟩, ho h.la (by decide)⟩
theorem results_cell_tmp {P : Program} {fn : Func} {p q : Tmp} {ty : TypeId} (h : fn.results = #[.cell p ty, .tmp q]) (tmps : Array Value) (w : World) (g : Nat) (t : TypeId) (cs : Array Value) (fr : Nat × Nat) (d : TypeDesc) (v : Value)
    (hp : tmps.getD p undef = .pointer (some ⟨g, 0, none⟩)) (hq : tmps.getD q undef = v) (hg : w.heap[g]? = some (.cells cs t fr))
    (hu : P.underlying ty = some d) (hd : (match d with | .struct _ | .array _ _ => true | _ => false) = true) (hi : (P.info? ty).map (·.size) = some cs.size) :
    (results fn tmps).run P w = .ok (.tuple #[.agg cs, v]) w := by
  have hp' : tmps[p]?.getD undef = .pointer (some ⟨g, 0, none⟩) := by simpa using hp
  have hq' : tmps[q]?.getD undef = v := by simpa using hq
  simp [results, h, hp', hq', asAddr, run_loadVar_row w g t ty cs fr d hg hu hd hi]
theorem infoBool : (Tryd.prog.info? 4).map (fun i => (i.zero, i.size, i.bytes)) = some (some (.bool false), 1, 1) := by kernel_rfl
theorem infoSpot : (Tryd.prog.info? 57).map (fun i => (i.zero, i.size, i.bytes)) = some (some (.agg zero5), 5, 40) := by kernel_rfl
/-- What the rounds of Trim keep. -/
structure TmI (s b5 b6 g n n9 U : Nat) (x : Ma) (m : Mc) (w0 : World) (csN : Array Value) (ps po pl : List Nat) (sv fv ov lv : Value) (vs : List Value) (W : World) : Prop where
  tr : TrI s b6 m U w0 ps po pl sv fv ov lv vs W
  box : BoxM W s x m
  c5 : W.heap[b5]? = some (.cells #[.slice (some ⟨g, 0, none⟩) n n] 41 (0, 0))
  nums : W.heap[g]? = some (.cells csN 3 (0, 0))
  ret : W.heap[s + 1]? = some (.cells #[.slice none 0 0, .slice none 0 0, .slice none 0 0, .slice none 0 0, .bool false] 43 (0, 0))
  no5 : ∀ q, ov.ownBlock = some q → q ≠ b5
  s1 : s + 1 < b6
  l5 : b5 < b6
  size : n9 ≤ W.heap.size
theorem TmI.fr {s b5 b6 g n n9 U : Nat} {x : Ma} {m : Mc} {w0 : World} {csN : Array Value} {ps po pl ps' po' pl' : List Nat} {sv fv ov lv sv' ov' lv' : Value} {vs vs' : List Value} {W W2 : World} {i : Nat} {v : Value} {T : TypeId}
    (h : TmI s b5 b6 g n n9 U x m w0 csN ps po pl sv fv ov lv vs W) (hf : Fr b6 T W W2) (hT1 : T ≠ 43) (hT2 : T ≠ 3) (h5 : W2.heap[b5]? = W.heap[b5]?) (hs : W.heap.size ≤ W2.heap.size)
    (hn5 : ∀ q, ov'.ownBlock = some q → q ≠ b5) (ht : TrI s b6 m U w0 ps' po' pl' sv' fv ov' lv' vs' (W2.setCell ⟨b6, i, none⟩ v)) :
    TmI s b5 b6 g n n9 U x m w0 csN ps' po' pl' sv' fv ov' lv' vs' (W2.setCell ⟨b6, i, none⟩ v) := by
  have hf2 := hf.set (i := i) v
  have hgb : g ≠ b6 := fun e => by
    have h1 := h.nums
    rw [e, h.tr.row] at h1
    injection h1 with h1
    injection h1 with _ h2
    exact absurd h2 (by decide)
  refine ⟨ht, ⟨hf2 _ _ _ _ h.box.row hT1.symm (by have := h.s1; omega)⟩, ?_, hf2 _ _ _ _ h.nums hT2.symm hgb, hf2 _ _ _ _ h.ret hT1.symm (by have := h.s1; omega), hn5, h.s1, h.l5, ?_⟩
  · rw [Below.heap_setCell _ _ _ _ (by have := h.l5; show b5 ≠ b6; omega), h5]; exact h.c5
  · rw [World.size_setCell]; exact Nat.le_trans h.size hs
theorem TmI.stay {s b5 b6 g n n9 U : Nat} {x : Ma} {m : Mc} {w0 : World} {csN : Array Value} {ps po pl : List Nat} {sv fv ov lv : Value} {vs : List Value} {W W2 : World}
    (h : TmI s b5 b6 g n n9 U x m w0 csN ps po pl sv fv ov lv vs W) (hb : Below W.heap.size W W2) : TmI s b5 b6 g n n9 U x m w0 csN ps po pl sv fv ov lv vs W2 :=
  ⟨h.tr.stay hb (Nat.le_of_lt h.box.lt), h.box.kept hb h.box.lt, (hb.block _ (Array.getElem?_eq_some_iff.1 h.c5).1).trans h.c5, (hb.block _ (Array.getElem?_eq_some_iff.1 h.nums).1).trans h.nums, (hb.block _ (Array.getElem?_eq_some_iff.1 h.ret).1).trans h.ret, h.no5, h.s1, h.l5, Nat.le_trans h.size hb.size⟩
theorem TmI.grown {s b5 b6 g n n9 U : Nat} {x : Ma} {m : Mc} {w0 : World} {csN : Array Value} {ps po pl : List Nat} {sv fv ov lv : Value} {vs : List Value} {W W2 : World} {row : Option Nat}
    (h : TmI s b5 b6 g n n9 U x m w0 csN ps po pl sv fv ov lv vs W) (hg : W.grownBy W2 row) (hne : ∀ (k : Nat) (cs : Array Value) (t : TypeId) (fr : Nat × Nat), W.heap[k]? = some (.cells cs t fr) → some k ≠ row) (hbl : ∀ k, row = some k → s ≤ k) : TmI s b5 b6 g n n9 U x m w0 csN ps po pl sv fv ov lv vs W2 := by
  have hk : ∀ (k : Nat) (cs : Array Value) (t : TypeId) (fr : Nat × Nat), W.heap[k]? = some (.cells cs t fr) → W2.heap[k]? = some (.cells cs t fr) := fun k cs t fr h => (hg.block k (Array.getElem?_eq_some_iff.1 h).1 (hne k cs t fr h)).trans h
  have ho : ∀ {B size n : Nat} {e : TypeId} {v : Value} {xs : List Value}, W.ownsRow B e size v n xs → W2.ownsRow B e size v n xs := fun {B size n e v xs} h => own_kept h fun q hq => by
    obtain ⟨cs, hc⟩ := own_type h hq
    rw [hk q cs e _ hc, hc]
  exact ⟨⟨hk _ _ _ _ h.tr.row, ho h.tr.sp, ho h.tr.fi, ho h.tr.fo, h.tr.len, fun i hi => ho (h.tr.each i hi), ho h.tr.la, h.tr.low, h.tr.below.grown hg (Nat.le_of_lt h.box.lt) hbl⟩, ⟨hk _ _ _ _ h.box.row⟩, hk _ _ _ _ h.c5, hk _ _ _ _ h.nums, hk _ _ _ _ h.ret, h.no5, h.s1, h.l5, Nat.le_trans h.size hg.size⟩
def TmP (s b5 b6 g n n9 U : Nat) (x : Ma) (m : Mc) (w0 : World) (csN : Array Value) (pre : List (In U)) (W : World) : Prop :=
  ∃ sv fv ov lv vs, TmI s b5 b6 g n n9 U x m w0 csN (pre.map Subtype.val) (pre.map Subtype.val) (pre.map Subtype.val) sv fv ov lv vs W
/-- a store into the machine in the making behind an append -/
theorem TmI.put {s b5 b6 g n n9 U : Nat} {x : Ma} {m : Mc} {w0 : World} {csN : Array Value} {ps po pl : List Nat} {sv fv ov lv : Value} {vs : List Value} {W W2 : World} {v v' : Value} {size q : Nat} {e : TypeId} {xs : List Value}
    (h : TmI s b5 b6 g n n9 U x m w0 csN ps po pl sv fv ov lv vs W) (ha : Ap W v W2 v') (ho : W.ownsRow s e size v q xs) (he : e ≠ 43) :
    W2.heap[b6]? = W.heap[b6]? ∧ Fr b6 e W W2 ∧ KeepsOthers W W2 ∧ (∀ i u, W2.heap[b6]? = some (.cells #[sv, fv, ov, lv, .bool m.em] 43 (0, 0)) → KeepsOthers W (W2.setCell ⟨b6, i, none⟩ u)) := by
  have hk := keeps_ap ha ho
  refine ⟨ha.block b6 (Array.getElem?_eq_some_iff.1 h.tr.row).1 (fun e2 => h.tr.notB ho he b6 e2 rfl), ha.fr ho b6, hk, fun i u hr => hk.trans (keeps_cell hr u)⟩
end Nf
end Go.Proofs.YtmjjkamndlefmaaDoor
