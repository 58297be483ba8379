/- The maker of automata. (Written by gendfd.py) -/
import Derived.Test.YtmjjkamndlefmaaDoorPq35
import Derived.Test.YtmjjkamndlefmaaDoorPq24
namespace Go.Proofs.YtmjjkamndlefmaaDoor
open Go.RowKit Sets Nf Df Dbl
namespace DfR
/-- Blocks of rows that are none of states, nor the maker's, nor a purse, stay at a call of state. -/
theorem FrM.typ {w w1 : World} {s mb mg t0 : Nat} {p : Option (Nat × Nat)} {sv v1 : Value} {L : List (Nat × Bool)} (h : FrM mb mg p w sv w1 v1) (hm : MkAt w s mb mg p t0 sv L) {k : Nat} {cs : Array Value} {t : TypeId} {fr : Nat × Nat} (hk : w.heap[k]? = some (.cells cs t fr))
    (h1 : t ≠ 86) (h2 : t ≠ 123) (h3 : t ≠ 145) : w1.heap[k]? = w.heap[k]? := by
  refine h.block k (Array.getElem?_eq_some_iff.1 hk).1 (fun e => ?_) (fun e => ?_) (fun e => ?_) (fun q hq e => ?_)
  · rw [e, hm.row] at hk; injection hk with hk; injection hk with _ hk; exact h2 hk.symm
  · rw [e, hm.map.row] at hk; cases hk
  · obtain ⟨cs', hc⟩ := own_type hm.own e
    rw [hc] at hk; injection hk with hk; injection hk with _ hk; exact h1 hk.symm
  · have := hm.pay q hq
    unfold PurseAt at this
    rw [e, hk] at this; injection this with this; injection this with _ this; exact h3 this
/-- The maker stays where only rows of other types turn. -/
theorem MkAt.keep {w w1 : World} {s mb mg t0 : Nat} {p : Option (Nat × Nat)} {sv : Value} {L : List (Nat × Bool)} (h : MkAt w s mb mg p t0 sv L)
    (hk : ∀ (k : Nat) (o : Obj), w.heap[k]? = some o → (∀ (cs : Array Value) (t : TypeId), o = Obj.cells cs t (0, 0) → t = 86 ∨ t = 123 ∨ t = 145) → w1.heap[k]? = some o) : MkAt w1 s mb mg p t0 sv L := by
  refine ⟨hk _ _ h.row (fun cs t e => ?_), h.map.of ?_, own_kept h.own fun g hg => ?_, fun q hq => (h.pay q hq).kept ?_, h.low⟩
  · injection e with _ e; exact .inr (.inl e.symm)
  · rw [hk _ _ h.map.row (fun cs t e => by cases e), h.map.row]
  · obtain ⟨cs', hc⟩ := own_type h.own hg
    rw [hk _ _ hc (fun cs t e => by injection e with _ e; exact .inl e.symm), hc]
  · have h1 := h.pay q hq
    unfold PurseAt at h1
    rw [hk _ _ h1 (fun cs t e => by injection e with _ e; exact .inr (.inr e.symm)), h1]
/-- What the making of an automaton keeps. -/
structure AuI (w0 : World) (s mb mg bp db rb : Nat) (p : Option (Nat × Nat)) (t0 : Nat) (of : Nat → Nat) (n : Int) (sv : Value) (L : List (Nat × Bool)) (nv fv : Value) (vs : List Value) (R : List (List Int)) (F : List Bool) (W : World) : Prop where
  mka : MkAt W s mb mg p t0 sv L
  part : W.heap[bp]? = some (.cells (partC of n) 24 (0, 0))
  row : W.heap[db]? = some (.cells (dfC of n nv fv) 28 (0, 0))
  res : W.heap[rb]? = some (.cells (dfC (fun _ => 0) 0 nilS nilS) 28 (0, 0))
  own : OwnD s W R F nv fv vs
  low : s ≤ db ∧ s ≤ rb ∧ db ≠ rb
  bel : BelP p s w0 W
section
variable {w0 W W' : World} {s mb mg bp db rb t0 : Nat} {p : Option (Nat × Nat)} {of : Nat → Nat} {n : Int} {sv nv fv : Value} {L : List (Nat × Bool)} {vs : List Value} {R : List (List Int)} {F : List Bool}
theorem AuI.size (h : AuI w0 s mb mg bp db rb p t0 of n sv L nv fv vs R F W) : s ≤ W.heap.size := Nat.le_trans h.mka.low.1 (Nat.le_of_lt h.mka.lt)
theorem AuI.stay (h : AuI w0 s mb mg bp db rb p t0 of n sv L nv fv vs R F W) (hb : Below W.heap.size W W') : AuI w0 s mb mg bp db rb p t0 of n sv L nv fv vs R F W' :=
  ⟨h.mka.stay hb, (hb.block _ (Array.getElem?_eq_some_iff.1 h.part).1).trans h.part, (hb.block _ (Array.getElem?_eq_some_iff.1 h.row).1).trans h.row, (hb.block _ (Array.getElem?_eq_some_iff.1 h.res).1).trans h.res, h.own.stay hb, h.low, h.bel.trans (BelP.of_below (hb.mono h.size))⟩
theorem AuI.put (h : AuI w0 s mb mg bp db rb p t0 of n sv L nv fv vs R F W) {sv' : Value} {L' : List (Nat × Bool)} (hm : MkAt W' s mb mg p t0 sv' L') (hf : FrM mb mg p W sv W' sv') : AuI w0 s mb mg bp db rb p t0 of n sv' L' nv fv vs R F W' := by
  refine ⟨hm, (hf.typ h.mka h.part (by decide) (by decide) (by decide)).trans h.part, (hf.typ h.mka h.row (by decide) (by decide) (by decide)).trans h.row, (hf.typ h.mka h.res (by decide) (by decide) (by decide)).trans h.res, h.own.kept fun k cs t hc ht => hf.typ h.mka hc ?_ ?_ ?_, h.low, h.bel.trans ⟨hf.os, hf.tape, hf.output, hf.size, fun k hk hq => hf.block k (Nat.lt_of_lt_of_le hk h.size) (by have := h.mka.low; omega) (by have := h.mka.low; omega) (fun e => by have := (h.mka.own.lt _ e).1; omega) hq⟩⟩
  all_goals (rcases ht with rfl | rfl | rfl <;> decide)
/-- One more row of next states. -/
theorem AuI.pushN (h : AuI w0 s mb mg bp db rb p t0 of n sv L nv fv vs R F W) {W2 : World} {nv' v : Value} {row : List Int} (ho : W2.ownsRow s 41 1 nv' (R.length + 1) (vs ++ [v])) (hv : OwnN s W v row) (hb : Below s W W2) (ha : Ap W nv W2 nv') :
    AuI w0 s mb mg bp db rb p t0 of n sv L nv' fv (vs ++ [v]) (R ++ [row]) F (W2.setCell ⟨db, 257, none⟩ nv') := by
  have hk : ∀ k o, W.heap[k]? = some o → (∀ cs : Array Value, o ≠ Obj.cells cs 41 (0, 0)) → W2.heap[k]? = some o := fun k o hk hn => by
    rw [ha.block k (Array.getElem?_eq_some_iff.1 hk).1 (fun e => ?_)]
    · exact hk
    · obtain ⟨cs, hc⟩ := own_type h.own.nx e
      rw [hk] at hc; injection hc with hc; exact hn cs hc
  have hr2 := hk _ _ h.row (fun cs e => by injection e with _ e; exact absurd e (by decide))
  have hset : ∀ k, k ≠ db → (W2.setCell ⟨db, 257, none⟩ nv').heap[k]? = W2.heap[k]? := fun k hk => Below.heap_setCell W2 ⟨db, 257, none⟩ nv' k hk
  have hk2 : ∀ k o, W.heap[k]? = some o → (∀ (cs : Array Value) (t : TypeId), o = Obj.cells cs t (0, 0) → t ≠ 41 ∧ t ≠ 28) → (W2.setCell ⟨db, 257, none⟩ nv').heap[k]? = some o := fun k o hko hn => by
    rw [hset k (fun e => ?_)]
    · exact hk k o hko (fun cs e => (hn cs _ e).1 rfl)
    · rw [e, h.row] at hko; injection hko with hko; exact (hn _ _ hko.symm).2 rfl
  refine ⟨h.mka.keep fun k o ho ht => hk2 k o ho (fun cs t e => ?_), hk2 _ _ h.part (fun cs t e => ?_), ?_, ?_, ⟨?_, by simp [h.own.len], fun i hi => ?_, ?_⟩, h.low, (h.bel.trans (BelP.of_below hb)).trans ?_⟩
  · rcases ht cs t e with rfl | rfl | rfl <;> exact ⟨by decide, by decide⟩
  · injection e with _ e; subst e; exact ⟨by decide, by decide⟩
  · rw [heap_setCell_same _ _ _ _ _ _ hr2, dfC_setN]
  · rw [hset _ h.low.2.2.symm]; exact hk _ _ h.res (fun cs e => by injection e with _ e; exact absurd e (by decide))
  · rw [List.length_append, List.length_singleton]
    refine own_kept ho fun g hg => hset g (fun e => ?_)
    obtain ⟨cs, hc⟩ := own_type ho hg
    rw [e, hr2] at hc; injection hc with hc; injection hc with _ hc; exact absurd hc (by decide)
  · rw [List.length_append, List.length_singleton] at hi
    have key : ∀ {v : Value} {l : List Int}, OwnN s W v l → OwnN s (W2.setCell ⟨db, 257, none⟩ nv') v l := fun {v l} h0 => own_kept h0 fun g hg => by
      obtain ⟨cs, hc⟩ := own_type h0 hg
      rw [hk2 _ _ hc (fun cs t e => by injection e with _ e; subst e; exact ⟨by decide, by decide⟩), hc]
    by_cases e : i < R.length
    · rw [List.getD_eq_getElem?_getD, List.getElem?_append_left (by rw [h.own.len]; exact e), ← List.getD_eq_getElem?_getD, List.getD_eq_getElem?_getD (l := R ++ [row]), List.getElem?_append_left e, ← List.getD_eq_getElem?_getD]
      exact key (h.own.each i e)
    · have e2 : i = R.length := by omega
      rw [List.getD_eq_getElem?_getD, List.getElem?_append_right (by rw [h.own.len]; omega), List.getD_eq_getElem?_getD (l := R ++ [row]), List.getElem?_append_right (by omega), h.own.len, e2, Nat.sub_self]
      exact key hv
  · refine own_kept h.own.fl fun g hg => ?_
    obtain ⟨cs, hc⟩ := own_type h.own.fl hg
    rw [hk2 _ _ hc (fun cs t e => by injection e with _ e; subst e; exact ⟨by decide, by decide⟩), hc]
  · exact BelP.of_below ((Below.refl _ _).setCell (p := ⟨db, 257, none⟩) h.low.1 _)
/-- One more state told to be final, or not. -/
theorem AuI.pushF (h : AuI w0 s mb mg bp db rb p t0 of n sv L nv fv vs R F W) {W2 : World} {fv' : Value} {b : Bool} (ho : W2.ownsRow s 4 1 fv' (F.length + 1) (bL F ++ [.bool b])) (hb : Below s W W2) (ha : Ap W fv W2 fv') :
    AuI w0 s mb mg bp db rb p t0 of n sv L nv fv' vs R (F ++ [b]) (W2.setCell ⟨db, 258, none⟩ fv') := by
  have hk : ∀ k o, W.heap[k]? = some o → (∀ cs : Array Value, o ≠ Obj.cells cs 4 (0, 0)) → W2.heap[k]? = some o := fun k o hk hn => by
    rw [ha.block k (Array.getElem?_eq_some_iff.1 hk).1 (fun e => ?_)]
    · exact hk
    · obtain ⟨cs, hc⟩ := own_type h.own.fl e
      rw [hk] at hc; injection hc with hc; exact hn cs hc
  have hr2 := hk _ _ h.row (fun cs e => by injection e with _ e; exact absurd e (by decide))
  have hset : ∀ k, k ≠ db → (W2.setCell ⟨db, 258, none⟩ fv').heap[k]? = W2.heap[k]? := fun k hk => Below.heap_setCell W2 ⟨db, 258, none⟩ fv' k hk
  have hk2 : ∀ k o, W.heap[k]? = some o → (∀ (cs : Array Value) (t : TypeId), o = Obj.cells cs t (0, 0) → t ≠ 4 ∧ t ≠ 28) → (W2.setCell ⟨db, 258, none⟩ fv').heap[k]? = some o := fun k o hko hn => by
    rw [hset k (fun e => ?_)]
    · exact hk k o hko (fun cs e => (hn cs _ e).1 rfl)
    · rw [e, h.row] at hko; injection hko with hko; exact (hn _ _ hko.symm).2 rfl
  refine ⟨h.mka.keep fun k o ho ht => hk2 k o ho (fun cs t e => ?_), hk2 _ _ h.part (fun cs t e => ?_), ?_, ?_, ⟨?_, h.own.len, fun i hi => ?_, ?_⟩, h.low, (h.bel.trans (BelP.of_below hb)).trans ?_⟩
  · rcases ht cs t e with rfl | rfl | rfl <;> exact ⟨by decide, by decide⟩
  · injection e with _ e; subst e; exact ⟨by decide, by decide⟩
  · rw [heap_setCell_same _ _ _ _ _ _ hr2, dfC_setF]
  · rw [hset _ h.low.2.2.symm]; exact hk _ _ h.res (fun cs e => by injection e with _ e; exact absurd e (by decide))
  · refine own_kept h.own.nx fun g hg => ?_
    obtain ⟨cs, hc⟩ := own_type h.own.nx hg
    rw [hk2 _ _ hc (fun cs t e => by injection e with _ e; subst e; exact ⟨by decide, by decide⟩), hc]
  · refine own_kept (h.own.each i hi) fun g hg => ?_
    obtain ⟨cs, hc⟩ := own_type (h.own.each i hi) hg
    rw [hk2 _ _ hc (fun cs t e => by injection e with _ e; subst e; exact ⟨by decide, by decide⟩), hc]
  · rw [List.length_append, List.length_singleton, show bL (F ++ [b]) = bL F ++ [.bool b] from by unfold bL; rw [List.map_append]; rfl]
    refine own_kept ho fun g hg => hset g (fun e => ?_)
    obtain ⟨cs, hc⟩ := own_type ho hg
    rw [e, hr2] at hc; injection hc with hc; injection hc with _ hc; exact absurd hc (by decide)
  · exact BelP.of_below ((Below.refl _ _).setCell (p := ⟨db, 258, none⟩) h.low.1 _)
/-- A number is written into a row that is not yet one of them. -/
theorem AuI.wrote (h : AuI w0 s mb mg bp db rb p t0 of n sv L nv fv vs R F W) {g i : Nat} {v : Value} {cs : Array Value} (hg : W.heap[g]? = some (.cells cs 3 (0, 0))) (hs : s ≤ g) (hn : ∀ i, i < R.length → ∀ k, (vs.getD i nilS).ownBlock = some k → k ≠ g) :
    AuI w0 s mb mg bp db rb p t0 of n sv L nv fv vs R F (W.setCell ⟨g, i, none⟩ v) := by
  have hset : ∀ k, k ≠ g → (W.setCell ⟨g, i, none⟩ v).heap[k]? = W.heap[k]? := fun k hk => Below.heap_setCell W ⟨g, i, none⟩ v k hk
  have hk2 : ∀ k o, W.heap[k]? = some o → (∀ (cs : Array Value) (t : TypeId), o = Obj.cells cs t (0, 0) → t ≠ 3) → (W.setCell ⟨g, i, none⟩ v).heap[k]? = some o := fun k o hko hn => by
    rw [hset k (fun e => ?_)]
    · exact hko
    · rw [e, hg] at hko; injection hko with hko; exact hn _ _ hko.symm rfl
  refine ⟨h.mka.keep fun k o ho ht => hk2 k o ho (fun cs t e => ?_), hk2 _ _ h.part (fun cs t e => ?_), hk2 _ _ h.row (fun cs t e => ?_), hk2 _ _ h.res (fun cs t e => ?_), ⟨?_, h.own.len, fun j hj => own_kept (h.own.each j hj) fun k hk => hset k (hn j hj k hk), ?_⟩, h.low, h.bel.trans ?_⟩
  · rcases ht cs t e with rfl | rfl | rfl <;> decide
  · injection e with _ e; subst e; decide
  · injection e with _ e; subst e; decide
  · injection e with _ e; subst e; decide
  · refine own_kept h.own.nx fun k hk => ?_
    obtain ⟨cs, hc⟩ := own_type h.own.nx hk
    rw [hk2 _ _ hc (fun cs t e => by injection e with _ e; subst e; decide), hc]
  · refine own_kept h.own.fl fun k hk => ?_
    obtain ⟨cs, hc⟩ := own_type h.own.fl hk
    rw [hk2 _ _ hc (fun cs t e => by injection e with _ e; subst e; decide), hc]
  · exact BelP.of_below ((Below.refl _ _).setCell (p := ⟨g, i, none⟩) hs _)
end
end DfR
end Go.Proofs.YtmjjkamndlefmaaDoor
