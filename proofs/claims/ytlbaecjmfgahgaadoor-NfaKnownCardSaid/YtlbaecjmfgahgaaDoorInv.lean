/- A region that draws its order, whatever the order: each operation's value keeps what is said of it, and the world only grows; the last one waits for all. -/
import Derived.Test.YtlbaecjmfgahgaaDoorMix
namespace Go.Proofs.YtlbaecjmfgahgaaDoor
open Go.RowKit
namespace Rinv
/-- the slots of the first k operations, filled -/
def putAll (d : Nat → Nat) (X : Nat → Value) : Nat → Act → Act
  | 0, a => a
  | k + 1, a => (putAll d X k a).put (some (d k)) (X k)
def upd (X : Nat → Value) (i : Nat) (v : Value) : Nat → Value := fun j => if j = i then v else X j
theorem putAll_congr (d : Nat → Nat) {X Y : Nat → Value} : ∀ (k : Nat) (a : Act), (∀ j, j < k → X j = Y j) → putAll d X k a = putAll d Y k a
  | 0, _, _ => rfl
  | k + 1, a, h => by rw [putAll, putAll, putAll_congr d k a (fun j hj => h j (by omega)), h k (by omega)]
theorem put_put (a : Act) (t : Nat) (u v : Value) : (a.put (some t) u).put (some t) v = a.put (some t) v := by
  simp only [Act.put, Array.setIfInBounds_setIfInBounds]
theorem put_upd {d : Nat → Nat} {X : Nat → Value} {i : Nat} (v : Value) : ∀ (k : Nat) (a : Act), i < k → (∀ j, j < k → j ≠ i → d j ≠ d i) → (putAll d X k a).put (some (d i)) v = putAll d (upd X i v) k a
  | 0, _, h, _ => by omega
  | k + 1, a, h, hd => by
    rw [putAll, putAll]
    by_cases e : i = k
    · subst e
      rw [put_put, putAll_congr d (X := X) (Y := upd X i v) i a (fun j hj => by unfold upd; rw [if_neg (by omega)])]
      unfold upd
      rw [if_pos rfl]
    · rw [← put_upd v k a (by omega) (fun j hj hn => hd j (by omega) hn)]
      have hx : upd X i v k = X k := by unfold upd; rw [if_neg (fun h => e h.symm)]
      rw [hx]
      exact Act.put_comm _ _ _ (fun t ht => by injection ht with ht; subst ht; intro h2; injection h2 with h2; exact hd k (by omega) (fun h => e h.symm) h2.symm)
/-- each operation waits for earlier ones alone, the last one for all; the slots are apart -/
def okB (l : List Oper) (m : Nat) (d : Nat → Nat) : Bool :=
  decide (l.length = m + 1) &&
  (List.range (m + 1)).all (fun i => ((l.getD i default).after.all fun e => !Region.binds .any e || decide (e.on < i))) &&
  (List.range m).all (fun i => ((l.getD m default).after.toList.any fun e => Region.binds .any e && e.on == i)) &&
  (List.range m).all (fun i => decide ((l.getD i default).dst = some (d i)) && (List.range m).all fun j => decide (j = i) || decide (d j ≠ d i))
/-- does i wait for j? -/
def waits (l : List Oper) (i j : Nat) : Prop := ((l.getD i default).after.toList.any fun e => Region.binds .any e && e.on == j) = true
theorem getD_set {a : Array Bool} {i j : Nat} (h : i < a.size) : (a.setIfInBounds i true).getD j true = if j = i then true else a.getD j true := by
  by_cases e : j = i
  · subst e; simp [h]
  · rw [if_neg e]
    simp [Array.getD_eq_getD_getElem?, Ne.symm e]
section
variable {P : Program} {Q : Exit → Act → World → Prop} {l : List Oper} {m : Nat} {d : Nat → Nat} {a : Act} {W : World} {R : Nat → Value → World → Prop}
theorem any_go (hok : okB l m d = true)
    (step : ∀ i, i < m → ∀ (X : Nat → Value) w', Below W.heap.size W w' → (∀ j, j < m → waits l i j → R j (X j) w') →
      wpOp P l.toArray Q i (fun a'' w'' => ∃ v, a'' = (putAll d X m a).put (some (d i)) v ∧ Below w'.heap.size w' w'' ∧ R i v w'') (putAll d X m a) w')
    (mono : ∀ i v w w', Below w.heap.size w w' → R i v w → R i v w')
    (fin : ∀ (X : Nat → Value) w', Below W.heap.size W w' → (∀ j, j < m → R j (X j) w') → wpOp P l.toArray Q m (fun a'' w'' => Q .normal a'' w'') (putAll d X m a) w') :
    ∀ (fuel : Nat) (listed : Array Bool) (X : Nat → Value) (w' : World), listed.size = m + 1 → listed.getD m true = false → Below W.heap.size W w' →
      (∀ j, j < m → listed.getD j true = true → R j (X j) w') → ((List.range (m + 1)).filter fun i => !listed.getD i true).length ≤ fuel → wpAny P .any l.toArray Q fuel listed (putAll d X m a) w' := by
  simp only [okB, Bool.and_eq_true, decide_eq_true_eq, List.all_eq_true, List.mem_range] at hok
  obtain ⟨⟨⟨hlen, hord⟩, hlast⟩, hdst⟩ := hok
  have hget : ∀ i, i < m + 1 → l.toArray[i]? = some (l.getD i default) := fun i hi => by
    rw [List.getElem?_toArray, List.getD_eq_getElem?_getD, List.getElem?_eq_getElem (by omega)]; rfl
  intro fuel
  induction fuel with
  | zero =>
    intro listed X w' hsz hm _ _ hf
    exfalso
    have : m ∈ (List.range (m + 1)).filter fun i => !listed.getD i true := List.mem_filter.2 ⟨List.mem_range.2 (by omega), by rw [hm]; rfl⟩
    rw [List.length_eq_zero_iff.1 (Nat.le_zero.1 hf)] at this
    cases this
  | succ fuel ih =>
    intro listed X w' hsz hm hB hR hf
    have hready : ∀ i, i ∈ Region.ready .any l.toArray listed ↔ i < m + 1 ∧ listed.getD i true = false ∧ ∀ e ∈ (l.getD i default).after, Region.binds .any e = true → listed.getD e.on false = true := fun i => by
      unfold Region.ready
      rw [List.mem_filter, List.mem_range]
      constructor
      · rintro ⟨h1, h2⟩
        have h1' : i < m + 1 := by rw [List.size_toArray] at h1; omega
        rw [hget i h1'] at h2
        simp only [Option.map_some, Option.getD_some, Bool.and_eq_true, Bool.not_eq_true', Array.all_eq_true_iff_forall_mem, Bool.or_eq_true] at h2
        exact ⟨h1', h2.1, fun e he hb => (h2.2 e he).resolve_left (by rw [hb]; decide)⟩
      · rintro ⟨h1, h2, h3⟩
        refine ⟨by rw [List.size_toArray]; omega, ?_⟩
        rw [hget i h1]
        simp only [Option.map_some, Option.getD_some, Bool.and_eq_true, Bool.not_eq_true', Array.all_eq_true_iff_forall_mem, Bool.or_eq_true]
        refine ⟨h2, fun e he => ?_⟩
        cases hb : Region.binds .any e
        · exact .inl rfl
        · exact .inr (h3 e he hb)
    have hfl : ∀ j, j < m + 1 → listed.getD j false = listed.getD j true := fun j hj => by
      simp [Array.getD_eq_getD_getElem?, Array.getElem?_eq_getElem (show j < listed.size from by omega)]
    refine ⟨fun hno => ?_, fun i hi => ?_⟩
    · -- the first that is not listed may come
      exfalso
      have hex : ∃ i, i < m + 1 ∧ listed.getD i true = false ∧ ∀ j, j < i → listed.getD j true = true := by
        have : ∀ k, k ≤ m → listed.getD k true = false → ∃ i, i < m + 1 ∧ listed.getD i true = false ∧ ∀ j, j < i → listed.getD j true = true := by
          intro k
          induction k using Nat.strongRecOn with
          | _ k ihk =>
            intro hk hkf
            by_cases hc : ∀ j, j < k → listed.getD j true = true
            · exact ⟨k, by omega, hkf, hc⟩
            · obtain ⟨j, hj⟩ := Classical.not_forall.1 hc
              obtain ⟨hjk, hjf⟩ := Classical.not_imp.1 hj
              exact ihk j hjk (by omega) (by cases h : listed.getD j true <;> simp_all)
        exact this m (Nat.le_refl _) hm
      obtain ⟨i, h1, h2, h3⟩ := hex
      have : i ∈ Region.ready .any l.toArray listed := (hready i).2 ⟨h1, h2, fun e he hb => by
        have h4 := hord i h1
        rw [Array.all_eq_true_iff_forall_mem] at h4
        have h5 := h4 e he
        rw [hb] at h5
        have h6 : e.on < i := by simpa using h5
        rw [hfl _ (by omega)]
        exact h3 _ h6⟩
      rw [hno] at this
      cases this
    · obtain ⟨h1, h2, h3⟩ := (hready i).1 hi
      by_cases him : i < m
      · have hdep : ∀ j, j < m → waits l i j → R j (X j) w' := fun j hj hw => by
          refine hR j hj ?_
          unfold waits at hw
          obtain ⟨e, he, hb⟩ := List.any_eq_true.1 hw
          have he : e ∈ (l.getD i default).after := by simpa using he
          simp only [Bool.and_eq_true, beq_iff_eq] at hb
          have := h3 e he hb.1
          rw [hb.2, hfl j (by omega)] at this
          exact this
        refine wpOp_mono (fun a'' w'' hh => ?_) (step i him X w' hB hdep)
        obtain ⟨v, rfl, hb, hr⟩ := hh
        rw [put_upd v m a him (fun j hj hn => (by
          have := (hdst i him).2 j hj
          simp only [Bool.or_eq_true, decide_eq_true_eq] at this
          exact this.resolve_left hn))]
        have hlt : i < listed.size := by omega
        refine ih (listed.setIfInBounds i true) (upd X i v) w'' (by simpa using hsz) ?_ (hB.trans (hb.mono hB.size)) ?_ ?_
        · rw [getD_set hlt, if_neg (by omega)]; exact hm
        · intro j hj hjl
          rw [getD_set hlt] at hjl
          unfold upd
          by_cases e : j = i
          · rw [if_pos e, e]; exact hr
          · rw [if_neg e]
            rw [if_neg e] at hjl
            exact mono j _ _ _ hb (hR j hj hjl)
        · have hsub : ((List.range (m + 1)).filter fun k => !(listed.setIfInBounds i true).getD k true) = ((List.range (m + 1)).filter fun k => !listed.getD k true).filter (fun k => decide (k ≠ i)) := by
            rw [List.filter_filter]
            refine List.filter_congr (fun k _ => ?_)
            rw [getD_set hlt]
            by_cases e : k = i
            · simp [e]
            · simp [e]
          rw [hsub]
          have hmem : i ∈ (List.range (m + 1)).filter fun k => !listed.getD k true := List.mem_filter.2 ⟨List.mem_range.2 h1, by rw [h2]; rfl⟩
          have := (List.length_filter_lt_length_iff_exists (p := fun k => decide (k ≠ i))).2 ⟨i, hmem, by simp⟩
          omega
      · obtain rfl : i = m := by omega
        have hall : ∀ j, j < i → listed.getD j true = true := fun j hj => by
          have h4 := hlast j hj
          obtain ⟨e, he, hb⟩ := List.any_eq_true.1 h4
          have he : e ∈ (l.getD i default).after := by simpa using he
          simp only [Bool.and_eq_true, beq_iff_eq] at hb
          have := h3 e he hb.1
          rw [hb.2, hfl j (by omega)] at this
          exact this
        refine wpOp_mono (fun a'' w'' hh => ?_) (fin X w' hB (fun j hj => hR j hj (hall j hj)))
        refine wpAny_done ?_ hh fuel
        have hlt : i < listed.size := by omega
        refine List.filter_eq_nil_iff.2 (fun k hk => ?_)
        have hk' : k < i + 1 := by have := List.mem_range.1 hk; rw [List.size_toArray] at this; omega
        rw [getD_set hlt]
        by_cases e : k = i
        · simp [e]
        · rw [if_neg e, hall k (by omega)]; simp
/-- what the first slots hold -/
theorem put_same (a : Act) {t : Nat} {v : Value} (h : a.tmps[t]? = some v) : a.put (some t) v = a := by
  obtain ⟨tmps, defers⟩ := a
  simp only [Act.put]
  congr 1
  refine Array.ext_getElem? (fun i => ?_)
  rw [Array.getElem?_setIfInBounds]
  by_cases e : t = i
  · subst e
    have hlt := (Array.getElem?_eq_some_iff.1 h).1
    rw [if_pos rfl, if_pos hlt]
    exact h.symm
  · rw [if_neg e]
theorem putAll_own {d : Nat → Nat} {X : Nat → Value} : ∀ (k : Nat) (a : Act), (∀ j, j < k → a.tmps[d j]? = some (X j)) → putAll d X k a = a
  | 0, _, _ => rfl
  | k + 1, a, h => by rw [putAll, putAll_own k a (fun j hj => h j (by omega)), put_same a (h k (by omega))]
/-- A region that draws its order. -/
theorem region_inv {id : Nat} (hm : P.follows .mixedOrders = true) (hok : okB l m d = true) (hsz : ∀ j, j < m → (a.tmps[d j]?).isSome = true)
    (mono : ∀ i v w w', Below w.heap.size w w' → R i v w → R i v w')
    (step : ∀ i, i < m → ∀ (X : Nat → Value) w', Below W.heap.size W w' → (∀ j, j < m → waits l i j → R j (X j) w') →
      wpOp P l.toArray (NoPanic Q) i (fun a'' w'' => ∃ v, a'' = (putAll d X m a).put (some (d i)) v ∧ Below w'.heap.size w' w'' ∧ R i v w'') (putAll d X m a) w')
    (fin : ∀ (X : Nat → Value) w', Below W.heap.size W w' → (∀ j, j < m → R j (X j) w') → wpOp P l.toArray (NoPanic Q) m (fun a'' w'' => NoPanic Q .normal a'' w'') (putAll d X m a) w') :
    (Code.region id l.toArray true).wp P Q a W := by
  refine wp_region_noPanic (wp_region_any hm ?_)
  have h0 : putAll d (fun j => (a.tmps[d j]?).getD undef) m a = a := putAll_own m a (fun j hj => by
    obtain ⟨v, hv⟩ := Option.isSome_iff_exists.1 (hsz j hj)
    rw [hv]; rfl)
  have hlen : l.length = m + 1 := by
    simp only [okB, Bool.and_eq_true, decide_eq_true_eq] at hok
    exact hok.1.1.1
  have := any_go (P := P) (Q := NoPanic Q) (a := a) (W := W) (R := R) hok step mono fin (m + 1) (Array.replicate (m + 1) false) (fun j => (a.tmps[d j]?).getD undef) W.drew (by simp) (by simp) ((Below.refl _ _).drew)
    (fun j hj hl => by simp [show j < m + 1 from by omega] at hl) (Nat.le_trans (List.length_filter_le _ _) (by simp))
  rw [h0] at this
  rw [show l.toArray.size = m + 1 from by simpa using hlen]
  exact this
theorem wpOp_list {i : Nat} {o : Oper} {ops : Array Oper} {K : Act → World → Prop} {a : Act} {w : World} (ho : ops[i]? = some o) (h : wpList P ops (mixQ Q K) [o] a w) : wpOp P ops Q i K a w := by
  unfold Go.wpOp
  simp only [ho]
  unfold wpList at h
  by_cases hw : Region.wanted o (yielded ops a.tmps) = true
  · rw [if_pos hw] at h ⊢
    rcases h with h | ⟨h1, a1, w1, h2⟩
    · exact .inl (wp_of_mixQ h)
    · exact .inr ⟨h1, a1, w1, h2⟩
  · rw [if_neg hw] at h ⊢
    exact h
/-- A region that draws its order, each operation walked by itself: at the end of one take 'hK'. -/
theorem region_inv' {id : Nat} (R : Nat → Value → World → Prop) (m : Nat) (d : Nat → Nat) (hm : P.follows .mixedOrders = true) (hok : okB l m d = true) (hsz : ∀ j, j < m → (a.tmps[d j]?).isSome = true)
    (mono : ∀ i v w w', Below w.heap.size w w' → R i v w → R i v w')
    (step : ∀ i, i < m → ∀ (X : Nat → Value) w', Below W.heap.size W w' → (∀ j, j < m → waits l i j → R j (X j) w') →
      ∀ K : Act → World → Prop, (∀ a'' w'' v, a'' = (putAll d X m a).put (some (d i)) v → Below w'.heap.size w' w'' → R i v w'' → K a'' w'') → wpList P l.toArray (mixQ (NoPanic Q) K) [l.getD i default] (putAll d X m a) w')
    (fin : ∀ (X : Nat → Value) w', Below W.heap.size W w' → (∀ j, j < m → R j (X j) w') →
      ∀ K : Act → World → Prop, (∀ a'' w'', Q .normal a'' w'' → K a'' w'') → wpList P l.toArray (mixQ (NoPanic Q) K) [l.getD m default] (putAll d X m a) w') :
    (Code.region id l.toArray true).wp P Q a W := by
  have hlen : l.length = m + 1 := by
    have h := hok
    simp only [okB, Bool.and_eq_true, decide_eq_true_eq] at h
    exact h.1.1.1
  have hget : ∀ i, i < m + 1 → l.toArray[i]? = some (l.getD i default) := fun i hi => by
    rw [List.getElem?_toArray, List.getD_eq_getElem?_getD, List.getElem?_eq_getElem (by omega)]; rfl
  refine region_inv (R := R) (m := m) (d := d) hm hok hsz mono (fun i hi X w' hB hR => ?_) (fun X w' hB hR => ?_)
  · exact wpOp_list (hget i (by omega)) (step i hi X w' hB hR _ (fun a'' w'' v h1 h2 h3 => ⟨v, h1, h2, h3⟩))
  · exact wpOp_list (hget m (by omega)) (fin X w' hB hR _ (fun a'' w'' h => h))
end
end Rinv
end Go.Proofs.YtlbaecjmfgahgaaDoor
