/- Build: the automaton of a machine of at most 8 spots. -/
import Derived.Test.YtmjjkamndlefmaaDoorPq33
import Derived.Test.YtmjjkamndlefmaaDoorPq34
import Derived.Test.YtmjjkamndlefmaaDoorPq37
import Derived.Test.YtmjjkamndlefmaaDoorPq24
namespace Go.Proofs.YtmjjkamndlefmaaDoor
open Go.RowKit Sets Nf Cls Df Dbl DfK DfR
namespace Df
theorem hasK_bit (m : Mc) (b k : Nat) : ∀ n, (hasK m b n).testBit k = (decide (k < n) && (stN m k).testBit b)
  | 0 => by simp [hasK]
  | n + 1 => by
    unfold hasK
    by_cases h : (stN m n).testBit b
    · rw [if_pos h, Nat.testBit_or, hasK_bit m b k n, Nat.testBit_two_pow]
      by_cases e : n = k
      · subst e; simp [h]
      · have h2 : decide (k < n + 1) = decide (k < n) := by rw [decide_eq_decide]; omega
        simp [e, h2]
    · rw [if_neg h, hasK_bit m b k n]
      by_cases e : k = n
      · subst e
        have : (stN m k).testBit b = false := by simpa using h
        simp [this]
      · have h2 : decide (k < n + 1) = decide (k < n) := by rw [decide_eq_decide]; omega
        rw [h2]
theorem lastK_bit (m : Mc) (k : Nat) : ∀ n, (lastK m n).testBit k = (decide (k < n) && m.la.getD k false)
  | 0 => by simp [lastK]
  | n + 1 => by
    unfold lastK
    by_cases h : m.la.getD n false = true
    · rw [if_pos h, Nat.testBit_or, lastK_bit m k n, Nat.testBit_two_pow]
      by_cases e : n = k
      · subst e; simp only [h]; simp
      · have h2 : decide (k < n + 1) = decide (k < n) := by rw [decide_eq_decide]; omega
        simp [e, h2]
    · rw [if_neg h, lastK_bit m k n]
      by_cases e : k = n
      · subst e
        have : m.la.getD k false = false := by simpa using h
        simp only [this, Bool.and_false]
      · have h2 : decide (k < n + 1) = decide (k < n) := by rw [decide_eq_decide]; omega
        rw [h2]
theorem lastK_eq (m : Mc) : lastK m m.la.length = lastN m := by
  apply Nat.eq_of_testBit_eq
  intro k
  rw [lastK_bit, Bool.eq_iff_iff, last_bit, Bool.and_eq_true, decide_eq_true_iff]
  constructor
  · exact fun h => h.2
  · intro h
    refine ⟨?_, h⟩
    rcases Nat.lt_or_ge k m.la.length with hk | hk
    · exact hk
    · rw [getD_ge hk] at h; cases h
/-- None of the sets splits a class: bytes of one class are in a spot's set alike. -/
def Whole (m : Mc) (of : Nat → Nat) : Prop := ∀ k, k < m.sp.length → ∀ c d, c < 256 → d < 256 → of c = of d → (stN m k).testBit c = (stN m k).testBit d
/-- The states that a machine's automaton may have. -/
def OkS (m : Mc) (s : Nat × Bool) : Prop := (∀ k, s.1.testBit k = true → k < m.sp.length) ∧ (s.2 = false → s.1 = 0)
theorem ok_lt {m : Mc} (hr : Rt m) {s : Nat × Bool} (h : OkS m s) : s.1 < 2 ^ 256 := by
  refine Nat.lt_pow_two_of_testBit _ fun k hk => ?_
  have := hr.many
  cases hb : s.1.testBit k with
  | false => rfl
  | true => have := h.1 k hb; omega
theorem ok_next {m : Mc} (of : Nat → Nat) (nc : Nat) (s : Nat × Bool) (c : Nat) : OkS m (intoS (rdOf m of nc) s c) := by
  refine ⟨fun k hk => ?_, fun e => by cases e⟩
  unfold intoS at hk
  simp only [Nat.testBit_and, Bool.and_eq_true] at hk
  have h1 := hk.2
  unfold rdOf at h1
  simp only at h1
  rw [List.getD_eq_getElem?_getD, List.getElem?_map] at h1
  cases hc : (List.range nc)[c]? with
  | none => rw [hc] at h1; simp at h1
  | some d =>
    rw [hc] at h1
    simp only [Option.map_some, Option.getD_some] at h1
    unfold hasN at h1
    rw [hasK_bit, Bool.and_eq_true, decide_eq_true_iff] at h1
    exact h1.1
theorem stN_len {m : Mc} (hr : Rt m) (of : Nat → Nat) (nc : Nat) : (rdOf m of nc).G.length = m.sp.length := by
  show (m.fo.map grp).length = _
  rw [List.length_map, hr.fol]
/-- Few states, where there are few spots. -/
theorem ok_few {m : Mc} (h8 : m.sp.length ≤ 8) (L : List (Nat × Bool)) (hn : L.Nodup) (h : ∀ s ∈ L, OkS m s) : L.length ≤ 257 := by
  have hu : ∀ s ∈ L, s ∈ (0, false) :: (List.range 256).map fun q => (q, true) := fun s hs => by
    have h1 := h s hs
    obtain ⟨q, b⟩ := s
    cases b with
    | false =>
      have : q = 0 := h1.2 rfl
      subst this; exact List.mem_cons_self ..
    | true =>
      refine List.mem_cons_of_mem _ (List.mem_map.2 ⟨q, List.mem_range.2 ?_, rfl⟩)
      have : q < 2 ^ 8 := Nat.lt_pow_two_of_testBit _ fun k hk => by
        cases hb : q.testBit k with
        | false => rfl
        | true => have := h1.1 k hb; omega
      exact this
  have := nodup_len L _ hn hu
  simpa using this
/-- Behind each byte the spots are those that the machine's runs are in. -/
theorem read_eq {m : Mc} (hr : Rt m) {of : Nat → Nat} {nc : Nat} (hp : prightB of nc = true) (hof : ∀ c, c < 256 → of c < nc) (hw : Whole m of) (q c : Nat) (hc : c < 256) (hq : ∀ k, q.testBit k = true → k < m.sp.length) :
    q &&& (rdOf m of nc).H.getD (of c) 0 = rd m q c := by
  have hH : (rdOf m of nc).H.getD (of c) 0 = hasN m of (of c) := by
    show ((List.range nc).map (hasN m of)).getD (of c) 0 = _
    rw [List.getD_eq_getElem?_getD, List.getElem?_map, List.getElem?_range (hof c hc)]; rfl
  have hl := low_one hp (hof c hc)
  apply Nat.eq_of_testBit_eq
  intro k
  rw [hH, Nat.testBit_and, Bool.eq_iff_iff, rd_bit, Bool.and_eq_true]
  unfold hasN
  rw [hasK_bit, Bool.and_eq_true, decide_eq_true_iff]
  constructor
  · rintro ⟨h1, h2, h3⟩
    have := hr.many
    exact ⟨by omega, h1, by rw [hw k h2 c _ hc hl.2.1 hl.2.2.symm]; exact h3⟩
  · rintro ⟨-, h1, h3⟩
    exact ⟨h1, hq k h1, by rw [← hw k (hq k h1) c _ hc hl.2.1 hl.2.2.symm]; exact h3⟩
theorem bh_ok {m : Mc} (hr : Rt m) (q k : Nat) (h : (bh (m.fo.map grp) q).testBit k = true) : k < m.sp.length := by
  rw [bh_bit] at h
  obtain ⟨i, -, -, h2⟩ := h
  rw [map_grp] at h2
  exact fo_lt hr h2
/-- The states behind a text. -/
theorem fold_runs {m : Mc} (hr : Rt m) {of : Nat → Nat} {nc : Nat} (hp : prightB of nc = true) (hof : ∀ c, c < 256 → of c < nc) (hw : Whole m of) : ∀ (w : List Nat) (s : Nat × Bool) (q : Nat), (∀ c ∈ w, c < 256) → nextS (rdOf m of nc) s = q → (∀ k, q.testBit k = true → k < m.sp.length) → w ≠ [] →
    w.foldl (fun t c => intoS (rdOf m of nc) t (of c)) s = ((w.foldl (stepS m) (s.1, q)).1, true)
  | [], _, _, _, _, _, h => absurd rfl h
  | c :: w, s, q, hcw, hq, hql, _ => by
    have hc := hcw c (List.mem_cons_self ..)
    have h1 : intoS (rdOf m of nc) s (of c) = (rd m q c, true) := by
      unfold intoS
      rw [hq, read_eq hr hp hof hw q c hc hql]
    rw [List.foldl_cons, List.foldl_cons, h1]
    by_cases e : w = []
    · subst e; rfl
    · rw [fold_runs hr hp hof hw w (rd m q c, true) (bh (m.fo.map grp) (rd m q c)) (fun x hx => hcw x (List.mem_cons_of_mem _ hx)) rfl (fun k hk => bh_ok hr _ k hk) e]
      rfl
theorem takes_runs {m : Mc} (hr : Rt m) {of : Nat → Nat} {nc : Nat} (hp : prightB of nc = true) (hof : ∀ c, c < 256 → of c < nc) (hw : Whole m of) (w : List Nat) (hcw : ∀ c ∈ w, c < 256) :
    finS (rdOf m of nc) (w.foldl (fun t c => intoS (rdOf m of nc) t (of c)) (0, false)) = takesM m w := by
  unfold takesM
  rw [(right_iff m).2 hr, Bool.true_and]
  by_cases e : w = []
  · subst e; rfl
  · rw [if_neg e, fold_runs hr hp hof hw w (0, false) (grp m.fi) hcw rfl (fun k hk => fi_lt hr hk) e]
    unfold finS
    rw [if_pos rfl]
    show decide ((w.foldl (stepS m) (0, grp m.fi)).1 &&& lastK m m.la.length ≠ 0) = _
    rw [lastK_eq]; rfl
theorem split_no {of : Nat → Nat} {n S : Nat} (hof : ∀ c, c < 256 → of c < n) : splitsB of n S = false ↔ ∀ c d, c < 256 → d < 256 → of c = of d → S.testBit c = S.testBit d := by
  unfold splitsB
  rw [List.any_eq_false]
  have hb : ∀ j c, (clsSet of 256 j).testBit c = (decide (c < 256) && of c == j) := fun j c => clsSet_bit of 256 j c
  constructor
  · intro h c d hc hd e
    have h1 := h (of c) (List.mem_range.2 (hof c hc))
    unfold splitB at h1
    simp only [Bool.and_eq_true, Bool.not_eq_true', decide_eq_false_iff_not, not_and, Classical.not_not] at h1
    cases hsc : S.testBit c with
    | true =>
      have h2 : ¬ clsSet of 256 (of c) &&& S = 0 := fun e0 => by
        have := congrArg (fun x => x.testBit c) e0
        simp [Nat.testBit_and, hb, hc, hsc] at this
      have h3 := h1 h2
      have := congrArg (fun x => x.testBit d) h3
      simp [Nat.testBit_and, hb, hd, e] at this
      exact this.symm
    | false =>
      cases hsd : S.testBit d with
      | false => rfl
      | true =>
        have h2 : ¬ clsSet of 256 (of c) &&& S = 0 := fun e0 => by
          have := congrArg (fun x => x.testBit d) e0
          simp [Nat.testBit_and, hb, hd, hsd, e] at this
        have h3 := h1 h2
        have := congrArg (fun x => x.testBit c) h3
        simp [Nat.testBit_and, hb, hc, hsc] at this
  · intro h j hj
    unfold splitB
    simp only [Bool.and_eq_true, Bool.not_eq_true', decide_eq_false_iff_not, not_and, Classical.not_not]
    intro h2
    apply Nat.eq_of_testBit_eq
    intro c
    rw [Nat.testBit_and, hb]
    obtain ⟨d, hd⟩ := Nat.exists_testBit_of_ne_zero h2
    rw [Nat.testBit_and, hb, Bool.and_eq_true, Bool.and_eq_true, decide_eq_true_iff, beq_iff_eq] at hd
    by_cases hc : c < 256 ∧ of c = j
    · rw [h c d hc.1 hd.1.1 (by rw [hc.2, hd.1.2]), hd.2]; simp
    · have : (decide (c < 256) && of c == j) = false := by
        rw [Bool.eq_false_iff]
        intro e
        rw [Bool.and_eq_true, decide_eq_true_iff, beq_iff_eq] at e
        exact hc e
      rw [this, Bool.false_and]
theorem mem_stTo (m : Mc) (S : Nat) : S ∈ stTo m m.sp.length ↔ ∃ k, k < m.sp.length ∧ S = stN m k := by
  unfold stTo
  rw [mem_puts]
  simp
theorem whole_iff {m : Mc} {of : Nat → Nat} {n : Nat} (hof : ∀ c, c < 256 → of c < n) : (stTo m m.sp.length).any (splitsB of n) = false ↔ Whole m of := by
  rw [List.any_eq_false]
  constructor
  · intro h k hk c d hc hd e
    have := h _ ((mem_stTo m _).2 ⟨k, hk, rfl⟩)
    rw [Bool.not_eq_true] at this
    exact (split_no hof).1 this c d hc hd e
  · intro h S hS
    obtain ⟨k, hk, rfl⟩ := (mem_stTo m S).1 hS
    rw [Bool.not_eq_true]
    exact (split_no hof).2 (h k hk)
theorem stTo_len (m : Mc) : ∀ k, (stTo m k).length ≤ k
  | 0 => Nat.le_refl _
  | k + 1 => by
    have ih := stTo_len m k
    show (put (stTo m k) (stN m k)).length ≤ k + 1
    by_cases hm : stN m k ∈ stTo m k
    · rw [put_old hm]; omega
    · rw [put_new hm, List.length_append, List.length_singleton]; omega
end Df
end Go.Proofs.YtmjjkamndlefmaaDoor
