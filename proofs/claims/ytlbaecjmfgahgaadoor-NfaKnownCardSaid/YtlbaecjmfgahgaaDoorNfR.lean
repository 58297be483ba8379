/- What is reached, as a function of sets (no program). -/
import Derived.Test.YtlbaecjmfgahgaaDoorNfM
namespace Go.Proofs.YtlbaecjmfgahgaaDoor
namespace Nf
open Sets
def rchN (G : List Nat) (W : Nat) : Nat → Nat → Nat → Nat
  | 0, all, _ => all
  | f + 1, all, more => if more = 0 then all else rchN G W f (all ||| more) ((bh G more &&& W) &&& (full ^^^ (all ||| more)))
def rch (F : Nat) (G : List Nat) (W : Nat) : Nat := rchN G W 257 0 (F &&& W)
theorem cnt_pos {S : Nat} (h : S ≠ 0) (hS : S < 2 ^ 256) : 0 < cnt S := by
  obtain ⟨k, hk⟩ := Nat.exists_testBit_of_ne_zero h
  rw [← listN_length]
  refine List.length_pos_of_mem ((mem_listN S k).2 ⟨?_, hk⟩)
  rcases Nat.lt_or_ge k 256 with h1 | h1
  · exact h1
  · rw [testBit_ge hS h1] at hk; cases hk
theorem cnt_zero : cnt 0 = 0 := by decide +kernel
theorem cnt_apart {A B : Nat} (h : A &&& B = 0) : cnt (A ||| B) = cnt A + cnt B := by
  have := cnt_and_or A B
  rw [h, cnt_zero] at this
  omega
theorem and_eq_zero {A B : Nat} (h : ∀ k, A.testBit k = true → B.testBit k = true → False) : A &&& B = 0 := by
  apply Nat.eq_of_testBit_eq
  intro k
  rw [Nat.testBit_and, Nat.zero_testBit, Bool.eq_false_iff]
  intro hh
  rw [Bool.and_eq_true] at hh
  exact h k hh.1 hh.2
theorem not_bit (A k : Nat) (hk : k < 256) : (full ^^^ A).testBit k = true ↔ ¬ A.testBit k = true := by
  rw [Nat.testBit_xor, testBit_full, decide_eq_true hk]
  cases A.testBit k <;> simp
theorem bit256 {A k : Nat} (hA : A < 2 ^ 256) (h : A.testBit k = true) : k < 256 := by
  rcases Nat.lt_or_ge k 256 with h1 | h1
  · exact h1
  · rw [testBit_ge hA h1] at h; cases h
theorem next_bit (G : List Nat) (W A B k : Nat) (hW : W < 2 ^ 256) : ((bh G B &&& W) &&& (full ^^^ A)).testBit k = true ↔ (∃ i, i < 256 ∧ B.testBit i = true ∧ (G.getD i 0).testBit k = true) ∧ W.testBit k = true ∧ ¬ A.testBit k = true := by
  rw [Nat.testBit_and, Nat.testBit_and, Bool.and_eq_true, Bool.and_eq_true, bh_bit]
  constructor
  · rintro ⟨⟨h1, h2⟩, h3⟩
    exact ⟨h1, h2, (not_bit A k (bit256 hW h2)).1 h3⟩
  · rintro ⟨h1, h2, h3⟩
    exact ⟨⟨h1, h2⟩, (not_bit A k (bit256 hW h2)).2 h3⟩
theorem next_apart (G : List Nat) (W A B : Nat) (hW : W < 2 ^ 256) : A &&& ((bh G B &&& W) &&& (full ^^^ A)) = 0 :=
  and_eq_zero (fun k h1 h2 => ((next_bit G W A B k hW).1 h2).2.2 h1)
theorem next_lt (G : List Nat) (W A B : Nat) (hW : W < 2 ^ 256) : ((bh G B &&& W) &&& (full ^^^ A)) < 2 ^ 256 :=
  Nat.lt_of_le_of_lt Nat.and_le_left (Nat.lt_of_le_of_lt Nat.and_le_right hW)
abbrev Ed (G : List Nat) : Nat → Nat → Prop := fun i k => (G.getD i 0).testBit k = true
theorem rchN_iff (G : List Nat) (F W : Nat) (hW : W < 2 ^ 256) : ∀ (f all more : Nat), 256 - cnt all < f → all < 2 ^ 256 → more < 2 ^ 256 → all &&& more = 0 →
    (∀ k, all.testBit k = true → Rc F W (Ed G) k) → (∀ k, more.testBit k = true → Rc F W (Ed G) k) →
    (∀ k, F.testBit k = true → W.testBit k = true → all.testBit k = true ∨ more.testBit k = true) →
    (∀ i k, all.testBit i = true → Ed G i k → W.testBit k = true → all.testBit k = true ∨ more.testBit k = true) →
    (rchN G W f all more < 2 ^ 256 ∧ ∀ k, (rchN G W f all more).testBit k = true ↔ Rc F W (Ed G) k)
  | 0, _, _, hf, _, _, _, _, _, _, _ => absurd hf (Nat.not_lt_zero _)
  | f + 1, all, more, hf, ha, hm, hd, h1, h2, h3, h4 => by
    unfold rchN
    by_cases h0 : more = 0
    · rw [if_pos h0]
      subst h0
      refine ⟨ha, fun k => ⟨h1 k, fun h => ?_⟩⟩
      refine Rc.least (p := fun k => all.testBit k = true) (fun k a b => ?_) (fun i k a b c => ?_) k h
      · rcases h3 k a b with h | h
        · exact h
        · rw [Nat.zero_testBit] at h; cases h
      · rcases h4 i k a b c with h | h
        · exact h
        · rw [Nat.zero_testBit] at h; cases h
    · rw [if_neg h0]
      have hor : ∀ k, (all ||| more).testBit k = true ↔ all.testBit k = true ∨ more.testBit k = true := fun k => by rw [Nat.testBit_or, Bool.or_eq_true]
      have hcp := cnt_pos h0 hm
      have hca := cnt_apart hd
      have hle := cnt_le (all ||| more)
      refine rchN_iff G F W hW f _ _ (by omega) (lt_or ha hm) (next_lt _ _ _ _ hW) (next_apart _ _ _ _ hW) ?_ ?_ ?_ ?_
      · intro k hk
        rcases (hor k).1 hk with h | h
        · exact h1 k h
        · exact h2 k h
      · intro k hk
        obtain ⟨⟨i, -, a, b⟩, c, -⟩ := (next_bit _ _ _ _ _ hW).1 hk
        exact .step (h2 i a) b c
      · intro k a b
        exact .inl ((hor k).2 (h3 k a b))
      · intro i k a b c
        by_cases hk : (all ||| more).testBit k = true
        · exact .inl hk
        · refine .inr ((next_bit _ _ _ _ _ hW).2 ⟨?_, c, hk⟩)
          rcases (hor i).1 a with h | h
          · exact absurd ((hor k).2 (h4 i k h b c)) hk
          · exact ⟨i, bit256 hm h, h, b⟩
theorem rch_iff (G : List Nat) (F W : Nat) (hW : W < 2 ^ 256) : rch F G W < 2 ^ 256 ∧ ∀ k, (rch F G W).testBit k = true ↔ Rc F W (Ed G) k := by
  refine rchN_iff G F W hW 257 0 (F &&& W) (by rw [cnt_zero]; decide) (Nat.two_pow_pos 256) (Nat.lt_of_le_of_lt Nat.and_le_right hW) (Nat.zero_and _) ?_ ?_ ?_ ?_
  · intro k h; rw [Nat.zero_testBit] at h; cases h
  · intro k h
    rw [Nat.testBit_and, Bool.and_eq_true] at h
    exact .base h.1 h.2
  · intro k a b
    exact .inr (by rw [Nat.testBit_and, a, b]; rfl)
  · intro i k h; rw [Nat.zero_testBit] at h; cases h
theorem rchN_step (G : List Nat) (W f all more : Nat) (h : more ≠ 0) : rchN G W (f + 1) all more = rchN G W f (all ||| more) ((bh G more &&& W) &&& (full ^^^ (all ||| more))) := by
  rw [rchN, if_neg h]
theorem rchN_stop (G : List Nat) (W f all : Nat) : rchN G W f all 0 = all := by
  cases f with
  | zero => rfl
  | succ f => rw [rchN, if_pos rfl]
/-- who leads to k -/
def turnL (L : List (List Int)) (k : Nat) : List Int := ((List.range L.length).filter fun i => (L.getD i []).contains (k : Int)).map fun (i : Nat) => (i : Int)
theorem turnL_bit {n : Nat} {L : List (List Int)} (hn : ∀ l ∈ L, rise n l = true) (i k : Nat) : (grp (turnL L k)).testBit i = true ↔ (grp (L.getD i [])).testBit k = true := by
  rw [testBit_grp]
  unfold turnL
  rw [List.map_map, List.mem_map]
  have hgi : ∀ i, (L.getD i []).contains (k : Int) = true ↔ (grp (L.getD i [])).testBit k = true := by
    intro i
    rw [List.contains_iff_mem]
    rcases Nat.lt_or_ge i L.length with h | h
    · exact (grp_bit (hn _ (getD_mem h)) k).symm
    · rw [getD_ge h]; simp [grp, ofN]
  constructor
  · rintro ⟨j, hj, rfl⟩
    rw [List.mem_filter] at hj
    exact (hgi _).1 hj.2
  · intro h
    have h2 := (hgi i).2 h
    refine ⟨i, ?_, by simp⟩
    rw [List.mem_filter, List.mem_range]
    refine ⟨?_, h2⟩
    rcases Nat.lt_or_ge i L.length with h | h
    · exact h
    · rw [getD_ge h] at h2; cases h2
/-- The set of useful spots, as the program reckons it. -/
def useN (m : Mc) : Nat := rch (grp m.fi) (m.fo.map grp) (fullN m) &&& rch (lastN m) ((List.range m.sp.length).map fun k => grp (turnL m.fo k)) (fullN m)
theorem full_lt {m : Mc} (h : m.sp.length ≤ 256) : fullN m < 2 ^ 256 := ofN_lt _ (fun x hx => by
  have := List.mem_range.1 (List.mem_filter.1 hx).1; omega)
theorem useN_us {m : Mc} (h : Rt m) : Us m (useN m) := by
  have h250 := h.many
  have hW := full_lt (m := m) (by omega)
  intro k
  unfold useN
  rw [Nat.testBit_and, Bool.and_eq_true, (rch_iff _ _ _ hW).2, (rch_iff _ _ _ hW).2]
  have e1 : ∀ i k, Ed (m.fo.map grp) i k ↔ (foN m i).testBit k = true := fun i k => by unfold Ed; rw [map_grp]
  have e2 : ∀ i k, k < m.sp.length → (Ed ((List.range m.sp.length).map fun k => grp (turnL m.fo k)) i k ↔ (foN m k).testBit i = true) := fun i k hk => by
    unfold Ed
    rcases Nat.lt_or_ge i m.sp.length with hi | hi
    · rw [List.getD_eq_getElem?_getD, List.getElem?_map, List.getElem?_range hi]
      show (grp (turnL m.fo i)).testBit k = true ↔ _
      exact turnL_bit h.foR k i
    · rw [getD_ge (by simpa using hi)]
      constructor
      · intro h; rw [Nat.zero_testBit] at h; cases h
      · intro h2; have := fo_lt h h2; omega
  have hk : ∀ k, (fullN m).testBit k = true → k < m.sp.length := fun k hk => by
    rw [full_bit] at hk
    rcases Nat.lt_or_ge k m.sp.length with h | h
    · exact h
    · unfold stN at hk; rw [getD_ge h] at hk; exact absurd rfl hk
  constructor
  · rintro ⟨a, b⟩
    refine ⟨Rc.least (p := Co m) (fun k x y => .base x y) (fun i k x y z => .step x ((e1 i k).1 y) z) k a, Rc.least (p := Gg m) (fun k x y => .base x y) (fun i k x y z => .step x ((e2 i k (hk k z)).1 y) z) k b⟩
  · rintro ⟨a, b⟩
    refine ⟨Rc.least (p := Rc _ _ (Ed (m.fo.map grp))) (fun k x y => .base x y) (fun i k x y z => .step x ((e1 i k).2 y) z) k a, Rc.least (p := Rc _ _ (Ed ((List.range m.sp.length).map fun k => grp (turnL m.fo k)))) (fun k x y => .base x y) (fun i k x y z => .step x ((e2 i k (hk k z)).2 y) z) k b⟩
end Nf
end Go.Proofs.YtlbaecjmfgahgaaDoor
