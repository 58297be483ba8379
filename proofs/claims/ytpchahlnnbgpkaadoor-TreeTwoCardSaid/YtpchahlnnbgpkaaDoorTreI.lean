/- Two prints are one just if the trees are. Plain; no program. -/
import Derived.Test.YtpchahlnnbgpkaaDoorTreJ
namespace Go.Proofs.YtpchahlnnbgpkaaDoor
namespace Tr
open Sets
/-- A text that does not go on with what a piece could go on with. -/
def Stop (bad : List Nat) (r : List Nat) : Prop := ∀ c t, r = c :: t → c ∉ bad
/-- What may begin a piece is none of these. -/
def B0 : List Nat := [33, 38, 41, 42, 43, 63, 123, 124]
theorem hex_inj {a b : Nat} (ha : a < 16) (hb : b < 16) (h : hex a = hex b) : a = b := by unfold hex at h; split at h <;> split at h <;> omega
theorem mem_contains {m : List Nat} {c : Nat} : m.contains c = true ↔ c ∈ m := List.contains_iff_mem
/-- an escape read back -/
theorem esc_read {m : List Nat} (h92 : 92 ∈ m) (h120 : 120 ∉ m) {c d : Nat} (hc : c < 256) (hd : d < 256) {r s : List Nat} (h : esc m c ++ r = esc m d ++ s) : c = d ∧ r = s := by
  unfold esc at h
  by_cases h1 : m.contains c = true <;> by_cases h2 : m.contains d = true
  · rw [if_pos h1, if_pos h2] at h
    simp only [List.cons_append, List.nil_append, List.cons.injEq, true_and] at h
    exact h
  · rw [if_pos h1, if_neg h2] at h
    split at h
    · simp only [List.cons_append, List.nil_append, List.cons.injEq, true_and] at h
      exact absurd (h.1 ▸ mem_contains.1 h1) h120
    · simp only [List.cons_append, List.nil_append, List.cons.injEq] at h
      exact absurd (mem_contains.2 (h.1 ▸ h92)) h2
  · rw [if_neg h1, if_pos h2] at h
    split at h
    · simp only [List.cons_append, List.nil_append, List.cons.injEq, true_and] at h
      exact absurd (h.1 ▸ mem_contains.1 h2) h120
    · simp only [List.cons_append, List.nil_append, List.cons.injEq] at h
      exact absurd (mem_contains.2 (h.1.symm ▸ h92)) h1
  · rw [if_neg h1, if_neg h2] at h
    split at h <;> split at h <;> simp only [List.cons_append, List.nil_append, List.cons.injEq, true_and] at h
    · have e1 := hex_inj (by omega) (by omega) h.1
      have e2 := hex_inj (by omega) (by omega) h.2.1
      exact ⟨by omega, h.2.2⟩
    · exact absurd (mem_contains.2 (h.1 ▸ h92)) h2
    · exact absurd (mem_contains.2 (h.1.symm ▸ h92)) h1
    · exact h
theorem esc_head {m : List Nat} (c : Nat) : ∃ t a, esc m c = a :: t ∧ (a = 92 ∨ (a = c ∧ m.contains c = false ∧ 33 ≤ c)) := by
  unfold esc
  by_cases h1 : m.contains c = true
  · rw [if_pos h1]; exact ⟨_, _, rfl, .inl rfl⟩
  · rw [if_neg h1]
    split
    · exact ⟨_, _, rfl, .inl rfl⟩
    · exact ⟨_, _, rfl, .inr ⟨rfl, by simpa using h1, by omega⟩⟩
/-- The run ahead is a run. -/
theorem run_seq : ∀ (l : List Nat) (i : Nat), i < runLen l → l.getD i 0 = l.getD 0 0 + i := by
  intro l
  induction l with
  | nil => intro i hi; simp [runLen] at hi
  | cons a l ih =>
    intro i hi
    cases l with
    | nil => have : i = 0 := by simp [runLen] at hi; omega
             subst this; rfl
    | cons b r =>
      cases i with
      | zero => rfl
      | succ i =>
        unfold runLen at hi
        split at hi
        · rename_i hb
          have := ih i (by omega)
          simp only [List.getD_cons_succ, List.getD_cons_zero] at this ⊢
          omega
        · omega
theorem take_run (l : List Nat) : l.take (runLen l) = (List.range (runLen l)).map (l.getD 0 0 + ·) := by
  apply List.ext_getElem
  · have := runLen_le l; simp; omega
  · intro i h1 h2
    have hr := runLen_le l
    simp only [List.length_map, List.length_range] at h2
    have := run_seq l i h2
    rw [List.getD_eq_getElem?_getD, List.getElem?_eq_getElem (by omega), Option.getD_some] at this
    simp [this]
/-- What stands in brackets, read: the first byte, and how many. -/
theorem oneRun_eq (a n : Nat) (hn : 1 ≤ n) : oneRun ((List.range n).map (a + ·)) = esc inner a ++ ((if 2 < n then [45] else []) ++ (if 1 < n then esc inner (a + (n - 1)) else [])) := by
  unfold oneRun
  have h1 : ((List.range n).map (a + ·)).length = n := by simp
  rw [h1]
  have h2 : ((List.range n).map (a + ·)).getD 0 0 = a := by
    rw [List.getD_eq_getElem?_getD, List.getElem?_eq_getElem (by simp; omega)]; simp
  have h3 : ((List.range n).map (a + ·)).getD (n - 1) 0 = a + (n - 1) := by
    rw [List.getD_eq_getElem?_getD, List.getElem?_eq_getElem (by simp; omega)]; simp
  rw [h2, h3]
/-- Behind a run comes something else. -/
theorem run_next (l : List Nat) (h : runLen l < l.length) (h0 : l ≠ []) : l.getD (runLen l) 0 ≠ l.getD 0 0 + runLen l := by
  induction l with
  | nil => exact absurd rfl h0
  | cons a l ih =>
    cases l with
    | nil => simp [runLen] at h
    | cons b r =>
      unfold runLen at h ⊢
      split
      · rename_i hb
        rw [if_pos hb] at h
        have := ih (by simpa using h) (by simp)
        simp only [List.getD_cons_succ, List.getD_cons_zero] at this ⊢
        omega
      · rename_i hb
        simp only [List.getD_cons_succ, List.getD_cons_zero]
        exact hb
theorem mem92 : 92 ∈ inner := by decide
theorem nom120 : 120 ∉ inner := by decide
/-- what the items begin with, and what not -/
theorem runs_head (f : Nat) (L r : List Nat) : (∃ t, runs f L ++ 93 :: r = 93 :: t ∧ (L = [] ∨ f = 0)) ∨ ∃ a t, runs f L ++ 93 :: r = a :: t ∧ a ≠ 93 ∧ a ≠ 45 := by
  cases f with
  | zero => exact .inl ⟨r, rfl, .inr rfl⟩
  | succ f =>
    cases L with
    | nil => exact .inl ⟨r, rfl, .inl rfl⟩
    | cons x L =>
      right
      simp only [runs]
      rw [take_run, oneRun_eq _ _ (runLen_pos x L)]
      obtain ⟨t, a, e, h⟩ := esc_head (m := inner) ((x :: L).getD 0 0)
      rw [e]
      refine ⟨a, _, rfl, ?_, ?_⟩
      · rcases h with rfl | ⟨rfl, h2, -⟩
        · decide
        · intro e; rw [e] at h2; simp [inner] at h2
      · rcases h with rfl | ⟨rfl, h2, -⟩
        · decide
        · intro e; rw [e] at h2; simp [inner] at h2
theorem esc_inner_head (c : Nat) (r : List Nat) : ∃ a t, esc inner c ++ r = a :: t ∧ a ≠ 93 ∧ a ≠ 45 := by
  obtain ⟨t, a, e, h⟩ := esc_head (m := inner) c
  refine ⟨a, t ++ r, by rw [e]; rfl, ?_, ?_⟩
  · rcases h with rfl | ⟨rfl, h2, -⟩
    · decide
    · intro e; rw [e] at h2; simp [inner] at h2
  · rcases h with rfl | ⟨rfl, h2, -⟩
    · decide
    · intro e; rw [e] at h2; simp [inner] at h2
/-- the text behind a run's first byte -/
def tailRun (a n : Nat) (z : List Nat) : List Nat := (if 2 < n then [45] else []) ++ ((if 1 < n then esc inner (a + (n - 1)) else []) ++ z)
theorem runs_read : ∀ (f : Nat) (L M r s : List Nat), L.length ≤ f → M.length ≤ f → (∀ c ∈ L, c < 256) → (∀ c ∈ M, c < 256) → runs f L ++ 93 :: r = runs f M ++ 93 :: s → L = M ∧ r = s := by
  intro f
  induction f with
  | zero =>
    intro L M r s hL hM _ _ h
    have e1 : L = [] := List.eq_nil_of_length_eq_zero (by omega)
    have e2 : M = [] := List.eq_nil_of_length_eq_zero (by omega)
    subst e1 e2
    simp only [runs, List.nil_append, List.cons.injEq, true_and] at h
    exact ⟨rfl, h⟩
  | succ f ih =>
    intro L M r s hL hM bL bM h
    cases L with
    | nil =>
      cases M with
      | nil => simp only [runs, List.nil_append, List.cons.injEq, true_and] at h; exact ⟨rfl, h⟩
      | cons y M =>
        rcases runs_head (f + 1) (y :: M) s with ⟨t, e, h1 | h1⟩ | ⟨a, t, e, h1, h2⟩
        · cases h1
        · cases h1
        · rw [e] at h
          simp only [runs, List.nil_append, List.cons.injEq] at h
          exact absurd h.1.symm h1
    | cons x L =>
      cases M with
      | nil =>
        rcases runs_head (f + 1) (x :: L) r with ⟨t, e, h1 | h1⟩ | ⟨a, t, e, h1, h2⟩
        · cases h1
        · cases h1
        · rw [e] at h
          simp only [runs, List.nil_append, List.cons.injEq] at h
          exact absurd h.1 h1
      | cons y M =>
        have hn := runLen_pos x L
        have hm := runLen_pos y M
        have hnl := runLen_le (x :: L)
        have hml := runLen_le (y :: M)
        have gx : ∀ i, (x :: L).getD i 0 < 256 := getD_lt256 bL
        have gy : ∀ i, (y :: M).getD i 0 < 256 := getD_lt256 bM
        have sx := run_seq (x :: L)
        have sy := run_seq (y :: M)
        have tx := take_run (x :: L)
        have ty := take_run (y :: M)
        have nx := run_next (x :: L)
        have ny := run_next (y :: M)
        simp only [runs] at h
        rw [tx, ty, oneRun_eq _ _ hn, oneRun_eq _ _ hm] at h
        simp only [List.append_assoc] at h
        obtain ⟨ha, h⟩ := esc_read mem92 nom120 (gx 0) (gy 0) h
        generalize hN : runLen (x :: L) = n at *
        generalize hM' : runLen (y :: M) = m at *
        rw [← ha] at h ny sy ty
        have hxn := sx (n - 1) (by omega)
        have hym := sy (m - 1) (by omega)
        have bxn := gx (n - 1)
        have bym := gy (m - 1)
        generalize ha0 : (x :: L).getD 0 0 = a at *
        have key : n = m ∧ runs f ((x :: L).drop n) ++ 93 :: r = runs f ((y :: M).drop m) ++ 93 :: s := by
          have two : ∀ (p q : Nat) (U V : List Nat), 1 ≤ p → q = 1 → 1 < p → ¬ 2 < p → (∀ c, V.head? = some c → c ≠ a + 1 ∧ c < 256) → a + 1 < 256 → ∀ r s, esc inner (a + (p - 1)) ++ (runs f U ++ 93 :: r) ≠ runs f V ++ 93 :: s := by
            intro p q U V _ _ hp1 hp2 hV ha1 r s hh
            have hp : p = 2 := by omega
            subst hp
            obtain ⟨b, t, e, hb1, hb2⟩ := esc_inner_head (a + (2 - 1)) (runs f U ++ 93 :: r)
            cases V with
            | nil =>
              have e0 : runs f [] = [] := by cases f <;> rfl
              rw [e, e0] at hh
              simp only [List.nil_append, List.cons.injEq] at hh
              exact hb1 hh.1
            | cons v V =>
              cases f with
              | zero =>
                rw [e] at hh
                simp only [runs, List.nil_append, List.cons.injEq] at hh
                exact hb1 hh.1
              | succ f =>
                simp only [runs] at hh
                rw [take_run (v :: V), oneRun_eq _ _ (runLen_pos v V)] at hh
                simp only [List.append_assoc] at hh
                have hv := hV v rfl
                have := (esc_read mem92 nom120 (by omega) (by simpa using hv.2) hh).1
                simp only [List.getD_cons_zero] at this
                exact hv.1 this.symm
          by_cases h2n : 2 < n <;> by_cases h2m : 2 < m
          · rw [if_pos h2n, if_pos h2m, if_pos (by omega), if_pos (by omega)] at h
            simp only [List.cons_append, List.nil_append, List.cons.injEq, true_and] at h
            obtain ⟨e, h⟩ := esc_read mem92 nom120 (by omega) (by omega) h
            exact ⟨by omega, h⟩
          · exfalso
            rw [if_pos h2n, if_neg h2m, List.nil_append] at h
            by_cases h1m : 1 < m
            · rw [if_pos h1m] at h
              obtain ⟨b, t, e, hb1, hb2⟩ := esc_inner_head (a + (m - 1)) (runs f ((y :: M).drop m) ++ 93 :: s)
              rw [e] at h
              simp only [List.cons_append, List.cons.injEq] at h
              exact hb2 h.1.symm
            · rw [if_neg h1m, List.nil_append] at h
              rcases runs_head f ((y :: M).drop m) s with ⟨t, e, -⟩ | ⟨b, t, e, hb1, hb2⟩
              · rw [e] at h
                simp only [List.cons_append, List.cons.injEq] at h
                exact absurd h.1 (by decide)
              · rw [e] at h
                simp only [List.cons_append, List.cons.injEq] at h
                exact hb2 h.1.symm
          · exfalso
            rw [if_neg h2n, if_pos h2m, List.nil_append] at h
            by_cases h1n : 1 < n
            · rw [if_pos h1n] at h
              obtain ⟨b, t, e, hb1, hb2⟩ := esc_inner_head (a + (n - 1)) (runs f ((x :: L).drop n) ++ 93 :: r)
              rw [e] at h
              simp only [List.cons_append, List.cons.injEq] at h
              exact hb2 h.1
            · rw [if_neg h1n, List.nil_append] at h
              rcases runs_head f ((x :: L).drop n) r with ⟨t, e, -⟩ | ⟨b, t, e, hb1, hb2⟩
              · rw [e] at h
                simp only [List.cons_append, List.cons.injEq] at h
                exact absurd h.1 (by decide)
              · rw [e] at h
                simp only [List.cons_append, List.cons.injEq] at h
                exact hb2 h.1
          · rw [if_neg h2n, if_neg h2m, List.nil_append, List.nil_append] at h
            by_cases h1n : 1 < n <;> by_cases h1m : 1 < m
            · rw [if_pos h1n, if_pos h1m] at h
              have hnm : n = m := by omega
              subst hnm
              obtain ⟨e, h⟩ := esc_read mem92 nom120 (by omega) (by omega) h
              exact ⟨rfl, h⟩
            · exfalso
              rw [if_pos h1n, if_neg h1m, List.nil_append] at h
              refine two n m _ _ (by omega) (by omega) h1n h2n (fun c hc => ?_) (by omega) r s h
              have hlt : m < (y :: M).length := by
                rcases Nat.lt_or_ge m (y :: M).length with h | h
                · exact h
                · rw [List.drop_eq_nil_of_le h] at hc; cases hc
              rw [List.head?_drop, List.getElem?_eq_getElem hlt] at hc
              injection hc with hc
              have h3 := ny hlt (by simp)
              rw [List.getD_eq_getElem?_getD, List.getElem?_eq_getElem hlt, Option.getD_some, hc] at h3
              exact ⟨by omega, hc ▸ bM _ (List.getElem_mem hlt)⟩
            · exfalso
              rw [if_neg h1n, if_pos h1m, List.nil_append] at h
              refine two m n _ _ (by omega) (by omega) h1m h2m (fun c hc => ?_) (by omega) s r h.symm
              have hlt : n < (x :: L).length := by
                rcases Nat.lt_or_ge n (x :: L).length with h | h
                · exact h
                · rw [List.drop_eq_nil_of_le h] at hc; cases hc
              rw [List.head?_drop, List.getElem?_eq_getElem hlt] at hc
              injection hc with hc
              have h3 := nx hlt (by simp)
              rw [List.getD_eq_getElem?_getD, List.getElem?_eq_getElem hlt, Option.getD_some, hc] at h3
              exact ⟨by omega, hc ▸ bL _ (List.getElem_mem hlt)⟩
            · rw [if_neg h1n, if_neg h1m, List.nil_append, List.nil_append] at h
              exact ⟨by omega, h⟩
        obtain ⟨hnm, h2⟩ := key
        subst hnm
        obtain ⟨h3, h4⟩ := ih _ _ r s (by rw [List.length_drop]; simp only [List.length_cons] at *; omega) (by rw [List.length_drop]; simp only [List.length_cons] at *; omega) (fun c hc => bL c (List.mem_of_mem_drop hc)) (fun c hc => bM c (List.mem_of_mem_drop hc)) h2
        refine ⟨?_, h4⟩
        rw [← List.take_append_drop n (x :: L), ← List.take_append_drop n (y :: M), tx, ty, h3]
theorem listN_inj {S T : Nat} (hS : S < 2 ^ 256) (hT : T < 2 ^ 256) (h : listN S = listN T) : S = T := by
  rw [← ofN_listN S hS, ← ofN_listN T hT, h]
end Tr
end Go.Proofs.YtpchahlnnbgpkaaDoor
