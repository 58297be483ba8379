/- What OctetsTells keeps from byte to byte. Plain arithmetic; no program. -/
import Derived.Test.YtdhnaldjofpeeaaDoorPackM
namespace Go.Proofs.YtdhnaldjofpeeaaDoor
namespace Sets
def upto (p : Nat → Bool) (c d : Nat) : Bool := decide (d < c) && p d
theorem upto_zero (p : Nat → Bool) (d : Nat) : upto p 0 d = false := by simp [upto]
theorem upto_succ (p : Nat → Bool) (c d : Nat) : upto p (c + 1) d = if d = c then p c else upto p c d := by
  unfold upto
  by_cases h : d = c
  · subst h; simp
  · simp only [h, if_false]
    congr 1
    rw [decide_eq_decide]; omega
theorem upto_full (p : Nat → Bool) (d : Nat) (h : d < 256) : upto p 256 d = p d := by simp [upto, h]
/-- The least byte of S below c; -1, if there is none. -/
def lst (S : Nat) : Nat → Int
  | 0 => -1
  | c + 1 => if lst S c < 0 then (if S.testBit c then (c : Int) else lst S c) else lst S c
theorem lst_spec (S : Nat) : ∀ c, (lst S c = -1 ∧ ∀ d, d < c → S.testBit d = false) ∨ (∃ d : Nat, d < c ∧ lst S c = d ∧ S.testBit d = true ∧ ∀ e, e < d → S.testBit e = false)
  | 0 => .inl ⟨rfl, fun d hd => by omega⟩
  | c + 1 => by
    rcases lst_spec S c with ⟨h1, h2⟩ | ⟨d, h1, h2, h3, h4⟩
    · cases hb : S.testBit c
      · refine .inl ⟨by simp [lst, h1, hb], fun d hd => ?_⟩
        by_cases he : d = c
        · subst he; exact hb
        · exact h2 d (by omega)
      · exact .inr ⟨c, by omega, by simp [lst, h1, hb], hb, h2⟩
    · refine .inr ⟨d, by omega, ?_, h3, h4⟩
      have : ¬ lst S c < 0 := by omega
      unfold lst
      rw [if_neg this, h2]
theorem lst_succ (S c : Nat) : lst S (c + 1) = if lst S c < 0 then (if S.testBit c then (c : Int) else lst S c) else lst S c := rfl
theorem eq_zero_of (S : Nat) (hS : S < 2 ^ 256) (h : ∀ d, d < 256 → S.testBit d = false) : S = 0 := by
  apply Nat.eq_of_testBit_eq; intro c
  rw [Nat.zero_testBit]
  by_cases hc : c < 256
  · exact h c hc
  · exact testBit_ge hS (Nat.le_of_not_lt hc)
theorem pc_pos (S c d : Nat) (hd : d < c) (h : S.testBit d = true) : 0 < pc c S := by
  obtain ⟨m, rfl⟩ : ∃ m, c = (d + 1) + m := ⟨c - (d + 1), by omega⟩
  rw [pc_add, pc_succ, h]
  simp
  omega
theorem lst_bound (S c : Nat) : -1 ≤ lst S c ∧ lst S c < 256 ∨ 256 < c := by
  rcases lst_spec S c with ⟨h1, -⟩ | ⟨d, h1, h2, -⟩ <;> omega
theorem listN_at (S c : Nat) (hc : c < 256) (hb : S.testBit c = true) : (listN S).getD (pc c S) 0 = c ∧ pc c S < (listN S).length := by
  obtain ⟨m, hm⟩ : ∃ m, 256 = c + (m + 1) := ⟨255 - c, by omega⟩
  have e : listN S = ((List.range c).filter S.testBit) ++ (((List.range (m + 1)).map (c + ·)).filter S.testBit) := by
    unfold listN; rw [hm, List.range_add, List.filter_append]
  have hl := listN_length_aux S c
  have e2 : ((List.range (m + 1)).map (c + ·)).filter S.testBit = c :: ((List.range m).map (fun d => c + (d + 1))).filter S.testBit := by
    rw [List.range_succ_eq_map, List.map_cons, List.filter_cons, List.map_map]
    simp only [Nat.add_zero, hb, if_true]
    rfl
  rw [e, e2]
  constructor
  · rw [List.getD_eq_getElem?_getD, ← hl, List.getElem?_append_right (Nat.le_refl _)]; simp
  · rw [← hl, List.length_append]; simp
theorem pc_cnt (S : Nat) : pc 256 S = cnt S := by unfold cnt; rfl
attribute [irreducible] upto lst
end Sets
end Go.Proofs.YtdhnaldjofpeeaaDoor
