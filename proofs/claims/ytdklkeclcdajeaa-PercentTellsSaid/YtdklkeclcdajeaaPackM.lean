/- A set out of 256 answers, packed from the highest byte down. Plain arithmetic; no program. -/
import Derived.Test.YtdklkeclcdajeaaLst
namespace Go.Proofs.Ytdklkeclcdajeaa
namespace Sets
/-- The set of the bytes of which p says yes. -/
def packN (p : Nat → Bool) : Nat := ofN ((List.range 256).filter p)
theorem testBit_packN (p : Nat → Bool) (c : Nat) : (packN p).testBit c = (decide (c < 256) && p c) := by
  unfold packN
  rw [ofN_testBit, Bool.eq_iff_iff, List.contains_iff_mem]
  simp
theorem packN_lt (p : Nat → Bool) : packN p < 2 ^ 256 := by
  apply Nat.lt_pow_two_of_testBit
  intro j hj
  rw [testBit_packN]
  have : ¬ j < 256 := by omega
  simp [this]
theorem packN_eq (p : Nat → Bool) (S : Nat) (hS : S < 2 ^ 256) (h : ∀ c, c < 256 → p c = S.testBit c) : packN p = S := by
  apply Nat.eq_of_testBit_eq; intro c
  rw [testBit_packN]
  by_cases hc : c < 256
  · simp [hc, h c hc]
  · rw [testBit_ge hS (Nat.le_of_not_lt hc)]; simp [hc]
/-- Word q when the bytes from m on have been packed. -/
def st (S m q : Nat) : Nat := wd S q / 2 ^ (min 64 (m - 64 * q))
theorem st_start (S q : Nat) (hq : q < 4) : st S 256 q = 0 := by
  unfold st
  rw [show min 64 (256 - 64 * q) = 64 from by omega]
  exact Nat.div_eq_of_lt (wd_lt S q)
theorem st_end (S q : Nat) : st S 0 q = wd S q := by unfold st; simp
theorem st_keep (S c q : Nat) (h : ¬ c / 64 = q) : st S (c + 1) q = st S c q := by
  unfold st
  congr 2
  omega
theorem st_step (S c q : Nat) (h : c / 64 = q) : st S c q = 2 * st S (c + 1) q + (S.testBit c).toNat := by
  unfold st
  subst h
  rw [show min 64 (c - 64 * (c / 64)) = c % 64 from by omega, show min 64 (c + 1 - 64 * (c / 64)) = c % 64 + 1 from by omega, Nat.pow_succ, ← Nat.div_div_eq_div_mul]
  have hb := testBit_wd S (c / 64) (c % 64)
  rw [show 64 * (c / 64) + c % 64 = c from by omega, Nat.testBit_eq_decide_div_mod_eq] at hb
  have hl : c % 64 < 64 := by omega
  simp only [hl, decide_true, Bool.true_and] at hb
  rw [← hb]
  generalize wd S (c / 64) / 2 ^ (c % 64) = y
  by_cases hy : y % 2 = 1
  · simp [hy]; omega
  · simp [hy]; omega
theorem st_lt (S m q : Nat) : st S m q < 18446744073709551616 := Nat.lt_of_le_of_lt (Nat.div_le_self _ _) (wd_lt S q)
/-- The word of c, halved k times. -/
def xw (S c k : Nat) : Nat := wd S (c / 64) / 2 ^ k
theorem xw_zero (S c : Nat) : xw S c 0 = wd S (c / 64) := by unfold xw; simp
theorem xw_step (S c k : Nat) : xw S c k / 2 = xw S c (k + 1) := by unfold xw; rw [Nat.pow_succ, Nat.div_div_eq_div_mul]
theorem xw_lt (S c k : Nat) : xw S c k < 18446744073709551616 := Nat.lt_of_le_of_lt (Nat.div_le_self _ _) (wd_lt S _)
theorem xw_bit (S c : Nat) : decide (xw S c (c % 64) % 2 = 1) = S.testBit c := by
  have hb := testBit_wd S (c / 64) (c % 64)
  rw [show 64 * (c / 64) + c % 64 = c from by omega, Nat.testBit_eq_decide_div_mod_eq] at hb
  have hl : c % 64 < 64 := by omega
  simp only [hl, decide_true, Bool.true_and] at hb
  exact hb
theorem xw_bit_i (S c : Nat) : (((xw S c (c % 64) : Nat) : Int) % 2 == 1) = S.testBit c := by
  rw [← xw_bit]
  by_cases h : xw S c (c % 64) % 2 = 1
  · simp only [h, decide_true, beq_iff_eq]; omega
  · simp only [h, decide_false, beq_eq_false_iff_ne, ne_eq]; omega
attribute [irreducible] packN st xw
end Sets
end Go.Proofs.Ytdklkeclcdajeaa
