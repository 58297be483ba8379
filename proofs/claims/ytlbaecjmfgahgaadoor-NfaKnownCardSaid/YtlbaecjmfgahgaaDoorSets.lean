/- Sets of bytes as numbers below 2^256: words, membership, count, first, list. Plain arithmetic; no program. -/
import Derived.Says
namespace Go.Proofs.YtlbaecjmfgahgaaDoor
namespace Sets

/-- The i-th word of 64 bits. -/
def wd (S i : Nat) : Nat := S / 2 ^ (64 * i) % 2 ^ 64
/-- The bit of c in its word. -/
def bitN (c : Nat) : Nat := 2 ^ (c % 64)
def full : Nat := 2 ^ 256 - 1
def rangeN (f t : Nat) : Nat := if f ≤ t then 2 ^ (t + 1) - 2 ^ f else 0

theorem bitN_lt (c : Nat) : bitN c < 18446744073709551616 := Nat.pow_lt_pow_right (n := 64) (by decide : 1 < 2) (by omega)
theorem wd_lt (S i : Nat) : wd S i < 18446744073709551616 := Nat.mod_lt _ (by decide)
theorem testBit_wd (S i j : Nat) : (wd S i).testBit j = (decide (j < 64) && S.testBit (64 * i + j)) := by
  unfold wd
  rw [Nat.testBit_mod_two_pow, Nat.testBit_div_two_pow]
  rw [Nat.add_comm]
theorem wd_and (S T i : Nat) : wd S i &&& wd T i = wd (S &&& T) i := by
  apply Nat.eq_of_testBit_eq; intro j
  simp only [Nat.testBit_and, testBit_wd]
  cases decide (j < 64) <;> simp
theorem wd_or (S T i : Nat) : wd S i ||| wd T i = wd (S ||| T) i := by
  apply Nat.eq_of_testBit_eq; intro j
  simp only [Nat.testBit_or, testBit_wd]
  cases decide (j < 64) <;> simp
theorem testBit_full (j : Nat) : full.testBit j = decide (j < 256) := by
  unfold full; exact Nat.testBit_two_pow_sub_one 256 j
theorem wd_not (S i : Nat) (hi : i < 4) : 18446744073709551615 - wd S i = wd (full ^^^ S) i := by
  apply Nat.eq_of_testBit_eq; intro j
  have h := wd_lt S i
  rw [show (18446744073709551615 : Nat) - wd S i = 2 ^ 64 - (wd S i + 1) from by omega, Nat.testBit_two_pow_sub_succ (by omega)]
  simp only [testBit_wd, Nat.testBit_xor, testBit_full]
  by_cases hj : j < 64
  · have h2 : 64 * i + j < 256 := by omega
    simp [hj, h2]
  · simp [hj]
theorem ext_words {S T : Nat} (hS : S < 2 ^ 256) (hT : T < 2 ^ 256) (h : ∀ i, i < 4 → wd S i = wd T i) : S = T := by
  apply Nat.eq_of_testBit_eq; intro j
  by_cases hj : j < 256
  · have := congrArg (fun x => x.testBit (j % 64)) (h (j / 64) (by omega))
    simp only [testBit_wd] at this
    have e : 64 * (j / 64) + j % 64 = j := by omega
    have l : j % 64 < 64 := by omega
    rw [e] at this
    simpa [l] using this
  · rw [Nat.testBit_lt_two_pow (Nat.lt_of_lt_of_le hS (Nat.pow_le_pow_right (by decide) (by omega))), Nat.testBit_lt_two_pow (Nat.lt_of_lt_of_le hT (Nat.pow_le_pow_right (by decide) (by omega)))]
theorem of_words (a b c d : Nat) (ha : a < 2 ^ 64) (hb : b < 2 ^ 64) (hc : c < 2 ^ 64) (hd : d < 2 ^ 64) :
    ∃ S, S < 2 ^ 256 ∧ wd S 0 = a ∧ wd S 1 = b ∧ wd S 2 = c ∧ wd S 3 = d := by
  refine ⟨a + 2 ^ 64 * b + 2 ^ 128 * c + 2 ^ 192 * d, ?_, ?_, ?_, ?_, ?_⟩ <;> (try unfold wd) <;> simp only [Nat.reducePow, Nat.reduceMul] at * <;> omega

theorem testBit_rangeN (f t c : Nat) : (rangeN f t).testBit c = (decide (f ≤ c) && decide (c ≤ t)) := by
  unfold rangeN
  split
  · rename_i h
    have e : 2 ^ (t + 1) - 2 ^ f = 2 ^ f * (2 ^ (t + 1 - f) - 1) := by
      rw [Nat.mul_sub, ← Nat.pow_add, show f + (t + 1 - f) = t + 1 from by omega, Nat.mul_one]
    rw [e, Nat.testBit_two_pow_mul, Nat.testBit_two_pow_sub_one]
    by_cases hf : f ≤ c
    · simp [hf]; omega
    · simp [hf]
  · simp; omega
theorem rangeN_lt (f t : Nat) (h : t < 256) : rangeN f t < 2 ^ 256 := by
  apply Nat.lt_pow_two_of_testBit
  intro j hj
  rw [testBit_rangeN]
  simp; omega
def partN (f k : Nat) : Nat := 2 ^ (f + k) - 2 ^ f
theorem testBit_partN (f k c : Nat) : (partN f k).testBit c = (decide (f ≤ c) && decide (c < f + k)) := by
  unfold partN
  have e : 2 ^ (f + k) - 2 ^ f = 2 ^ f * (2 ^ k - 1) := by rw [Nat.mul_sub, ← Nat.pow_add, Nat.mul_one]
  rw [e, Nat.testBit_two_pow_mul, Nat.testBit_two_pow_sub_one]
  by_cases hf : f ≤ c
  · simp [hf]; omega
  · simp [hf]
theorem partN_succ (f k : Nat) : partN f (k + 1) = partN f k ||| 2 ^ (f + k) := by
  apply Nat.eq_of_testBit_eq; intro c
  rw [Nat.testBit_or, testBit_partN, testBit_partN, Nat.testBit_two_pow]
  by_cases hf : f ≤ c
  · by_cases h2 : f + k = c
    · simp [hf, h2]; omega
    · simp [hf, h2]; omega
  · have : ¬ (f + k = c) := by omega
    simp [hf, this]
theorem partN_zero (f : Nat) : partN f 0 = 0 := by simp [partN]
theorem partN_range (f t : Nat) (h : f ≤ t) : partN f (t + 1 - f) = rangeN f t := by
  unfold partN rangeN; rw [if_pos h, show f + (t + 1 - f) = t + 1 from by omega]
def ofN (l : List Nat) : Nat := l.foldl (fun S c => S ||| 2 ^ c) 0
theorem ofN_snoc (l : List Nat) (c : Nat) : ofN (l ++ [c]) = ofN l ||| 2 ^ c := by simp [ofN]
theorem ofN_take (l : List Nat) (k : Nat) (h : k < l.length) : ofN (l.take (k + 1)) = ofN (l.take k) ||| 2 ^ (l.getD k 0) := by
  rw [List.take_succ_eq_append_getElem h, ofN_snoc]
  simp [List.getD, List.getElem?_eq_getElem h]
theorem wd_zero (i : Nat) : wd 0 i = 0 := by simp [wd]
theorem lt_and {S T : Nat} (hS : S < 2 ^ 256) : S &&& T < 2 ^ 256 := Nat.lt_of_le_of_lt Nat.and_le_left hS
theorem lt_or {S T : Nat} (hS : S < 2 ^ 256) (hT : T < 2 ^ 256) : S ||| T < 2 ^ 256 := Nat.or_lt_two_pow hS hT
theorem lt_xor {S T : Nat} (hS : S < 2 ^ 256) (hT : T < 2 ^ 256) : S ^^^ T < 2 ^ 256 := Nat.xor_lt_two_pow hS hT
theorem full_lt : full < 2 ^ 256 := by decide +kernel
theorem bit_le {c : Nat} (h : c < 256) : 2 ^ c < 2 ^ 256 := Nat.pow_lt_pow_right (by decide) h
theorem wd_bit (S c : Nat) (i : Nat) : wd (S ||| 2 ^ c) i = if i = c / 64 then wd S i ||| bitN c else wd S i := by
  unfold bitN
  rw [← wd_or]
  split
  · rename_i h
    subst h
    congr 1
    apply Nat.eq_of_testBit_eq; intro j
    rw [testBit_wd, Nat.testBit_two_pow, Nat.testBit_two_pow]
    by_cases hj : j < 64
    · simp [hj]; omega
    · simp [hj]; omega
  · rename_i h
    apply Nat.eq_of_testBit_eq; intro j
    rw [Nat.testBit_or, testBit_wd, testBit_wd, Nat.testBit_two_pow]
    by_cases hj : j < 64
    · have : ¬ (c = 64 * i + j) := by omega
      simp [hj, this]
    · simp [hj]
theorem and_bit_zero (S c : Nat) : wd S (c / 64) &&& bitN c = 0 ↔ S.testBit c = false := by
  unfold bitN
  have e : 64 * (c / 64) + c % 64 = c := by omega
  have l : c % 64 < 64 := by omega
  have h := testBit_wd S (c / 64) (c % 64)
  rw [e] at h
  simp only [l, decide_true, Bool.true_and] at h
  rw [← h]
  constructor
  · intro hz
    have := congrArg (fun x => x.testBit (c % 64)) hz
    simpa [Nat.testBit_and, Nat.testBit_two_pow] using this
  · intro hz
    apply Nat.eq_of_testBit_eq; intro j
    rw [Nat.testBit_and, Nat.testBit_two_pow, Nat.zero_testBit]
    by_cases hj : c % 64 = j
    · subst hj; simp [hz]
    · simp [hj]
theorem testBit_ge {S : Nat} (h : S < 2 ^ 256) {j : Nat} (hj : 256 ≤ j) : S.testBit j = false :=
  Nat.testBit_lt_two_pow (Nat.lt_of_lt_of_le h (Nat.pow_le_pow_right (by decide) hj))
theorem not_not_set (A : Nat) : full ^^^ (full ^^^ A) = A := by rw [← Nat.xor_assoc, Nat.xor_self, Nat.zero_xor]
theorem de_morgan (A B : Nat) (hA : A < 2 ^ 256) (hB : B < 2 ^ 256) : full ^^^ (A &&& B) = (full ^^^ A) ||| (full ^^^ B) := by
  apply Nat.eq_of_testBit_eq; intro j
  simp only [Nat.testBit_xor, Nat.testBit_and, Nat.testBit_or, testBit_full]
  by_cases hj : j < 256
  · cases A.testBit j <;> cases B.testBit j <;> simp [hj]
  · have ha := testBit_ge hA (Nat.le_of_not_lt hj)
    have hb := testBit_ge hB (Nat.le_of_not_lt hj)
    simp [hj, ha, hb]
theorem and_not_set (A : Nat) (hA : A < 2 ^ 256) : A &&& (full ^^^ A) = 0 := by
  apply Nat.eq_of_testBit_eq; intro j
  simp only [Nat.testBit_xor, Nat.testBit_and, testBit_full, Nat.zero_testBit]
  by_cases hj : j < 256
  · cases A.testBit j <;> simp [hj]
  · simp [testBit_ge hA (Nat.le_of_not_lt hj)]
theorem or_not_set (A : Nat) (hA : A < 2 ^ 256) : A ||| (full ^^^ A) = full := by
  apply Nat.eq_of_testBit_eq; intro j
  simp only [Nat.testBit_xor, Nat.testBit_or, testBit_full]
  by_cases hj : j < 256
  · cases A.testBit j <;> simp [hj]
  · simp [testBit_ge hA (Nat.le_of_not_lt hj), hj]
theorem and_full (A : Nat) (hA : A < 2 ^ 256) : A &&& full = A := by
  apply Nat.eq_of_testBit_eq; intro j
  simp only [Nat.testBit_and, testBit_full]
  by_cases hj : j < 256
  · simp [hj]
  · simp [testBit_ge hA (Nat.le_of_not_lt hj), hj]
end Sets
end Go.Proofs.YtlbaecjmfgahgaaDoor
