/- Doubles as numbers: the whole number of a double, what a double affords, and sums that are whole. No program. -/
import GoSem.Core.Float
import Derived.Laws.FloatArith
namespace Go.Proofs.Ytbgafjfegjbblaa
namespace Dbl
open Ieee
/-- the greatest uint64 -/
abbrev M : Nat := 18446744073709551615
/-- the whole number of m * 2 ^ e -/
def flo (m : Nat) (e : Int) : Nat := m * 2 ^ e.toNat / 2 ^ (-e).toNat
def capD : Datum → Nat
  | .number s m e => if s then 0 else min M (flo m e)
  | .infinity s => if s then 0 else M
  | .nan .. => 0
/-- the greatest uint64 that a budget affords -/
def cap (b : Nat) : Nat := capD (double.read b)
theorem flo_k (m : Nat) (i : Int) (K : Nat) (h : 0 ≤ i + K) : flo m i = m * 2 ^ (i + K).toNat / 2 ^ K := by
  unfold flo
  rcases Int.le_total 0 i with hi | hi
  · have h1 : (-i).toNat = 0 := by omega
    have h2 : (i + K).toNat = i.toNat + K := by omega
    rw [h1, h2, Nat.pow_add, ← Nat.mul_assoc, Nat.mul_div_cancel _ (Nat.two_pow_pos _), Nat.pow_zero, Nat.div_one]
  · have h1 : i.toNat = 0 := by omega
    have h2 : K = (-i).toNat + (i + K).toNat := by omega
    have h3 : (2 : Nat) ^ K = 2 ^ (-i).toNat * 2 ^ (i + K).toNat := by rw [← Nat.pow_add, ← h2]
    rw [h1, h3, Nat.mul_div_mul_right _ _ (Nat.two_pow_pos _), Nat.pow_zero, Nat.mul_one]
theorem sc_split (m : Nat) (i base : Int) (K : Nat) (h : 0 ≤ base + K) (hb : base ≤ i) : m * 2 ^ (i + K).toNat = (m * 2 ^ (i - base).toNat) * 2 ^ (base + K).toNat := by
  rw [Nat.mul_assoc, ← Nat.pow_add]
  congr 2
  omega
theorem flo_le (m n : Nat) (i j : Int) (h : m * 2 ^ (i - min i j).toNat ≤ n * 2 ^ (j - min i j).toNat) : flo m i ≤ flo n j := by
  have hK : 0 ≤ min i j + ((-(min i j)).toNat : Int) := by omega
  rw [flo_k m i (-(min i j)).toNat (by omega), flo_k n j (-(min i j)).toNat (by omega), sc_split m i (min i j) _ hK (by omega), sc_split n j (min i j) _ hK (by omega)]
  exact Nat.div_le_div_right (Nat.mul_le_mul_right _ h)
theorem flo_lt (m n : Nat) (i j : Int) (hj : 0 ≤ j) (h : m * 2 ^ (i - min i j).toNat < n * 2 ^ (j - min i j).toNat) : flo m i < n * 2 ^ j.toNat := by
  have hK : 0 ≤ min i j + ((-(min i j)).toNat : Int) := by omega
  have hn : n * 2 ^ (j + ((-(min i j)).toNat : Int)).toNat = n * 2 ^ j.toNat * 2 ^ (-(min i j)).toNat := by
    rw [Nat.mul_assoc, ← Nat.pow_add]; congr 2; omega
  rw [flo_k m i (-(min i j)).toNat (by omega), Nat.div_lt_iff_lt_mul (Nat.two_pow_pos _), ← hn, sc_split m i (min i j) _ hK (by omega), sc_split n j (min i j) _ hK (by omega)]
  exact Nat.mul_lt_mul_of_pos_right h (Nat.two_pow_pos _)
theorem flo_zero (i : Int) : flo 0 i = 0 := by simp [flo]
theorem signed_false (m k : Nat) : signed false m k = ((m * 2 ^ k : Nat) : Int) := by simp [signed, Nat.shiftLeft_eq]
theorem signed_true (m k : Nat) : signed true m k = -((m * 2 ^ k : Nat) : Int) := by simp [signed, Nat.shiftLeft_eq]
theorem cut_whole (way : Toward) (hw : way = .down ∨ way = .zero) (n d : Nat) : way.cut false n d = n / 2 ^ d := by
  have h0 : n < 2 ^ (n.log2 + 1) := Nat.lt_log2_self
  have key : n / 2 ^ min d (n.log2 + 2) = n / 2 ^ d := by
    rcases Nat.le_total d (n.log2 + 2) with h | h
    · rw [Nat.min_eq_left h]
    · rw [Nat.min_eq_right h]
      have h1 : n < 2 ^ (n.log2 + 2) := Nat.lt_of_lt_of_le h0 (Nat.pow_le_pow_right (by decide) (by omega))
      rw [Nat.div_eq_of_lt h1, Nat.div_eq_of_lt (Nat.lt_of_lt_of_le h1 (Nat.pow_le_pow_right (by decide) h))]
  unfold Toward.cut
  rcases hw with rfl | rfl <;> simp [Nat.shiftLeft_eq, key]
theorem integral_pos (way : Toward) (hw : way = .down ∨ way = .zero) (m : Nat) (i : Int) : (Datum.number false m i).integral way = .number false (flo m i) 0 := by
  simp only [Datum.integral, cut_whole way hw, Nat.shiftLeft_eq, flo]
theorem toInt_pos (m : Nat) (i : Int) : (Datum.number false m i).toInt .zero = some (flo m i : Int) := by
  simp [Datum.toInt, integral_pos .zero (.inr rfl), signed_false]
theorem read_w64 : double.read 4895412794951729152 = .number false 4503599627370496 12 := by decide +kernel
theorem read_w0 : double.read 0 = .number false 0 (-1074) := by decide +kernel
theorem flo_w64 : flo 4503599627370496 12 = 18446744073709551616 := by decide +kernel
/-- a budget that is 2 ^ 64 or more affords all -/
theorem cap_big {b : Nat} (h : double.order b 4895412794951729152 = some .gt ∨ double.order b 4895412794951729152 = some .eq) : cap b = M := by
  unfold cap
  unfold Format.order at h
  rw [read_w64] at h
  cases hd : double.read b with
  | nan s t => rw [hd] at h; simp [Datum.order] at h
  | infinity s => rw [hd] at h; cases s <;> simp_all [Datum.order, capD]
  | number s m i =>
    rw [hd] at h
    simp only [Datum.order] at h
    cases s with
    | true =>
      exfalso
      rw [signed_true, signed_false] at h
      have hp : (0 : Int) < ((4503599627370496 * 2 ^ (12 - min i 12).toNat : Nat) : Int) := Int.natCast_pos.2 (Nat.mul_pos (by decide) (Nat.two_pow_pos _))
      have hq : (0 : Int) ≤ ((m * 2 ^ (i - min i 12).toNat : Nat) : Int) := Int.natCast_nonneg _
      generalize ((4503599627370496 * 2 ^ (12 - min i 12).toNat : Nat) : Int) = X at *
      generalize ((m * 2 ^ (i - min i 12).toNat : Nat) : Int) = Y at *
      have hc : compare (-Y) X = .lt := by rw [Int.compare_eq_lt]; omega
      rw [hc] at h
      simp at h
    | false =>
      rw [signed_false, signed_false] at h
      have hle : 4503599627370496 * 2 ^ (12 - min 12 i).toNat ≤ m * 2 ^ (i - min 12 i).toNat := by
        rw [Int.min_comm 12 i]
        rcases h with h | h
        · have := Option.some.inj h
          rw [Int.compare_eq_gt] at this
          omega
        · have := Option.some.inj h
          rw [Int.compare_eq_eq] at this
          omega
      have := flo_le _ _ _ _ hle
      rw [flo_w64] at this
      simp only [capD, Bool.false_eq_true, if_false]
      unfold M
      omega
/-- below 2 ^ 64 and above 0: what is converted is what is afforded -/
theorem cap_mid {b : Nat} (h : double.order b 4895412794951729152 ≠ some .gt) (h' : double.order b 4895412794951729152 ≠ some .eq) (hp : double.order b 0 = some .gt) :
    (double.read b).toInt .zero = some (cap b : Int) ∧ cap b ≤ M := by
  unfold cap
  unfold Format.order at h h' hp
  rw [read_w64] at h h'
  rw [read_w0] at hp
  cases hd : double.read b with
  | nan s t => rw [hd] at hp; simp [Datum.order] at hp
  | infinity s => rw [hd] at h hp; cases s <;> simp_all [Datum.order]
  | number s m i =>
    rw [hd] at h h' hp
    simp only [Datum.order] at h h' hp
    cases s with
    | true =>
      exfalso
      rw [signed_true, signed_false] at hp
      have hq : (0 : Int) ≤ ((m * 2 ^ (i - min i (-1074)).toNat : Nat) : Int) := Int.natCast_nonneg _
      have := Option.some.inj hp
      rw [Int.compare_eq_gt] at this
      simp only [Nat.zero_mul, Int.natCast_zero] at this
      omega
    | false =>
      rw [signed_false, signed_false] at h h'
      have hlt : m * 2 ^ (i - min i 12).toNat < 4503599627370496 * 2 ^ (12 - min i 12).toNat := by
        have a1 : compare ((m * 2 ^ (i - min i 12).toNat : Nat) : Int) ((4503599627370496 * 2 ^ (12 - min i 12).toNat : Nat) : Int) ≠ .gt := fun e => h (congrArg some e)
        have a2 : compare ((m * 2 ^ (i - min i 12).toNat : Nat) : Int) ((4503599627370496 * 2 ^ (12 - min i 12).toNat : Nat) : Int) ≠ .eq := fun e => h' (congrArg some e)
        rw [ne_eq, Int.compare_eq_gt] at a1
        rw [ne_eq, Int.compare_eq_eq] at a2
        omega
      have := flo_lt _ _ _ _ (by decide) hlt
      rw [toInt_pos]
      simp only [capD, Bool.false_eq_true, if_false]
      have e : (4503599627370496 * 2 ^ (12 : Int).toNat : Nat) = 18446744073709551616 := by decide +kernel
      rw [e] at this
      unfold M
      rw [Nat.min_eq_right (by omega)]
      exact ⟨rfl, by omega⟩
/-- not above 0: nothing but 0 is afforded -/
theorem cap_none {b : Nat} (hp : double.order b 0 ≠ some .gt) : cap b = 0 := by
  unfold cap
  unfold Format.order at hp
  rw [read_w0] at hp
  cases hd : double.read b with
  | nan s t => rfl
  | infinity s => rw [hd] at hp; cases s <;> simp_all [Datum.order, capD]
  | number s m i =>
    rw [hd] at hp
    simp only [Datum.order] at hp
    cases s with
    | true => rfl
    | false =>
      rw [signed_false, signed_false] at hp
      have a1 : compare ((m * 2 ^ (i - min i (-1074)).toNat : Nat) : Int) ((0 * 2 ^ (-1074 - min i (-1074)).toNat : Nat) : Int) ≠ .gt := fun e => hp (congrArg some e)
      rw [ne_eq, Int.compare_eq_gt] at a1
      have hm : m = 0 := by
        rcases Nat.eq_zero_or_pos m with h | h
        · exact h
        · exfalso
          have := Nat.mul_pos h (Nat.two_pow_pos (i - min i (-1074)).toNat)
          rw [Nat.zero_mul] at a1
          omega
      subst hm
      simp [capD, flo_zero]
theorem cap_le (b : Nat) : cap b ≤ M := by
  unfold cap capD
  split
  · split
    · exact Nat.zero_le _
    · exact Nat.min_le_left _ _
  · split
    · exact Nat.zero_le _
    · exact Nat.le_refl _
  · exact Nat.zero_le _
end Dbl
end Go.Proofs.Ytbgafjfegjbblaa
