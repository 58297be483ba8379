/- Doubles by their bits: sign, exponent, fraction; and doubles that are whole numbers below 2 ^ 53. No program. -/
import Derived.Test.YtbgafjfegjbblaaDblM
namespace Go.Proofs.Ytbgafjfegjbblaa
namespace Dbl
open Ieee
theorem read_bits (b : Nat) (hb : b < 2 ^ 64) : double.read b =
    (if b / 2 ^ 52 % 2048 = 0 then .number (b / 2 ^ 63 == 1) (b % 2 ^ 52) (-1074)
     else if b / 2 ^ 52 % 2048 = 2047 then (if b % 2 ^ 52 = 0 then .infinity (b / 2 ^ 63 == 1) else .nan (b / 2 ^ 63 == 1) (b % 2 ^ 52))
     else .number (b / 2 ^ 63 == 1) (2 ^ 52 + b % 2 ^ 52) ((b / 2 ^ 52 % 2048 : Nat) - 1075 : Int)) := by
  have e1 : double.signWeight = 2 ^ 63 := by decide +kernel
  have e2 : double.binade = 2 ^ 52 := by decide +kernel
  have e3 : double.infRung = 2047 * 2 ^ 52 := by decide +kernel
  have e4 : double.leastPlace = -1074 := by decide +kernel
  unfold Format.read
  simp only [e1, e2, e3, e4]
  have h0 : b / 2 ^ 63 % 2 = b / 2 ^ 63 := by omega
  rw [h0]
  have hE : b / 2 ^ 52 % 2048 = b % 2 ^ 63 / 2 ^ 52 := by omega
  have hF : b % 2 ^ 52 = b % 2 ^ 63 % 2 ^ 52 := by omega
  rw [hE, hF]
  generalize (b / 2 ^ 63 == 1) = s
  have hr : b % 2 ^ 63 < 2 ^ 63 := Nat.mod_lt _ (by decide)
  generalize b % 2 ^ 63 = r at *
  clear hE hF h0
  by_cases c1 : r < 2 ^ 52
  · rw [if_pos c1, if_pos (by omega), Nat.mod_eq_of_lt c1]
  · rw [if_neg c1]
    by_cases c2 : r < 2047 * 2 ^ 52
    · rw [if_pos c2, if_neg (by omega), if_neg (by omega)]
      congr 1
      omega
    · rw [if_neg c2, if_neg (by omega : ¬ r / 2 ^ 52 = 0), if_pos (by omega : r / 2 ^ 52 = 2047)]
      by_cases c3 : r = 2047 * 2 ^ 52
      · rw [if_pos c3, if_pos (by omega)]
      · rw [if_neg c3, if_neg (by omega)]
        exact congrArg (Datum.nan s) (by omega)
/-- by its bits: nothing but 0 -/
theorem cap_bits_none (b : Nat) (hb : b < 2 ^ 64) (h : b / 2 ^ 63 = 1 ∨ (b / 2 ^ 52 % 2048 = 2047 ∧ b % 2 ^ 52 ≠ 0) ∨ b / 2 ^ 52 % 2048 < 1023) : cap b = 0 := by
  unfold cap
  rw [read_bits b hb]
  split
  · rename_i h0
    rcases h with h | h | h
    · simp [capD, h]
    · omega
    · have : flo (b % 2 ^ 52) (-1074) = 0 := by
        unfold flo
        have hK : 52 ≤ (-(-1074 : Int)).toNat := by decide
        rw [show ((-1074 : Int)).toNat = 0 from rfl, Nat.pow_zero, Nat.mul_one]
        generalize (-(-1074 : Int)).toNat = K at *
        exact Nat.div_eq_of_lt (Nat.lt_of_lt_of_le (Nat.mod_lt _ (by decide)) (Nat.pow_le_pow_right (by decide) hK))
      simp [capD, this]
  · split
    · split
      · rcases h with h | h | h
        · simp [capD, h]
        · omega
        · omega
      · rfl
    · rename_i c1 c2
      rcases h with h | h | h
      · simp [capD, h]
      · omega
      · have : flo (2 ^ 52 + b % 2 ^ 52) ((b / 2 ^ 52 % 2048 : Nat) - 1075 : Int) = 0 := by
          unfold flo
          generalize b / 2 ^ 52 % 2048 = E at *
          rw [show ((E : Int) - 1075).toNat = 0 by omega, Nat.pow_zero, Nat.mul_one]
          have hf : b % 2 ^ 52 < 2 ^ 52 := Nat.mod_lt _ (by decide)
          have hp : 2 ^ 53 ≤ 2 ^ (-((E : Int) - 1075)).toNat := Nat.pow_le_pow_right (by decide) (by omega)
          exact Nat.div_eq_of_lt (by omega)
        simp only [capD, this]
        split <;> rfl
theorem flo_big (m e : Nat) (hm : 2 ^ 52 ≤ m) (he : 12 ≤ e) : M ≤ flo m (e : Int) := by
  unfold flo
  rw [Int.toNat_natCast, show (-(e : Int)).toNat = 0 by omega, Nat.pow_zero, Nat.div_one]
  have h2 : 2 ^ 12 ≤ 2 ^ e := Nat.pow_le_pow_right (by decide) he
  have := Nat.mul_le_mul hm h2
  have e1 : 2 ^ 52 * 2 ^ 12 = 18446744073709551616 := by decide +kernel
  rw [e1] at this
  unfold M
  omega
/-- by its bits: all -/
theorem cap_bits_all (b : Nat) (hb : b < 2 ^ 64) (hs : b / 2 ^ 63 = 0) (h : (b / 2 ^ 52 % 2048 = 2047 ∧ b % 2 ^ 52 = 0) ∨ (1087 ≤ b / 2 ^ 52 % 2048 ∧ b / 2 ^ 52 % 2048 ≠ 2047)) : cap b = M := by
  unfold cap
  rw [read_bits b hb]
  split
  · omega
  · split
    · split
      · simp [capD, hs]
      · omega
    · rename_i c1 c2
      simp only [capD, hs]
      have hE : (b / 2 ^ 52 % 2048 : Nat) - 1075 = ((b / 2 ^ 52 % 2048 - 1075 : Nat) : Int) := by omega
      rw [hE]
      have := flo_big (2 ^ 52 + b % 2 ^ 52) (b / 2 ^ 52 % 2048 - 1075) (Nat.le_add_right _ _) (by omega)
      rw [show ((0 : Nat) == 1) = false from rfl, if_neg (by decide)]
      exact Nat.min_eq_left this
/-- by its bits: what lies between -/
theorem cap_bits_mid (b : Nat) (hb : b < 2 ^ 64) (hs : b / 2 ^ 63 = 0) (h1 : 1023 ≤ b / 2 ^ 52 % 2048) (h2 : b / 2 ^ 52 % 2048 < 1087) :
    cap b = (2 ^ 52 + b % 2 ^ 52) * 2 ^ (b / 2 ^ 52 % 2048 - 1075) / 2 ^ (1075 - b / 2 ^ 52 % 2048) := by
  unfold cap
  rw [read_bits b hb, if_neg (by omega), if_neg (by omega)]
  simp only [capD, hs]
  rw [show ((0 : Nat) == 1) = false from rfl, if_neg (by decide)]
  unfold flo
  have hf : b % 2 ^ 52 < 2 ^ 52 := Nat.mod_lt _ (by decide)
  generalize b % 2 ^ 52 = f at *
  generalize b / 2 ^ 52 % 2048 = E at *
  rw [show ((E : Int) - 1075).toNat = E - 1075 by omega, show (-((E : Int) - 1075)).toNat = 1075 - E by omega]
  refine Nat.min_eq_right ?_
  have h3 : 2 ^ (E - 1075) ≤ 2 ^ 11 := Nat.pow_le_pow_right (by decide) (by omega)
  have h4 := Nat.mul_le_mul (show 2 ^ 52 + f ≤ 2 ^ 53 - 1 by omega) h3
  have h5 : (2 ^ 53 - 1) * 2 ^ 11 ≤ M := by decide +kernel
  exact Nat.le_trans (Nat.div_le_self _ _) (Nat.le_trans h4 h5)
/-- the double that is m -/
def dbl (m : Nat) : Nat := double.nearest false m 0
theorem rung_small (L X : Nat) (hL : L < 53) (hX : X < 2 ^ 53) : (L + 1022) * 2 ^ 52 + X ≤ 2047 * 2 ^ 52 := by omega
theorem nearest_scaled (d k : Nat) (hd0 : 0 < d) (hd : d < 2 ^ 53) : double.nearest false (d * 2 ^ k) (-(k : Int)) =
    (d.log2 + 1022) * 2 ^ 52 + d * 2 ^ (52 - d.log2) := by
  have hL : d.log2 < 53 := (Nat.log2_lt (by omega)).2 hd
  have hlog : (d * 2 ^ k).log2 = d.log2 + k := by
    have a := Nat.mul_le_mul_right (2 ^ k) (Nat.log2_self_le (n := d) (by omega))
    have b := Nat.mul_lt_mul_of_pos_right (Nat.lt_log2_self (n := d)) (Nat.two_pow_pos k)
    rw [← Nat.pow_add] at a b
    exact (Nat.log2_eq_iff (Nat.ne_of_gt (Nat.mul_pos hd0 (Nat.two_pow_pos k)))).2 ⟨a, by rwa [show d.log2 + 1 + k = d.log2 + k + 1 by omega] at b⟩
  have e2 : double.binade = 2 ^ 52 := by decide +kernel
  have e3 : double.infRung = 2047 * 2 ^ 52 := by decide +kernel
  have e4 : double.leastPlace = -1074 := by decide +kernel
  have e5 : double.fractionBits = 52 := rfl
  have hne : d * 2 ^ k ≠ 0 := Nat.mul_ne_zero (by omega) (Nat.ne_of_gt (Nat.two_pow_pos _))
  have hkept : Toward.even.cut false ((d * 2 ^ k) <<< (-(k : Int) - ((d.log2 : Int) - 52)).toNat) (((d.log2 : Int) - 52) - -(k : Int)).toNat = d * 2 ^ (52 - d.log2) := by
    rcases Nat.le_total k (52 - d.log2) with h | h
    · have a1 : (-(k : Int) - ((d.log2 : Int) - 52)).toNat = 52 - d.log2 - k := by omega
      have a2 : (((d.log2 : Int) - 52) - -(k : Int)).toNat = 0 := by omega
      rw [a1, a2, Nat.shiftLeft_eq, Nat.mul_assoc, ← Nat.pow_add, show k + (52 - d.log2 - k) = 52 - d.log2 by omega]
      simp [Toward.cut, Nat.mod_one]
    · have a1 : (-(k : Int) - ((d.log2 : Int) - 52)).toNat = 0 := by omega
      have a2 : (((d.log2 : Int) - 52) - -(k : Int)).toNat = k - (52 - d.log2) := by omega
      rw [a1, a2, Nat.shiftLeft_zero]
      unfold Toward.cut
      rw [hlog, Nat.min_eq_left (by omega), Nat.shiftLeft_eq, Nat.one_mul]
      have hs : d * 2 ^ k = d * 2 ^ (52 - d.log2) * 2 ^ (k - (52 - d.log2)) := by rw [Nat.mul_assoc, ← Nat.pow_add]; congr 2; omega
      have hpos := Nat.two_pow_pos (k - (52 - d.log2))
      simp only [hs, Nat.mul_div_cancel _ hpos, Nat.mul_mod_left]
      have : ((2 ^ (k - (52 - d.log2)) == 2 * 0)) = false := by
        rw [Nat.mul_zero]; exact beq_false_of_ne (Nat.ne_of_gt hpos)
      simp [this]
  unfold Format.nearest
  rw [if_neg hne, hlog, e2, e3, e4, e5]
  have hlast : max (-(k : Int) + ((d.log2 + k : Nat) : Int) - ((52 : Nat) : Int)) (-1074) = (d.log2 : Int) - 52 := by omega
  simp only [hlast, hkept]
  unfold Format.word
  rw [if_neg (by decide)]
  have h1 : d * 2 ^ (52 - d.log2) < 2 ^ 53 := by
    have a := Nat.lt_log2_self (n := d)
    have b := Nat.mul_lt_mul_of_pos_right a (Nat.two_pow_pos (52 - d.log2))
    rwa [← Nat.pow_add, show d.log2 + 1 + (52 - d.log2) = 53 by omega] at b
  rw [show ((d.log2 : Int) - 52 - -1074).toNat = d.log2 + 1022 by omega]
  rw [Nat.min_eq_left (rung_small _ _ hL h1)]
theorem dbl_is (d : Nat) (hd0 : 0 < d) (hd : d < 2 ^ 53) : dbl d = (d.log2 + 1022) * 2 ^ 52 + d * 2 ^ (52 - d.log2) := by
  have := nearest_scaled d 0 hd0 hd
  rwa [Nat.pow_zero, Nat.mul_one] at this
theorem nearest_dbl (d k : Nat) (hd : d < 2 ^ 53) : double.nearest false (d * 2 ^ k) (-(k : Int)) = dbl d := by
  rcases Nat.eq_zero_or_pos d with h | h
  · subst h; simp [Format.nearest, dbl]
  · rw [nearest_scaled d k h hd, dbl_is d h hd]
theorem dbl_zero : dbl 0 = 0 := by decide +kernel
theorem read_dbl (d : Nat) (hd : d < 2 ^ 53) : ∃ k : Nat, double.read (dbl d) = .number false (d * 2 ^ k) (-(k : Int)) := by
  rcases Nat.eq_zero_or_pos d with h | h
  · subst h
    have hk : ∃ k : Nat, -(k : Int) = -1074 := ⟨1074, rfl⟩
    obtain ⟨k, hk⟩ := hk
    exact ⟨k, by rw [dbl_zero, read_w0, Nat.zero_mul, hk]⟩
  · have hL : d.log2 < 53 := (Nat.log2_lt (by omega)).2 hd
    have h1 : d * 2 ^ (52 - d.log2) < 2 ^ 53 := by
      have a := Nat.lt_log2_self (n := d)
      have b := Nat.mul_lt_mul_of_pos_right a (Nat.two_pow_pos (52 - d.log2))
      rwa [← Nat.pow_add, show d.log2 + 1 + (52 - d.log2) = 53 by omega] at b
    have h2 : 2 ^ 52 ≤ d * 2 ^ (52 - d.log2) := by
      have a := Nat.log2_self_le (n := d) (by omega)
      have b := Nat.mul_le_mul_right (2 ^ (52 - d.log2)) a
      rwa [← Nat.pow_add, show d.log2 + (52 - d.log2) = 52 by omega] at b
    refine ⟨52 - d.log2, ?_⟩
    rw [dbl_is d h hd]
    generalize hX : d * 2 ^ (52 - d.log2) = X at *
    generalize d.log2 = L at *
    have q1 : ((L + 1022) * 2 ^ 52 + X) / 2 ^ 52 % 2048 = L + 1023 := by omega
    have q2 : ((L + 1022) * 2 ^ 52 + X) % 2 ^ 52 = X - 2 ^ 52 := by omega
    have q3 : ((L + 1022) * 2 ^ 52 + X) / 2 ^ 63 = 0 := by omega
    rw [read_bits _ (by omega), q1, q2, q3, if_neg (by omega), if_neg (by omega)]
    rw [show ((0 : Nat) == 1) = false from rfl]
    exact congr (congrArg (Datum.number false) (by omega)) (by omega)
end Dbl
end Go.Proofs.Ytbgafjfegjbblaa
