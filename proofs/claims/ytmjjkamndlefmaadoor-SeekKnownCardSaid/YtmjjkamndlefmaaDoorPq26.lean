/- Several texts in one. -/
import Derived.Test.YtmjjkamndlefmaaDoorPq24
import GoSem.Core.Float
import Derived.Laws.FloatArith
namespace Go.Proofs.YtmjjkamndlefmaaDoor
open Go.RowKit Sets Nf Cls
namespace Df
def pC (s : Nat × Nat) : Array Value := #[.int .i64 s.1, .int .i64 s.2]
theorem onePair (s : Nat × Nat) : (pC s).all (·.oneCell') = true := by simp [pC, Value.oneCell']
theorem zeroPr : #[Value.int .i64 0, .int .i64 0] = pC (0, 0) := rfl
def joinB (how : Nat) (a b : Bool) : Bool := if how = 1 then a && b else if how = 2 then a || b else a != b
def goC (d : Dm) (i c : Nat) : Nat := ((d.R.getD i []).getD c 0).toNat
def intoP (a b : Dm) (s : Nat × Nat) (c : Nat) : Nat × Nat := (goC a s.1 c, goC b s.2 c)
def finP (how : Nat) (a b : Dm) (s : Nat × Nat) : Bool := joinB how (a.F.getD s.1 false) (b.F.getD s.2 false)
theorem DRt.cls {d : Dm} (h : DRt d) {i c nc : Nat} (hn : d.n = nc) (hi : i < d.R.length) (hc : c < nc) : c < (d.R.getD i []).length ∧ (d.R.getD i []).getD c 0 = (goC d i c : Nat) ∧ goC d i c < d.R.length := by
  have hr := h.row _ (getD_mem (d := []) hi)
  have h1 : c < (d.R.getD i []).length := by omega
  have h2 := hr.2 _ (getD_mem (d := 0) h1)
  unfold goC
  exact ⟨h1, by omega, by omega⟩
end Df
end Go.Proofs.YtmjjkamndlefmaaDoor
namespace Go.Proofs.YtmjjkamndlefmaaDoor
namespace Dbl
open Ieee
/-- the greatest uint64 -/
abbrev M : Nat := 18446744073709551615
/-- the whole number of m * 2 ^ e -/
def flo (m : Nat) (e : Int) : Nat := m * 2 ^ e.toNat / 2 ^ (-e).toNat
def capD : Datum → Nat
  | .number s m e => if s then 0 else min M (flo m e)
  | .infinity s => if s then 0 else M
  | .nan .. => 0
/-- the greatest uint64 that a budget affords -/
def cap (b : Nat) : Nat := capD (double.read b)
theorem flo_k (m : Nat) (i : Int) (K : Nat) (h : 0 ≤ i + K) : flo m i = m * 2 ^ (i + K).toNat / 2 ^ K := by
  unfold flo
  rcases Int.le_total 0 i with hi | hi
  · have h1 : (-i).toNat = 0 := by omega
    have h2 : (i + K).toNat = i.toNat + K := by omega
    rw [h1, h2, Nat.pow_add, ← Nat.mul_assoc, Nat.mul_div_cancel _ (Nat.two_pow_pos _), Nat.pow_zero, Nat.div_one]
  · have h1 : i.toNat = 0 := by omega
    have h2 : K = (-i).toNat + (i + K).toNat := by omega
    have h3 : (2 : Nat) ^ K = 2 ^ (-i).toNat * 2 ^ (i + K).toNat := by rw [← Nat.pow_add, ← h2]
    rw [h1, h3, Nat.mul_div_mul_right _ _ (Nat.two_pow_pos _), Nat.pow_zero, Nat.mul_one]
theorem sc_split (m : Nat) (i base : Int) (K : Nat) (h : 0 ≤ base + K) (hb : base ≤ i) : m * 2 ^ (i + K).toNat = (m * 2 ^ (i - base).toNat) * 2 ^ (base + K).toNat := by
  rw [Nat.mul_assoc, ← Nat.pow_add]
  congr 2
  omega
theorem flo_le (m n : Nat) (i j : Int) (h : m * 2 ^ (i - min i j).toNat ≤ n * 2 ^ (j - min i j).toNat) : flo m i ≤ flo n j := by
  have hK : 0 ≤ min i j + ((-(min i j)).toNat : Int) := by omega
  rw [flo_k m i (-(min i j)).toNat (by omega), flo_k n j (-(min i j)).toNat (by omega), sc_split m i (min i j) _ hK (by omega), sc_split n j (min i j) _ hK (by omega)]
  exact Nat.div_le_div_right (Nat.mul_le_mul_right _ h)
theorem flo_lt (m n : Nat) (i j : Int) (hj : 0 ≤ j) (h : m * 2 ^ (i - min i j).toNat < n * 2 ^ (j - min i j).toNat) : flo m i < n * 2 ^ j.toNat := by
  have hK : 0 ≤ min i j + ((-(min i j)).toNat : Int) := by omega
  have hn : n * 2 ^ (j + ((-(min i j)).toNat : Int)).toNat = n * 2 ^ j.toNat * 2 ^ (-(min i j)).toNat := by
    rw [Nat.mul_assoc, ← Nat.pow_add]; congr 2; omega
  rw [flo_k m i (-(min i j)).toNat (by omega), Nat.div_lt_iff_lt_mul (Nat.two_pow_pos _), ← hn, sc_split m i (min i j) _ hK (by omega), sc_split n j (min i j) _ hK (by omega)]
  exact Nat.mul_lt_mul_of_pos_right h (Nat.two_pow_pos _)
theorem flo_zero (i : Int) : flo 0 i = 0 := by simp [flo]
theorem signed_false (m k : Nat) : signed false m k = ((m * 2 ^ k : Nat) : Int) := by simp [signed, Nat.shiftLeft_eq]
theorem signed_true (m k : Nat) : signed true m k = -((m * 2 ^ k : Nat) : Int) := by simp [signed, Nat.shiftLeft_eq]
theorem cut_whole (way : Toward) (hw : way = .down ∨ way = .zero) (n d : Nat) : way.cut false n d = n / 2 ^ d := by
  have h0 : n < 2 ^ (n.log2 + 1) := Nat.lt_log2_self
  have key : n / 2 ^ min d (n.log2 + 2) = n / 2 ^ d := by
    rcases Nat.le_total d (n.log2 + 2) with h | h
    · rw [Nat.min_eq_left h]
    · rw [Nat.min_eq_right h]
      have h1 : n < 2 ^ (n.log2 + 2) := Nat.lt_of_lt_of_le h0 (Nat.pow_le_pow_right (by decide) (by omega))
      rw [Nat.div_eq_of_lt h1, Nat.div_eq_of_lt (Nat.lt_of_lt_of_le h1 (Nat.pow_le_pow_right (by decide) h))]
  unfold Toward.cut
  rcases hw with rfl | rfl <;> simp [Nat.shiftLeft_eq, key]
theorem integral_pos (way : Toward) (hw : way = .down ∨ way = .zero) (m : Nat) (i : Int) : (Datum.number false m i).integral way = .number false (flo m i) 0 := by
  simp only [Datum.integral, cut_whole way hw, Nat.shiftLeft_eq, flo]
theorem toInt_pos (m : Nat) (i : Int) : (Datum.number false m i).toInt .zero = some (flo m i : Int) := by
  simp [Datum.toInt, integral_pos .zero (.inr rfl), signed_false]
theorem read_w64 : double.read 4895412794951729152 = .number false 4503599627370496 12 := by decide +kernel
theorem read_w0 : double.read 0 = .number false 0 (-1074) := by decide +kernel
theorem flo_w64 : flo 4503599627370496 12 = 18446744073709551616 := by decide +kernel
/-- a budget that is 2 ^ 64 or more affords all -/
theorem cap_big {b : Nat} (h : double.order b 4895412794951729152 = some .gt ∨ double.order b 4895412794951729152 = some .eq) : cap b = M := by
  unfold cap
  unfold Format.order at h
  rw [read_w64] at h
  cases hd : double.read b with
  | nan s t => rw [hd] at h; simp [Datum.order] at h
  | infinity s => rw [hd] at h; cases s <;> simp_all [Datum.order, capD]
  | number s m i =>
    rw [hd] at h
    simp only [Datum.order] at h
    cases s with
    | true =>
      exfalso
      rw [signed_true, signed_false] at h
      have hp : (0 : Int) < ((4503599627370496 * 2 ^ (12 - min i 12).toNat : Nat) : Int) := Int.natCast_pos.2 (Nat.mul_pos (by decide) (Nat.two_pow_pos _))
      have hq : (0 : Int) ≤ ((m * 2 ^ (i - min i 12).toNat : Nat) : Int) := Int.natCast_nonneg _
      generalize ((4503599627370496 * 2 ^ (12 - min i 12).toNat : Nat) : Int) = X at *
      generalize ((m * 2 ^ (i - min i 12).toNat : Nat) : Int) = Y at *
      have hc : compare (-Y) X = .lt := by rw [Int.compare_eq_lt]; omega
      rw [hc] at h
      simp at h
    | false =>
      rw [signed_false, signed_false] at h
      have hle : 4503599627370496 * 2 ^ (12 - min 12 i).toNat ≤ m * 2 ^ (i - min 12 i).toNat := by
        rw [Int.min_comm 12 i]
        rcases h with h | h
        · have := Option.some.inj h
          rw [Int.compare_eq_gt] at this
          omega
        · have := Option.some.inj h
          rw [Int.compare_eq_eq] at this
          omega
      have := flo_le _ _ _ _ hle
      rw [flo_w64] at this
      simp only [capD, Bool.false_eq_true, if_false]
      unfold M
      omega
/-- below 2 ^ 64 and above 0: what is converted is what is afforded -/
theorem cap_mid {b : Nat} (h : double.order b 4895412794951729152 ≠ some .gt) (h' : double.order b 4895412794951729152 ≠ some .eq) (hp : double.order b 0 = some .gt) :
    (double.read b).toInt .zero = some (cap b : Int) ∧ cap b ≤ M := by
  unfold cap
  unfold Format.order at h h' hp
  rw [read_w64] at h h'
  rw [read_w0] at hp
  cases hd : double.read b with
  | nan s t => rw [hd] at hp; simp [Datum.order] at hp
  | infinity s => rw [hd] at h hp; cases s <;> simp_all [Datum.order]
  | number s m i =>
    rw [hd] at h h' hp
    simp only [Datum.order] at h h' hp
    cases s with
    | true =>
      exfalso
      rw [signed_true, signed_false] at hp
      have hq : (0 : Int) ≤ ((m * 2 ^ (i - min i (-1074)).toNat : Nat) : Int) := Int.natCast_nonneg _
      have := Option.some.inj hp
      rw [Int.compare_eq_gt] at this
      simp only [Nat.zero_mul, Int.natCast_zero] at this
      omega
    | false =>
      rw [signed_false, signed_false] at h h'
      have hlt : m * 2 ^ (i - min i 12).toNat < 4503599627370496 * 2 ^ (12 - min i 12).toNat := by
        have a1 : compare ((m * 2 ^ (i - min i 12).toNat : Nat) : Int) ((4503599627370496 * 2 ^ (12 - min i 12).toNat : Nat) : Int) ≠ .gt := fun e => h (congrArg some e)
        have a2 : compare ((m * 2 ^ (i - min i 12).toNat : Nat) : Int) ((4503599627370496 * 2 ^ (12 - min i 12).toNat : Nat) : Int) ≠ .eq := fun e => h' (congrArg some e)
        rw [ne_eq, Int.compare_eq_gt] at a1
        rw [ne_eq, Int.compare_eq_eq] at a2
        omega
      have := flo_lt _ _ _ _ (by decide) hlt
      rw [toInt_pos]
      simp only [capD, Bool.false_eq_true, if_false]
      have e : (4503599627370496 * 2 ^ (12 : Int).toNat : Nat) = 18446744073709551616 := by decide +kernel
      rw [e] at this
      unfold M
      rw [Nat.min_eq_right (by omega)]
      exact ⟨rfl, by omega⟩
/-- not above 0: nothing but 0 is afforded -/
theorem cap_none {b : Nat} (hp : double.order b 0 ≠ some .gt) : cap b = 0 := by
  unfold cap
  unfold Format.order at hp
  rw [read_w0] at hp
  cases hd : double.read b with
  | nan s t => rfl
  | infinity s => rw [hd] at hp; cases s <;> simp_all [Datum.order, capD]
  | number s m i =>
    rw [hd] at hp
    simp only [Datum.order] at hp
    cases s with
    | true => rfl
    | false =>
      rw [signed_false, signed_false] at hp
      have a1 : compare ((m * 2 ^ (i - min i (-1074)).toNat : Nat) : Int) ((0 * 2 ^ (-1074 - min i (-1074)).toNat : Nat) : Int) ≠ .gt := fun e => hp (congrArg some e)
      rw [ne_eq, Int.compare_eq_gt] at a1
      have hm : m = 0 := by
        rcases Nat.eq_zero_or_pos m with h | h
        · exact h
        · exfalso
          have := Nat.mul_pos h (Nat.two_pow_pos (i - min i (-1074)).toNat)
          rw [Nat.zero_mul] at a1
          omega
      subst hm
      simp [capD, flo_zero]
theorem cap_le (b : Nat) : cap b ≤ M := by
  unfold cap capD
  split
  · split
    · exact Nat.zero_le _
    · exact Nat.min_le_left _ _
  · split
    · exact Nat.zero_le _
    · exact Nat.le_refl _
  · exact Nat.zero_le _
end Dbl
end Go.Proofs.YtmjjkamndlefmaaDoor
namespace Go.Proofs.YtmjjkamndlefmaaDoor
namespace Dbl
open Ieee
theorem read_bits (b : Nat) (hb : b < 2 ^ 64) : double.read b =
    (if b / 2 ^ 52 % 2048 = 0 then .number (b / 2 ^ 63 == 1) (b % 2 ^ 52) (-1074)
     else if b / 2 ^ 52 % 2048 = 2047 then (if b % 2 ^ 52 = 0 then .infinity (b / 2 ^ 63 == 1) else .nan (b / 2 ^ 63 == 1) (b % 2 ^ 52))
     else .number (b / 2 ^ 63 == 1) (2 ^ 52 + b % 2 ^ 52) ((b / 2 ^ 52 % 2048 : Nat) - 1075 : Int)) := by
  have e1 : double.signWeight = 2 ^ 63 := by decide +kernel
  have e2 : double.binade = 2 ^ 52 := by decide +kernel
  have e3 : double.infRung = 2047 * 2 ^ 52 := by decide +kernel
  have e4 : double.leastPlace = -1074 := by decide +kernel
  unfold Format.read
  simp only [e1, e2, e3, e4]
  have h0 : b / 2 ^ 63 % 2 = b / 2 ^ 63 := by omega
  rw [h0]
  have hE : b / 2 ^ 52 % 2048 = b % 2 ^ 63 / 2 ^ 52 := by omega
  have hF : b % 2 ^ 52 = b % 2 ^ 63 % 2 ^ 52 := by omega
  rw [hE, hF]
  generalize (b / 2 ^ 63 == 1) = s
  have hr : b % 2 ^ 63 < 2 ^ 63 := Nat.mod_lt _ (by decide)
  generalize b % 2 ^ 63 = r at *
  clear hE hF h0
  by_cases c1 : r < 2 ^ 52
  · rw [if_pos c1, if_pos (by omega), Nat.mod_eq_of_lt c1]
  · rw [if_neg c1]
    by_cases c2 : r < 2047 * 2 ^ 52
    · rw [if_pos c2, if_neg (by omega), if_neg (by omega)]
      congr 1
      omega
    · rw [if_neg c2, if_neg (by omega : ¬ r / 2 ^ 52 = 0), if_pos (by omega : r / 2 ^ 52 = 2047)]
      by_cases c3 : r = 2047 * 2 ^ 52
      · rw [if_pos c3, if_pos (by omega)]
      · rw [if_neg c3, if_neg (by omega)]
        exact congrArg (Datum.nan s) (by omega)
/-- by its bits: nothing but 0 -/
theorem cap_bits_none (b : Nat) (hb : b < 2 ^ 64) (h : b / 2 ^ 63 = 1 ∨ (b / 2 ^ 52 % 2048 = 2047 ∧ b % 2 ^ 52 ≠ 0) ∨ b / 2 ^ 52 % 2048 < 1023) : cap b = 0 := by
  unfold cap
  rw [read_bits b hb]
  split
  · rename_i h0
    rcases h with h | h | h
    · simp [capD, h]
    · omega
    · have : flo (b % 2 ^ 52) (-1074) = 0 := by
        unfold flo
        have hK : 52 ≤ (-(-1074 : Int)).toNat := by decide
        rw [show ((-1074 : Int)).toNat = 0 from rfl, Nat.pow_zero, Nat.mul_one]
        generalize (-(-1074 : Int)).toNat = K at *
        exact Nat.div_eq_of_lt (Nat.lt_of_lt_of_le (Nat.mod_lt _ (by decide)) (Nat.pow_le_pow_right (by decide) hK))
      simp [capD, this]
  · split
    · split
      · rcases h with h | h | h
        · simp [capD, h]
        · omega
        · omega
      · rfl
    · rename_i c1 c2
      rcases h with h | h | h
      · simp [capD, h]
      · omega
      · have : flo (2 ^ 52 + b % 2 ^ 52) ((b / 2 ^ 52 % 2048 : Nat) - 1075 : Int) = 0 := by
          unfold flo
          generalize b / 2 ^ 52 % 2048 = E at *
          rw [show ((E : Int) - 1075).toNat = 0 by omega, Nat.pow_zero, Nat.mul_one]
          have hf : b % 2 ^ 52 < 2 ^ 52 := Nat.mod_lt _ (by decide)
          have hp : 2 ^ 53 ≤ 2 ^ (-((E : Int) - 1075)).toNat := Nat.pow_le_pow_right (by decide) (by omega)
          exact Nat.div_eq_of_lt (by omega)
        simp only [capD, this]
        split <;> rfl
theorem flo_big (m e : Nat) (hm : 2 ^ 52 ≤ m) (he : 12 ≤ e) : M ≤ flo m (e : Int) := by
  unfold flo
  rw [Int.toNat_natCast, show (-(e : Int)).toNat = 0 by omega, Nat.pow_zero, Nat.div_one]
  have h2 : 2 ^ 12 ≤ 2 ^ e := Nat.pow_le_pow_right (by decide) he
  have := Nat.mul_le_mul hm h2
  have e1 : 2 ^ 52 * 2 ^ 12 = 18446744073709551616 := by decide +kernel
  rw [e1] at this
  unfold M
  omega
/-- by its bits: all -/
theorem cap_bits_all (b : Nat) (hb : b < 2 ^ 64) (hs : b / 2 ^ 63 = 0) (h : (b / 2 ^ 52 % 2048 = 2047 ∧ b % 2 ^ 52 = 0) ∨ (1087 ≤ b / 2 ^ 52 % 2048 ∧ b / 2 ^ 52 % 2048 ≠ 2047)) : cap b = M := by
  unfold cap
  rw [read_bits b hb]
  split
  · omega
  · split
    · split
      · simp [capD, hs]
      · omega
    · rename_i c1 c2
      simp only [capD, hs]
      have hE : (b / 2 ^ 52 % 2048 : Nat) - 1075 = ((b / 2 ^ 52 % 2048 - 1075 : Nat) : Int) := by omega
      rw [hE]
      have := flo_big (2 ^ 52 + b % 2 ^ 52) (b / 2 ^ 52 % 2048 - 1075) (Nat.le_add_right _ _) (by omega)
      rw [show ((0 : Nat) == 1) = false from rfl, if_neg (by decide)]
      exact Nat.min_eq_left this
/-- by its bits: what lies between -/
theorem cap_bits_mid (b : Nat) (hb : b < 2 ^ 64) (hs : b / 2 ^ 63 = 0) (h1 : 1023 ≤ b / 2 ^ 52 % 2048) (h2 : b / 2 ^ 52 % 2048 < 1087) :
    cap b = (2 ^ 52 + b % 2 ^ 52) * 2 ^ (b / 2 ^ 52 % 2048 - 1075) / 2 ^ (1075 - b / 2 ^ 52 % 2048) := by
  unfold cap
  rw [read_bits b hb, if_neg (by omega), if_neg (by omega)]
  simp only [capD, hs]
  rw [show ((0 : Nat) == 1) = false from rfl, if_neg (by decide)]
  unfold flo
  have hf : b % 2 ^ 52 < 2 ^ 52 := Nat.mod_lt _ (by decide)
  generalize b % 2 ^ 52 = f at *
  generalize b / 2 ^ 52 % 2048 = E at *
  rw [show ((E : Int) - 1075).toNat = E - 1075 by omega, show (-((E : Int) - 1075)).toNat = 1075 - E by omega]
  refine Nat.min_eq_right ?_
  have h3 : 2 ^ (E - 1075) ≤ 2 ^ 11 := Nat.pow_le_pow_right (by decide) (by omega)
  have h4 := Nat.mul_le_mul (show 2 ^ 52 + f ≤ 2 ^ 53 - 1 by omega) h3
  have h5 : (2 ^ 53 - 1) * 2 ^ 11 ≤ M := by decide +kernel
  exact Nat.le_trans (Nat.div_le_self _ _) (Nat.le_trans h4 h5)
/-- the double that is m -/
def dbl (m : Nat) : Nat := double.nearest false m 0
theorem rung_small (L X : Nat) (hL : L < 53) (hX : X < 2 ^ 53) : (L + 1022) * 2 ^ 52 + X ≤ 2047 * 2 ^ 52 := by omega
theorem nearest_scaled (d k : Nat) (hd0 : 0 < d) (hd : d < 2 ^ 53) : double.nearest false (d * 2 ^ k) (-(k : Int)) =
    (d.log2 + 1022) * 2 ^ 52 + d * 2 ^ (52 - d.log2) := by
  have hL : d.log2 < 53 := (Nat.log2_lt (by omega)).2 hd
  have hlog : (d * 2 ^ k).log2 = d.log2 + k := by
    have a := Nat.mul_le_mul_right (2 ^ k) (Nat.log2_self_le (n := d) (by omega))
    have b := Nat.mul_lt_mul_of_pos_right (Nat.lt_log2_self (n := d)) (Nat.two_pow_pos k)
    rw [← Nat.pow_add] at a b
    exact (Nat.log2_eq_iff (Nat.ne_of_gt (Nat.mul_pos hd0 (Nat.two_pow_pos k)))).2 ⟨a, by rwa [show d.log2 + 1 + k = d.log2 + k + 1 by omega] at b⟩
  have e2 : double.binade = 2 ^ 52 := by decide +kernel
  have e3 : double.infRung = 2047 * 2 ^ 52 := by decide +kernel
  have e4 : double.leastPlace = -1074 := by decide +kernel
  have e5 : double.fractionBits = 52 := rfl
  have hne : d * 2 ^ k ≠ 0 := Nat.mul_ne_zero (by omega) (Nat.ne_of_gt (Nat.two_pow_pos _))
  have hkept : Toward.even.cut false ((d * 2 ^ k) <<< (-(k : Int) - ((d.log2 : Int) - 52)).toNat) (((d.log2 : Int) - 52) - -(k : Int)).toNat = d * 2 ^ (52 - d.log2) := by
    rcases Nat.le_total k (52 - d.log2) with h | h
    · have a1 : (-(k : Int) - ((d.log2 : Int) - 52)).toNat = 52 - d.log2 - k := by omega
      have a2 : (((d.log2 : Int) - 52) - -(k : Int)).toNat = 0 := by omega
      rw [a1, a2, Nat.shiftLeft_eq, Nat.mul_assoc, ← Nat.pow_add, show k + (52 - d.log2 - k) = 52 - d.log2 by omega]
      simp [Toward.cut, Nat.mod_one]
    · have a1 : (-(k : Int) - ((d.log2 : Int) - 52)).toNat = 0 := by omega
      have a2 : (((d.log2 : Int) - 52) - -(k : Int)).toNat = k - (52 - d.log2) := by omega
      rw [a1, a2, Nat.shiftLeft_zero]
      unfold Toward.cut
      rw [hlog, Nat.min_eq_left (by omega), Nat.shiftLeft_eq, Nat.one_mul]
      have hs : d * 2 ^ k = d * 2 ^ (52 - d.log2) * 2 ^ (k - (52 - d.log2)) := by rw [Nat.mul_assoc, ← Nat.pow_add]; congr 2; omega
      have hpos := Nat.two_pow_pos (k - (52 - d.log2))
      simp only [hs, Nat.mul_div_cancel _ hpos, Nat.mul_mod_left]
      have : ((2 ^ (k - (52 - d.log2)) == 2 * 0)) = false := by
        rw [Nat.mul_zero]; exact beq_false_of_ne (Nat.ne_of_gt hpos)
      simp [this]
  unfold Format.nearest
  rw [if_neg hne, hlog, e2, e3, e4, e5]
  have hlast : max (-(k : Int) + ((d.log2 + k : Nat) : Int) - ((52 : Nat) : Int)) (-1074) = (d.log2 : Int) - 52 := by omega
  simp only [hlast, hkept]
  unfold Format.word
  rw [if_neg (by decide)]
  have h1 : d * 2 ^ (52 - d.log2) < 2 ^ 53 := by
    have a := Nat.lt_log2_self (n := d)
    have b := Nat.mul_lt_mul_of_pos_right a (Nat.two_pow_pos (52 - d.log2))
    rwa [← Nat.pow_add, show d.log2 + 1 + (52 - d.log2) = 53 by omega] at b
  rw [show ((d.log2 : Int) - 52 - -1074).toNat = d.log2 + 1022 by omega]
  rw [Nat.min_eq_left (rung_small _ _ hL h1)]
theorem dbl_is (d : Nat) (hd0 : 0 < d) (hd : d < 2 ^ 53) : dbl d = (d.log2 + 1022) * 2 ^ 52 + d * 2 ^ (52 - d.log2) := by
  have := nearest_scaled d 0 hd0 hd
  rwa [Nat.pow_zero, Nat.mul_one] at this
theorem nearest_dbl (d k : Nat) (hd : d < 2 ^ 53) : double.nearest false (d * 2 ^ k) (-(k : Int)) = dbl d := by
  rcases Nat.eq_zero_or_pos d with h | h
  · subst h; simp [Format.nearest, dbl]
  · rw [nearest_scaled d k h hd, dbl_is d h hd]
theorem dbl_zero : dbl 0 = 0 := by decide +kernel
theorem read_dbl (d : Nat) (hd : d < 2 ^ 53) : ∃ k : Nat, double.read (dbl d) = .number false (d * 2 ^ k) (-(k : Int)) := by
  rcases Nat.eq_zero_or_pos d with h | h
  · subst h
    have hk : ∃ k : Nat, -(k : Int) = -1074 := ⟨1074, rfl⟩
    obtain ⟨k, hk⟩ := hk
    exact ⟨k, by rw [dbl_zero, read_w0, Nat.zero_mul, hk]⟩
  · have hL : d.log2 < 53 := (Nat.log2_lt (by omega)).2 hd
    have h1 : d * 2 ^ (52 - d.log2) < 2 ^ 53 := by
      have a := Nat.lt_log2_self (n := d)
      have b := Nat.mul_lt_mul_of_pos_right a (Nat.two_pow_pos (52 - d.log2))
      rwa [← Nat.pow_add, show d.log2 + 1 + (52 - d.log2) = 53 by omega] at b
    have h2 : 2 ^ 52 ≤ d * 2 ^ (52 - d.log2) := by
      have a := Nat.log2_self_le (n := d) (by omega)
      have b := Nat.mul_le_mul_right (2 ^ (52 - d.log2)) a
      rwa [← Nat.pow_add, show d.log2 + (52 - d.log2) = 52 by omega] at b
    refine ⟨52 - d.log2, ?_⟩
    rw [dbl_is d h hd]
    generalize hX : d * 2 ^ (52 - d.log2) = X at *
    generalize d.log2 = L at *
    have q1 : ((L + 1022) * 2 ^ 52 + X) / 2 ^ 52 % 2048 = L + 1023 := by omega
    have q2 : ((L + 1022) * 2 ^ 52 + X) % 2 ^ 52 = X - 2 ^ 52 := by omega
    have q3 : ((L + 1022) * 2 ^ 52 + X) / 2 ^ 63 = 0 := by omega
    rw [read_bits _ (by omega), q1, q2, q3, if_neg (by omega), if_neg (by omega)]
    rw [show ((0 : Nat) == 1) = false from rfl]
    exact congr (congrArg (Datum.number false) (by omega)) (by omega)
end Dbl
end Go.Proofs.YtmjjkamndlefmaaDoor
namespace Go.Proofs.YtmjjkamndlefmaaDoor
namespace Dbl
open Ieee
/-- the double that Floor makes of it -/
def fl (b : Nat) : Nat := double.write ((double.read b).integral .down)
/-- r is what is left of budget b, of which s was spent. -/
def LeftIs (b s r : Nat) : Prop := if s ≤ cap b ∧ 1 ≤ cap b then double.sub (fl b) (double.nearest false s 0) = some r else r = 0
theorem cap_pos {b : Nat} (h : 1 ≤ cap b) : double.read b = .infinity false ∨ ∃ m i, double.read b = .number false m i ∧ cap b = min M (flo m i) := by
  unfold cap at *
  cases hd : double.read b with
  | nan s t => rw [hd] at h; simp [capD] at h
  | infinity s => cases s with
    | true => rw [hd] at h; simp [capD] at h
    | false => exact .inl rfl
  | number s m i => cases s with
    | true => rw [hd] at h; simp [capD] at h
    | false => exact .inr ⟨m, i, rfl, by simp [capD]⟩
theorem order_self {w : Nat} (h : (double.read w).isNaN = false) : double.order w w = some .eq := by
  unfold Format.order
  cases hd : double.read w with
  | nan s t => rw [hd] at h; simp [Datum.isNaN] at h
  | infinity s => simp [Datum.order]
  | number s m i => simp [Datum.order]
theorem cut_even_low (n d : Nat) : n / 2 ^ d ≤ Toward.even.cut false n d := by
  unfold Toward.cut
  have : n / 2 ^ d ≤ n / (1 <<< min d (n.log2 + 2)) := by
    rw [Nat.shiftLeft_eq, Nat.one_mul]
    exact Nat.div_le_div_left (Nat.pow_le_pow_right (by decide) (Nat.min_le_left _ _)) (Nat.two_pow_pos _)
  exact Nat.le_trans this (Nat.le_add_right _ _)
theorem great_rung (A X t : Nat) (hA : t + 1022 ≤ A) (hX : 2 ^ 52 ≤ X) : (1023 + t) * 2 ^ 52 ≤ A * 2 ^ 52 + X := by
  omega
theorem top_rung (t : Nat) (ht : t ≤ 1000) : (1023 + t) * 2 ^ 52 ≤ 2047 * 2 ^ 52 := by omega
theorem pass50 (X : Nat) (hm : 2 ^ 52 * 2 ^ 1 ≤ X) : ((4503599627370496 : Nat) : Int) < (X : Int) := by omega
/-- what is great is written great -/
theorem nearest_great (mag : Nat) (place : Int) (t : Nat) (hm : mag ≠ 0) (h : (t : Int) ≤ place + mag.log2) (ht : t ≤ 1000) :
    (1023 + t) * 2 ^ 52 ≤ double.nearest false mag place ∧ double.nearest false mag place ≤ 2047 * 2 ^ 52 := by
  have e2 : double.binade = 2 ^ 52 := by decide +kernel
  have e3 : double.infRung = 2047 * 2 ^ 52 := by decide +kernel
  have e4 : double.leastPlace = -1074 := by decide +kernel
  have e5 : double.fractionBits = 52 := rfl
  unfold Format.nearest
  rw [if_neg hm, e2, e3, e4, e5]
  have hlast : max (place + (mag.log2 : Int) - ((52 : Nat) : Int)) (-1074) = place + (mag.log2 : Int) - 52 := by omega
  simp only [hlast]
  unfold Format.word
  rw [if_neg (by decide)]
  refine ⟨Nat.le_min.2 ⟨?_, top_rung t ht⟩, Nat.min_le_right _ _⟩
  refine great_rung _ _ _ (by omega) ?_
  refine Nat.le_trans ?_ (cut_even_low _ _)
  have hlow := Nat.log2_self_le hm
  rcases Nat.le_total 52 mag.log2 with hl | hl
  · rw [show (place - (place + (mag.log2 : Int) - 52)).toNat = 0 by omega, show (place + (mag.log2 : Int) - 52 - place).toNat = mag.log2 - 52 by omega, Nat.shiftLeft_zero,
      Nat.le_div_iff_mul_le (Nat.two_pow_pos _), ← Nat.pow_add, show 52 + (mag.log2 - 52) = mag.log2 by omega]
    exact hlow
  · rw [show (place - (place + (mag.log2 : Int) - 52)).toNat = 52 - mag.log2 by omega, show (place + (mag.log2 : Int) - 52 - place).toNat = 0 by omega, Nat.shiftLeft_eq, Nat.pow_zero, Nat.div_one]
    have := Nat.mul_le_mul_right (2 ^ (52 - mag.log2)) hlow
    rwa [← Nat.pow_add, show mag.log2 + (52 - mag.log2) = 52 by omega] at this
theorem read_great (w t : Nat) (h1 : (1023 + t) * 2 ^ 52 ≤ w) (h2 : w ≤ 2047 * 2 ^ 52) : double.read w = .infinity false ∨ ∃ m i, double.read w = .number false m i ∧ 2 ^ 52 ≤ m ∧ (t : Int) - 52 ≤ i := by
  have q1 : w / 2 ^ 63 = 0 := by omega
  have q2 : w / 2 ^ 52 % 2048 = w / 2 ^ 52 := by omega
  have q3 : 1023 + t ≤ w / 2 ^ 52 := by omega
  have q4 : w / 2 ^ 52 = 2047 → w % 2 ^ 52 = 0 := by omega
  rw [read_bits w (by omega), q1, q2, show ((0 : Nat) == 1) = false from rfl, if_neg (by omega)]
  by_cases c : w / 2 ^ 52 = 2047
  · rw [if_pos c, if_pos (q4 c)]; exact .inl rfl
  · rw [if_neg c]
    exact .inr ⟨_, _, rfl, Nat.le_add_right _ _, by omega⟩
theorem read_w50 : double.read 4832362400168542208 = .number false 4503599627370496 (-2) := by decide +kernel
theorem order_great (w : Nat) (h1 : (1023 + 51) * 2 ^ 52 ≤ w) (h2 : w ≤ 2047 * 2 ^ 52) : double.order w w = some .eq ∧ double.order w 4832362400168542208 = some .gt := by
  rcases read_great w 51 h1 h2 with h | ⟨m, i, h, hm, hi⟩
  · exact ⟨order_self (by rw [h]; rfl), by unfold Format.order; rw [h, read_w50]; rfl⟩
  · refine ⟨order_self (by rw [h]; rfl), ?_⟩
    unfold Format.order
    rw [h, read_w50]
    simp only [Datum.order]
    rw [show min i (-2) = -2 by omega, signed_false, signed_false]
    refine congrArg some ?_
    rw [Int.compare_eq_gt]
    rw [show ((-2 : Int) - -2).toNat = 0 from rfl, Nat.pow_zero, Nat.mul_one]
    have a : 2 ^ 1 ≤ 2 ^ (i - -2).toNat := Nat.pow_le_pow_right (by decide) (by omega)
    exact pass50 _ (Nat.mul_le_mul hm a)
theorem sum_whole (F s kF kS : Nat) (h : s ≤ F) : Datum.sum (.number false (F * 2 ^ kF) (-(kF : Int))) (Datum.opposite (.number false (s * 2 ^ kS) (-(kS : Int)))) =
    some (.number false ((F - s) * 2 ^ max kF kS) (-((max kF kS : Nat) : Int))) := by
  simp only [Datum.opposite, Datum.sum, Bool.not_false]
  have hb : min (-(kF : Int)) (-(kS : Int)) = -((max kF kS : Nat) : Int) := by omega
  rw [hb, signed_false, signed_true]
  have h1 : F * 2 ^ kF * 2 ^ (-(kF : Int) - -((max kF kS : Nat) : Int)).toNat = F * 2 ^ max kF kS := by
    rw [Nat.mul_assoc, ← Nat.pow_add]; congr 2; omega
  have h2 : s * 2 ^ kS * 2 ^ (-(kS : Int) - -((max kF kS : Nat) : Int)).toNat = s * 2 ^ max kF kS := by
    rw [Nat.mul_assoc, ← Nat.pow_add]; congr 2; omega
  rw [h1, h2]
  have h3 : ((F * 2 ^ max kF kS : Nat) : Int) + -((s * 2 ^ max kF kS : Nat) : Int) = (((F - s) * 2 ^ max kF kS : Nat) : Int) := by
    have := Nat.mul_le_mul_right (2 ^ max kF kS) h
    rw [Nat.sub_mul]
    omega
  rw [h3]
  have h4 : ¬ ((((F - s) * 2 ^ max kF kS : Nat) : Int) < 0) := by omega
  generalize (F - s) * 2 ^ max kF kS = X at *
  have h5 : (if (X : Int) = 0 then (false && true) else decide ((X : Int) < 0)) = false := by
    split
    · rfl
    · exact decide_eq_false h4
  rw [h5, Int.natAbs_natCast]
theorem read_fl_inf {b : Nat} (h : double.read b = .infinity false) : fl b = 9218868437227405312 := by
  unfold fl; rw [h]; decide +kernel
theorem fl_num {b m : Nat} {i : Int} (h : double.read b = .number false m i) : fl b = double.nearest false (flo m i) 0 := by
  unfold fl; rw [h, integral_pos .down (.inl rfl)]; rfl
theorem read_inf : double.read 9218868437227405312 = .infinity false := by decide +kernel
theorem write_inf : double.write (.infinity false) = 9218868437227405312 := by decide +kernel
/-- of what was spent below 2 ^ 49: what is left is above 2 ^ 50, or just the budget's whole number less it -/
theorem left_sum (b s : Nat) (hs : s < 2 ^ 49) (h : s ≤ cap b) : ∃ r, LeftIs b s r ∧ double.order r r = some .eq ∧
    (double.order r 4832362400168542208 = some .gt ∨ ∃ d, d < 2 ^ 53 ∧ r = dbl d ∧ cap b = s + d) := by
  by_cases h1 : 1 ≤ cap b
  · suffices hh : ∃ r, double.sub (fl b) (double.nearest false s 0) = some r ∧ double.order r r = some .eq ∧ (double.order r 4832362400168542208 = some .gt ∨ ∃ d, d < 2 ^ 53 ∧ r = dbl d ∧ cap b = s + d) by
      obtain ⟨r, q1, q2⟩ := hh
      exact ⟨r, by unfold LeftIs; rw [if_pos ⟨h, h1⟩]; exact q1, q2⟩
    obtain ⟨kS, hS⟩ := read_dbl s (by omega)
    have hds : double.nearest false s 0 = dbl s := rfl
    rw [hds]
    unfold Format.sub
    rw [hS]
    rcases cap_pos h1 with hb | ⟨m, i, hb, hc⟩
    · rw [read_fl_inf hb, read_inf]
      refine ⟨9218868437227405312, ?_, by decide +kernel, .inl (by decide +kernel)⟩
      simp only [Datum.opposite, Datum.sum, Option.map_some, write_inf]
    · rw [fl_num hb]
      generalize flo m i = F at *
      clear hb
      rcases Nat.lt_or_ge F (2 ^ 53) with hF | hF
      · have hcF : cap b = F := by rw [hc]; exact Nat.min_eq_right (by unfold M; omega)
        rw [hcF] at h h1
        obtain ⟨kF, hr⟩ := read_dbl F hF
        have hdf : double.nearest false F 0 = dbl F := rfl
        rw [hdf, hr, sum_whole F s kF kS h]
        refine ⟨dbl (F - s), ?_, ?_, .inr ⟨F - s, by omega, rfl, by rw [hcF]; omega⟩⟩
        · simp only [Option.map_some, Format.write]
          rw [nearest_dbl _ _ (by omega)]
        · obtain ⟨k, hk⟩ := read_dbl (F - s) (by omega)
          exact order_self (by rw [hk]; rfl)
      · have hl : 53 ≤ F.log2 := (Nat.le_log2 (by omega)).2 hF
        obtain ⟨g1, g2⟩ := nearest_great F 0 53 (by omega) (by omega) (by decide)
        rcases read_great _ 53 g1 g2 with hr | ⟨μ, e, hr, hμ, he⟩
        · rw [hr]
          refine ⟨9218868437227405312, ?_, by decide +kernel, .inl (by decide +kernel)⟩
          simp only [Datum.opposite, Datum.sum, Option.map_some, write_inf]
        · rw [hr]
          simp only [Datum.opposite, Datum.sum, Bool.not_false]
          rw [show min e (-(kS : Int)) = -(kS : Int) by omega, signed_false, signed_true, show (-(kS : Int) - -(kS : Int)).toNat = 0 by omega, Nat.pow_zero, Nat.mul_one]
          have p1 : μ * 2 ^ (e - -(kS : Int)).toNat = μ * 2 ^ e.toNat * 2 ^ kS := by rw [Nat.mul_assoc, ← Nat.pow_add]; congr 2; omega
          have p2 : 2 ^ 1 ≤ 2 ^ e.toNat := Nat.pow_le_pow_right (by decide) (by omega)
          have p3 := Nat.mul_le_mul hμ p2
          rw [p1]
          generalize μ * 2 ^ e.toNat = Y at *
          have hpos := Nat.two_pow_pos kS
          have p5 : s * 2 ^ kS ≤ Y * 2 ^ kS := Nat.mul_le_mul_right _ (by omega)
          have p4 : ((Y * 2 ^ kS : Nat) : Int) + -((s * 2 ^ kS : Nat) : Int) = (((Y - s) * 2 ^ kS : Nat) : Int) := by
            rw [Nat.sub_mul]; omega
          rw [p4]
          have q0 : 2 ^ 52 ≤ Y - s := by omega
          have q1 : ¬ ((((Y - s) * 2 ^ kS : Nat) : Int) < 0) := by omega
          have q2 : (Y - s) * 2 ^ kS ≠ 0 := Nat.mul_ne_zero (by omega) (Nat.ne_of_gt hpos)
          have q3 : ¬ ((((Y - s) * 2 ^ kS : Nat) : Int) = 0) := by omega
          have q4 : 52 + kS ≤ ((Y - s) * 2 ^ kS).log2 := (Nat.le_log2 q2).2 (by rw [Nat.pow_add]; exact Nat.mul_le_mul_right _ q0)
          obtain ⟨r1, r2⟩ := nearest_great ((Y - s) * 2 ^ kS) (-(kS : Int)) 51 q2 (by omega) (by decide)
          obtain ⟨o1, o2⟩ := order_great _ r1 r2
          refine ⟨_, ?_, o1, .inl o2⟩
          rw [if_neg q3]
          simp only [Option.map_some, Format.write, Int.natAbs_natCast, decide_eq_false q1]
  · refine ⟨0, ?_, by decide +kernel, .inr ⟨0, by decide, dbl_zero.symm, by omega⟩⟩
    unfold LeftIs
    rw [if_neg (by omega)]
theorem dbl_floor (d : Nat) (hd : d < 2 ^ 53) : fl (dbl d) = dbl d := by
  obtain ⟨k, hk⟩ := read_dbl d hd
  rw [fl_num hk]
  have : flo (d * 2 ^ k) (-(k : Int)) = d := by
    unfold flo
    rw [show (-(k : Int)).toNat = 0 by omega, show (-(-(k : Int))).toNat = k by omega, Nat.pow_zero, Nat.mul_one, Nat.mul_div_cancel _ (Nat.two_pow_pos _)]
  rw [this]
  rfl
theorem dbl_int (d : Nat) (hd : d < 2 ^ 53) : (double.read (dbl d)).toInt .zero = some (d : Int) := by
  obtain ⟨k, hk⟩ := read_dbl d hd
  rw [hk, toInt_pos]
  unfold flo
  rw [show (-(k : Int)).toNat = 0 by omega, show (-(-(k : Int))).toNat = k by omega, Nat.pow_zero, Nat.mul_one, Nat.mul_div_cancel _ (Nat.two_pow_pos _)]
theorem dbl_not_neg (d : Nat) (hd : d < 2 ^ 53) : double.order (dbl d) 0 ≠ some .lt := by
  obtain ⟨k, hk⟩ := read_dbl d hd
  unfold Format.order
  rw [hk, read_w0]
  simp only [Datum.order]
  rw [signed_false, signed_false]
  intro e
  have := Option.some.inj e
  rw [Int.compare_eq_lt, Nat.zero_mul] at this
  omega
theorem dbl_nan (d : Nat) (hd : d < 2 ^ 53) : (double.read (dbl d)).isNaN = false := by
  obtain ⟨k, hk⟩ := read_dbl d hd
  rw [hk]; rfl
end Dbl
end Go.Proofs.YtmjjkamndlefmaaDoor
