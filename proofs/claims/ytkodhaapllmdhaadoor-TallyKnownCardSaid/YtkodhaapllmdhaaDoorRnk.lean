/- Doubles by their bits: rank, order, exact sums and quotients, means. No program. -/
import Ieee.Arith
namespace Go.Proofs.YtkodhaapllmdhaaDoor
namespace Rk
open Ieee
/-- the magnitude of a rung, in units of the least double -/
def mg (r : Nat) : Nat := if r < 2 ^ 52 then r else (2 ^ 52 + r % 2 ^ 52) * 2 ^ (r / 2 ^ 52 - 1)
theorem mg_lt_next (r : Nat) : mg r < mg (r + 1) := by
  unfold mg
  by_cases h1 : r + 1 < 2 ^ 52
  · rw [if_pos (by omega), if_pos h1]; omega
  · rw [if_neg h1]
    by_cases h2 : r < 2 ^ 52
    · have : r = 2 ^ 52 - 1 := by omega
      subst this
      rw [if_pos h2]
      decide +kernel
    · rw [if_neg h2]
      by_cases h3 : (r + 1) % 2 ^ 52 = 0
      · have e1 : r % 2 ^ 52 = 2 ^ 52 - 1 := by omega
        have e2 : (r + 1) / 2 ^ 52 - 1 = (r / 2 ^ 52 - 1) + 1 := by omega
        rw [h3, e1, e2]
        have hp := Nat.two_pow_pos (r / 2 ^ 52 - 1)
        generalize r / 2 ^ 52 - 1 = q at *
        rw [Nat.pow_succ 2 q]
        generalize 2 ^ q = P at *
        have : (2 ^ 52 + (2 ^ 52 - 1)) * P < (2 ^ 52 + 0) * 2 * P := Nat.mul_lt_mul_of_pos_right (by decide) hp
        rw [Nat.mul_comm P 2, ← Nat.mul_assoc]
        exact this
      · have e1 : (r + 1) % 2 ^ 52 = r % 2 ^ 52 + 1 := by omega
        have e2 : (r + 1) / 2 ^ 52 = r / 2 ^ 52 := by omega
        rw [e1, e2]
        exact Nat.mul_lt_mul_of_pos_right (by omega) (Nat.two_pow_pos _)
theorem mg_mono : ∀ {r s : Nat}, r < s → mg r < mg s := by
  intro r s h
  induction s with
  | zero => omega
  | succ s ih =>
    rcases Nat.lt_or_ge r s with h' | h'
    · exact Nat.lt_trans (ih h') (mg_lt_next s)
    · have : r = s := by omega
      subst this; exact mg_lt_next r
theorem mg_zero : mg 0 = 0 := by decide +kernel
theorem mg_le {r s : Nat} (h : r ≤ s) : mg r ≤ mg s := by
  rcases Nat.lt_or_eq_of_le h with h | rfl
  · exact Nat.le_of_lt (mg_mono h)
  · exact Nat.le_refl _
theorem mg_pos {r : Nat} (h : 0 < r) : 0 < mg r := by have := mg_mono h; rw [mg_zero] at this; exact this
/-- the double's value, in units of the least double; infinities as the next rung -/
def num (b : Nat) : Int := if b / 2 ^ 63 = 1 then -(mg (b % 2 ^ 63) : Int) else (mg (b % 2 ^ 63) : Int)
def nanB (b : Nat) : Bool := decide (2047 * 2 ^ 52 < b % 2 ^ 63)
theorem scale_cmp (a b : Int) (k : Nat) : compare (a * ((2 ^ k : Nat) : Int)) (b * ((2 ^ k : Nat) : Int)) = compare a b := by
  have hp : (0 : Int) < ((2 ^ k : Nat) : Int) := Int.natCast_pos.2 (Nat.two_pow_pos k)
  generalize ((2 ^ k : Nat) : Int) = P at *
  rcases Int.lt_trichotomy a b with h | h | h
  · rw [Int.compare_eq_lt.2 h, Int.compare_eq_lt.2 (Int.mul_lt_mul_of_pos_right h hp)]
  · subst h; rw [Int.compare_eq_eq.2 rfl, Int.compare_eq_eq.2 rfl]
  · rw [Int.compare_eq_gt.2 h, Int.compare_eq_gt.2 (Int.mul_lt_mul_of_pos_right h hp)]
theorem signed_is (s : Bool) (m k : Nat) : signed s m k = (if s then -(m : Int) else (m : Int)) * ((2 ^ k : Nat) : Int) := by
  unfold signed
  cases s <;> simp [Nat.shiftLeft_eq, Int.neg_mul]
/-- what is read of finite bits, in units of 2 ^ -1074 -/
theorem read_fin (b : Nat) (hb : b < 2 ^ 64) (hf : b % 2 ^ 63 < 2047 * 2 ^ 52) :
    ∃ m k : Nat, double.read b = .number (b / 2 ^ 63 == 1) m ((k : Int) - 1074) ∧ mg (b % 2 ^ 63) = m * 2 ^ k ∧ m < 2 ^ 53 := by
  have e1 : double.signWeight = 2 ^ 63 := by decide +kernel
  have e2 : double.binade = 2 ^ 52 := by decide +kernel
  have e3 : double.infRung = 2047 * 2 ^ 52 := by decide +kernel
  have e4 : double.leastPlace = -1074 := by decide +kernel
  unfold Format.read
  simp only [e1, e2, e3, e4]
  have h0 : b / 2 ^ 63 % 2 = b / 2 ^ 63 := by omega
  rw [h0]
  generalize (b / 2 ^ 63 == 1) = s
  generalize b % 2 ^ 63 = r at *
  unfold mg
  by_cases c1 : r < 2 ^ 52
  · rw [if_pos c1, if_pos c1]
    exact ⟨r, 0, rfl, by omega, by omega⟩
  · rw [if_neg c1, if_pos hf, if_neg c1]
    exact ⟨2 ^ 52 + r % 2 ^ 52, r / 2 ^ 52 - 1, by congr 1 <;> omega, rfl, by omega⟩
theorem read_inf (b : Nat) (hb : b < 2 ^ 64) (hf : b % 2 ^ 63 = 2047 * 2 ^ 52) : double.read b = .infinity (b / 2 ^ 63 == 1) := by
  have e1 : double.signWeight = 2 ^ 63 := by decide +kernel
  have e2 : double.binade = 2 ^ 52 := by decide +kernel
  have e3 : double.infRung = 2047 * 2 ^ 52 := by decide +kernel
  unfold Format.read
  simp only [e1, e2, e3]
  have h0 : b / 2 ^ 63 % 2 = b / 2 ^ 63 := by omega
  rw [h0, if_neg (by omega), if_neg (by omega), if_pos hf]
theorem read_nan (b : Nat) (hb : b < 2 ^ 64) (hf : 2047 * 2 ^ 52 < b % 2 ^ 63) : ∃ t, double.read b = .nan (b / 2 ^ 63 == 1) t := by
  have e1 : double.signWeight = 2 ^ 63 := by decide +kernel
  have e2 : double.binade = 2 ^ 52 := by decide +kernel
  have e3 : double.infRung = 2047 * 2 ^ 52 := by decide +kernel
  unfold Format.read
  simp only [e1, e2, e3]
  have h0 : b / 2 ^ 63 % 2 = b / 2 ^ 63 := by omega
  rw [h0, if_neg (by omega), if_neg (by omega), if_neg (by omega)]
  exact ⟨_, rfl⟩
theorem num_if (b m k : Nat) (h : mg (b % 2 ^ 63) = m * 2 ^ k) : num b = (if (b / 2 ^ 63 == 1) then -(m : Int) else (m : Int)) * ((2 ^ k : Nat) : Int) := by
  unfold num
  rw [h]
  by_cases c : b / 2 ^ 63 = 1
  · rw [if_pos c, if_pos (beq_iff_eq.2 c)]; simp [Int.neg_mul]
  · rw [if_neg c, if_neg (by simpa using c)]; simp
theorem mg_inf : mg (2047 * 2 ^ 52) = 2 ^ 2098 := by decide +kernel
theorem num_bound (b : Nat) (hf : b % 2 ^ 63 < 2047 * 2 ^ 52) : -((mg (2047 * 2 ^ 52) : Nat) : Int) < num b ∧ num b < ((mg (2047 * 2 ^ 52) : Nat) : Int) := by
  have := mg_mono hf
  unfold num
  generalize mg (2047 * 2 ^ 52) = X at *
  generalize mg (b % 2 ^ 63) = Y at *
  split <;> omega
theorem num_infb (b : Nat) (hf : b % 2 ^ 63 = 2047 * 2 ^ 52) : num b = if b / 2 ^ 63 = 1 then -((mg (2047 * 2 ^ 52) : Nat) : Int) else ((mg (2047 * 2 ^ 52) : Nat) : Int) := by
  unfold num; rw [hf]
theorem mg_inf_pos : 0 < mg (2047 * 2 ^ 52) := mg_pos (by decide)
/-- the order of two doubles, neither of them a NaN -/
theorem order_num (a b : Nat) (ha : a < 2 ^ 64) (hb : b < 2 ^ 64) (na : nanB a = false) (nb : nanB b = false) :
    double.order a b = some (compare (num a) (num b)) := by
  simp only [nanB, decide_eq_false_iff_not] at na nb
  unfold Format.order
  have hI := mg_inf_pos
  rcases Nat.lt_or_eq_of_le (Nat.le_of_not_lt na) with fa | fa
  · obtain ⟨m, i, ra, va, -⟩ := read_fin a ha fa
    rcases Nat.lt_or_eq_of_le (Nat.le_of_not_lt nb) with fb | fb
    · obtain ⟨n, j, rb, vb, -⟩ := read_fin b hb fb
      rw [ra, rb, num_if a m i va, num_if b n j vb]
      generalize (a / 2 ^ 63 == 1) = s
      generalize (b / 2 ^ 63 == 1) = t
      simp only [Datum.order, signed_is]
      generalize (if s = true then -(m : Int) else (m : Int)) = x
      generalize (if t = true then -(n : Int) else (n : Int)) = y
      congr 1
      have e1 : (2 ^ i : Nat) = 2 ^ (((i : Int) - 1074 - min ((i : Int) - 1074) ((j : Int) - 1074)).toNat) * 2 ^ (min i j) := by
        rw [← Nat.pow_add]; congr 1; omega
      have e2 : (2 ^ j : Nat) = 2 ^ (((j : Int) - 1074 - min ((i : Int) - 1074) ((j : Int) - 1074)).toNat) * 2 ^ (min i j) := by
        rw [← Nat.pow_add]; congr 1; omega
      rw [e1, e2, Int.natCast_mul, Int.natCast_mul, ← Int.mul_assoc, ← Int.mul_assoc, scale_cmp]
    · have bb := num_bound a fa
      rw [ra, read_inf b hb fb, num_infb b fb]
      generalize mg (2047 * 2 ^ 52) = X at *
      simp only [Datum.order]
      by_cases c : b / 2 ^ 63 = 1
      · rw [if_pos (beq_iff_eq.2 c), if_pos c, Int.compare_eq_gt.2 bb.1]
      · rw [if_neg (by simpa using c), if_neg c, Int.compare_eq_lt.2 bb.2]
  · rcases Nat.lt_or_eq_of_le (Nat.le_of_not_lt nb) with fb | fb
    · obtain ⟨n, j, rb, vb, -⟩ := read_fin b hb fb
      have bb := num_bound b fb
      rw [rb, read_inf a ha fa, num_infb a fa]
      generalize mg (2047 * 2 ^ 52) = X at *
      simp only [Datum.order]
      by_cases c : a / 2 ^ 63 = 1
      · rw [if_pos (beq_iff_eq.2 c), if_pos c, Int.compare_eq_lt.2 bb.1]
      · rw [if_neg (by simpa using c), if_neg c, Int.compare_eq_gt.2 bb.2]
    · rw [read_inf a ha fa, read_inf b hb fb, num_infb a fa, num_infb b fb]
      generalize mg (2047 * 2 ^ 52) = X at *
      simp only [Datum.order]
      congr 1
      by_cases c : a / 2 ^ 63 = 1 <;> by_cases d : b / 2 ^ 63 = 1
      · rw [if_pos c, if_pos d, beq_iff_eq.2 c, beq_iff_eq.2 d, Int.compare_eq_eq.2 rfl]; rfl
      · rw [if_pos c, if_neg d, beq_iff_eq.2 c, beq_eq_false_iff_ne.2 d, Int.compare_eq_lt.2 (by omega)]; rfl
      · rw [if_neg c, if_pos d, beq_eq_false_iff_ne.2 c, beq_iff_eq.2 d, Int.compare_eq_gt.2 (by omega)]; rfl
      · rw [if_neg c, if_neg d, beq_eq_false_iff_ne.2 c, beq_eq_false_iff_ne.2 d, Int.compare_eq_eq.2 rfl]; rfl
theorem order_nan (a b : Nat) (ha : a < 2 ^ 64) (hb : b < 2 ^ 64) (h : nanB a = true ∨ nanB b = true) : double.order a b = none := by
  simp only [nanB, decide_eq_true_eq] at h
  unfold Format.order
  rcases h with h | h
  · obtain ⟨t, r⟩ := read_nan a ha h; rw [r]; rfl
  · obtain ⟨t, r⟩ := read_nan b hb h; rw [r]; cases double.read a <;> rfl
theorem log2_mul_pow (x k : Nat) (hx : x ≠ 0) : (x * 2 ^ k).log2 = x.log2 + k := by
  induction k with
  | zero => simp
  | succ k ih =>
    rw [Nat.pow_succ, ← Nat.mul_assoc, Nat.mul_comm _ 2, Nat.log2_two_mul (Nat.mul_ne_zero hx (Nat.ne_of_gt (Nat.two_pow_pos k))), ih]; omega
theorem cut_exact (s : Bool) (K d : Nat) (hK : K ≠ 0) : Toward.even.cut s (K * 2 ^ d) d = K := by
  have h1 : min d ((K * 2 ^ d).log2 + 2) = d := by rw [log2_mul_pow K d hK]; omega
  unfold Toward.cut
  simp only [h1, Nat.shiftLeft_eq, Nat.one_mul]
  rw [Nat.mul_div_cancel _ (Nat.two_pow_pos d), Nat.mul_mod_left]
  have hp := Nat.two_pow_pos d
  simp
/-- the kept figure of a rung, and its place above the least -/
def kp (r : Nat) : Nat := if r < 2 ^ 52 then r else 2 ^ 52 + r % 2 ^ 52
def ql (r : Nat) : Nat := r / 2 ^ 52 - 1
theorem mg_kp (r : Nat) : mg r = kp r * 2 ^ ql r := by
  unfold mg kp ql
  split
  · rename_i h; rw [Nat.div_eq_of_lt h]; simp
  · rfl
theorem kp_ql (r : Nat) : ql r * 2 ^ 52 + kp r = r := by
  unfold kp ql; split <;> omega
theorem kp_log (r : Nat) (h : 2 ^ 52 ≤ r) : (kp r).log2 = 52 := by
  unfold kp; rw [if_neg (by omega)]
  rw [Nat.log2_eq_iff (by omega)]; omega
theorem kp_log_small (r : Nat) (h : r < 2 ^ 52) (h0 : r ≠ 0) : (kp r).log2 < 52 := by
  unfold kp; rw [if_pos h]
  exact (Nat.log2_lt h0).2 h
theorem kp_pos (r : Nat) (h : r ≠ 0) : kp r ≠ 0 := by unfold kp; split <;> omega
/-- the place of the last digit that is kept of a rung -/
theorem last_place (r : Nat) (h : r ≠ 0) : max (((kp r).log2 + ql r : Nat) - 52 : Int) 0 = (ql r : Int) := by
  by_cases c : 2 ^ 52 ≤ r
  · rw [kp_log r c]; omega
  · have := kp_log_small r (by omega) h
    have q0 : ql r = 0 := by unfold ql; omega
    rw [q0]; omega
/-- what is written of a number that is a double is that double -/
theorem nearest_exact (s : Bool) (mag a c r : Nat) (hr : r ≤ 2047 * 2 ^ 52) (h : mag * 2 ^ a = mg r * 2 ^ c) :
    double.nearest s mag ((a : Int) - c - 1074) = double.word s r := by
  have e2 : double.binade = 2 ^ 52 := by decide +kernel
  have e3 : double.infRung = 2047 * 2 ^ 52 := by decide +kernel
  have e4 : double.leastPlace = -1074 := by decide +kernel
  have e5 : (double.fractionBits : Int) = 52 := by decide +kernel
  have pa := Nat.two_pow_pos a
  have pc := Nat.two_pow_pos c
  unfold Format.nearest
  by_cases h0 : mag = 0
  · rw [if_pos h0]
    subst h0
    rw [Nat.zero_mul] at h
    have : mg r = 0 := by
      rcases Nat.mul_eq_zero.1 h.symm with h | h
      · exact h
      · omega
    have : r = 0 := by
      rcases Nat.eq_zero_or_pos r with h | h
      · exact h
      · have := mg_pos h; omega
    rw [this]
  · rw [if_neg h0]
    have hr0 : r ≠ 0 := by
      intro e; subst e; rw [mg_zero, Nat.zero_mul] at h
      rcases Nat.mul_eq_zero.1 h with h | h <;> omega
    rw [mg_kp, Nat.mul_assoc, ← Nat.pow_add] at h
    have hl : mag.log2 + a = (kp r).log2 + (ql r + c) := by
      have := congrArg Nat.log2 h
      rwa [log2_mul_pow mag a h0, log2_mul_pow (kp r) _ (kp_pos r hr0)] at this
    have hlast : max ((a : Int) - c - 1074 + mag.log2 - 52) (-1074) = (ql r : Int) - 1074 := by
      have := last_place r hr0; omega
    simp only [e2, e3, e4, e5, hlast]
    have hlp : ((ql r : Int) - 1074 - -1074).toNat = ql r := by omega
    rw [hlp]
    have hk : Toward.even.cut s (mag <<< ((a : Int) - c - 1074 - ((ql r : Int) - 1074)).toNat) ((ql r : Int) - 1074 - ((a : Int) - c - 1074)).toNat = kp r := by
      rw [Nat.shiftLeft_eq]
      have hK := kp_pos r hr0
      generalize kp r = K at *
      generalize ql r = q at *
      rcases Nat.le_total (q + c) a with hq | hq
      · have e1 : ((q : Int) - 1074 - ((a : Int) - c - 1074)).toNat = 0 := by omega
        have e6 : ((a : Int) - c - 1074 - ((q : Int) - 1074)).toNat = a - (q + c) := by omega
        rw [e1, e6]
        have : mag * 2 ^ (a - (q + c)) = K := by
          apply Nat.eq_of_mul_eq_mul_right (Nat.two_pow_pos (q + c))
          rw [Nat.mul_assoc, ← Nat.pow_add, show a - (q + c) + (q + c) = a by omega, h]
        rw [this]
        have := cut_exact s K 0 hK
        simpa using this
      · have e1 : ((q : Int) - 1074 - ((a : Int) - c - 1074)).toNat = q + c - a := by omega
        have e6 : ((a : Int) - c - 1074 - ((q : Int) - 1074)).toNat = 0 := by omega
        rw [e1, e6, Nat.pow_zero, Nat.mul_one]
        have : mag = K * 2 ^ (q + c - a) := by
          apply Nat.eq_of_mul_eq_mul_right pa
          rw [h, Nat.mul_assoc, ← Nat.pow_add, show q + c - a + a = q + c by omega]
        rw [this]
        exact cut_exact s K _ hK
    rw [hk, kp_ql, Nat.min_eq_left hr]
theorem word_bits (b : Nat) (hb : b < 2 ^ 64) : double.word (b / 2 ^ 63 == 1) (b % 2 ^ 63) = b := by
  have e1 : double.signWeight = 2 ^ 63 := by decide +kernel
  unfold Format.word
  rw [e1]
  by_cases c : b / 2 ^ 63 = 1
  · rw [if_pos (beq_iff_eq.2 c)]; omega
  · rw [if_neg (by simpa using c)]; omega
theorem word_true_pos (r : Nat) : double.word true r = 2 ^ 63 + r := by
  have e1 : double.signWeight = 2 ^ 63 := by decide +kernel
  unfold Format.word; rw [e1]; rfl
/-- from +0 on: a plain number, -0 turned to +0 -/
theorem zero_add (b : Nat) (hb : b < 2 ^ 64) (hf : b % 2 ^ 63 < 2047 * 2 ^ 52) : double.add 0 b = some (if b % 2 ^ 63 = 0 then 0 else b) := by
  obtain ⟨m, k, rb, vb, -⟩ := read_fin b hb hf
  have r0 : double.read 0 = .number false 0 (-1074) := by decide +kernel
  unfold Format.add
  rw [r0, rb]
  simp only [Datum.sum, signed_is]
  have hbase : min (-1074 : Int) ((k : Int) - 1074) = -1074 := by omega
  simp only [hbase]
  rw [show ((k : Int) - 1074 - -1074).toNat = k by omega]
  simp only [Option.map_some, Format.write]
  congr 1
  have hm : m * 2 ^ k = mg (b % 2 ^ 63) := vb.symm
  have hz : b % 2 ^ 63 = 0 ↔ mg (b % 2 ^ 63) = 0 := by
    constructor
    · intro h; rw [h, mg_zero]
    · intro h
      rcases Nat.eq_zero_or_pos (b % 2 ^ 63) with h' | h'
      · exact h'
      · have := mg_pos h'; omega
  have hN := fun s => nearest_exact s (mg (b % 2 ^ 63)) 0 0 (b % 2 ^ 63) (Nat.le_of_lt hf) rfl
  rw [show ((0 : Nat) : Int) - (0 : Nat) - 1074 = -1074 by rfl] at hN
  have hw := word_bits b hb
  generalize hr : b % 2 ^ 63 = r at *
  cases hs : (b / 2 ^ 63 == 1)
  · rw [hs] at hw
    simp only [Bool.false_eq_true, if_false, Int.natCast_zero, Int.zero_mul, Int.zero_add]
    rw [← Int.natCast_mul, hm]
    by_cases c : r = 0
    · rw [if_pos c]; subst c; rw [mg_zero]; decide +kernel
    · rw [if_neg c, if_neg (by omega)]
      have : decide (((mg r : Nat) : Int) < 0) = false := by simp
      rw [this, Int.natAbs_natCast, hN, hw]
  · rw [hs] at hw
    simp only [Bool.false_eq_true, if_false, if_true, Int.natCast_zero, Int.zero_mul, Int.zero_add]
    rw [Int.neg_mul, ← Int.natCast_mul, hm, Int.natAbs_neg, Int.natAbs_natCast]
    by_cases c : r = 0
    · rw [if_pos c]; subst c; rw [mg_zero]; decide +kernel
    · rw [if_neg c, if_neg (by omega)]
      have : decide (-((mg r : Nat) : Int) < 0) = true := by simp; omega
      rw [this, hN, hw]
/-- divided by one -/
theorem div_one (b : Nat) (hb : b < 2 ^ 64) (hf : b % 2 ^ 63 < 2047 * 2 ^ 52) : double.div b 4607182418800017408 = some b := by
  obtain ⟨m, k, rb, vb, hm53⟩ := read_fin b hb hf
  have r1 : double.read 4607182418800017408 = .number false (2 ^ 52) (-52) := by decide +kernel
  have e5 : double.fractionBits = 52 := by decide +kernel
  have l52 : (2 ^ 52 : Nat).log2 = 52 := by decide +kernel
  unfold Format.div
  rw [r1, rb, e5]
  simp only [Datum.quotient, l52]
  rw [if_neg (by decide)]
  simp only [Option.map_some, Format.write]
  congr 1
  rw [Bool.xor_false]
  have hw := word_bits b hb
  -- m is below 2 ^ 53 or a multiple: its log2 + k is bounded by the rung's
  have hml : 52 ≤ 52 + 2 + 52 - m.log2 ∨ m = 0 := by
    by_cases h0 : m = 0
    · exact .inr h0
    · left
      have : m.log2 < 53 := (Nat.log2_lt h0).2 hm53
      omega
  rcases hml with hml | hml
  · generalize 52 + 2 + 52 - m.log2 = M at *
    have e : m <<< M = m * 2 ^ (M - 52) * 2 ^ 52 := by rw [Nat.shiftLeft_eq, Nat.mul_assoc, ← Nat.pow_add]; congr 2; omega
    rw [e, Nat.mul_div_cancel _ (Nat.two_pow_pos 52), Nat.mul_mod_left]
    simp only [bne_self_eq_false, Bool.toNat_false, Nat.add_zero]
    have := nearest_exact (b / 2 ^ 63 == 1) (2 * (m * 2 ^ (M - 52))) k (M - 52 + 1) (b % 2 ^ 63) (Nat.le_of_lt hf) (by
      rw [vb, Nat.pow_succ]
      generalize 2 ^ (M - 52) = X
      generalize 2 ^ k = Y
      rw [Nat.mul_comm X 2, Nat.mul_assoc, Nat.mul_assoc, Nat.mul_left_comm m X Y, Nat.mul_left_comm (m * Y) 2 X, Nat.mul_comm (m * Y) X])
    rw [show ((k : Int) - 1074 - -52 - (M : Int) - 1) = (k : Int) - ((M - 52 + 1 : Nat) : Int) - 1074 by omega, this, hw]
  · subst hml
    rw [Nat.zero_mul] at vb
    have : b % 2 ^ 63 = 0 := by
      rcases Nat.eq_zero_or_pos (b % 2 ^ 63) with h' | h'
      · exact h'
      · have := mg_pos h'; omega
    rw [this] at hw
    simp [Format.nearest, hw]
/-- a double's place in the order -/
def rk (b : Nat) : Nat := if nanB b then 0 else if b / 2 ^ 63 = 1 then 2 ^ 63 - b % 2 ^ 63 else 2 ^ 63 + 1 + b % 2 ^ 63
/-- the order of doubles -/
def cf (a b : Nat) : Int := if rk a < rk b then -1 else if rk b < rk a then 1 else 0
theorem compare_lt_beq (x y : Int) : (some (compare x y) == some Ordering.lt) = decide (x < y) := by
  rcases Int.lt_trichotomy x y with h | h | h
  · rw [Int.compare_eq_lt.2 h]; simp [h]
  · rw [Int.compare_eq_eq.2 h]; subst h; simp
  · rw [Int.compare_eq_gt.2 h]
    have : ¬ x < y := by omega
    simp [this]
theorem compare_gt_beq (x y : Int) : (some (compare x y) == some Ordering.gt) = decide (y < x) := by
  rcases Int.lt_trichotomy x y with h | h | h
  · rw [Int.compare_eq_lt.2 h]
    have : ¬ y < x := by omega
    simp [this]
  · rw [Int.compare_eq_eq.2 h]; subst h; simp
  · rw [Int.compare_eq_gt.2 h]; simp [h]
theorem compare_eq_beq (x y : Int) : (some (compare x y) == some Ordering.eq) = decide (x = y) := by
  rcases Int.lt_trichotomy x y with h | h | h
  · rw [Int.compare_eq_lt.2 h]
    have : ¬ x = y := by omega
    simp [this]
  · rw [Int.compare_eq_eq.2 h]; subst h; simp
  · rw [Int.compare_eq_gt.2 h]
    have : ¬ x = y := by omega
    simp [this]
theorem rk_nan {b : Nat} (h : nanB b = true) : rk b = 0 := by unfold rk; rw [if_pos h]
theorem rk_num {b : Nat} (h : nanB b = false) : rk b = if b / 2 ^ 63 = 1 then 2 ^ 63 - b % 2 ^ 63 else 2 ^ 63 + 1 + b % 2 ^ 63 := by
  unfold rk; rw [h]; simp only [Bool.false_eq_true, if_false]
theorem rk_pos {b : Nat} (h : nanB b = false) : 0 < rk b := by
  rw [rk_num h]
  have : b % 2 ^ 63 < 2 ^ 63 := Nat.mod_lt _ (by decide)
  generalize b % 2 ^ 63 = r at *
  split <;> omega
theorem rk_le (b : Nat) : rk b < 2 ^ 64 := by
  cases h : nanB b
  · rw [rk_num h]
    simp only [nanB, decide_eq_false_iff_not] at h
    generalize b % 2 ^ 63 = r at *
    split <;> omega
  · rw [rk_nan h]; decide
/-- the order of values is the order of ranks, but for the two zeros -/
theorem num_lt_rk (a b : Nat) (ha : a < 2 ^ 64) (hb : b < 2 ^ 64) (na : nanB a = false) (nb : nanB b = false) (hz : ¬ (a % 2 ^ 63 = 0 ∧ b % 2 ^ 63 = 0)) : num a < num b ↔ rk a < rk b := by
  have r1 : a % 2 ^ 63 < b % 2 ^ 63 → mg (a % 2 ^ 63) < mg (b % 2 ^ 63) := mg_mono
  have r2 : b % 2 ^ 63 < a % 2 ^ 63 → mg (b % 2 ^ 63) < mg (a % 2 ^ 63) := mg_mono
  have r3 : a % 2 ^ 63 = b % 2 ^ 63 → mg (b % 2 ^ 63) = mg (a % 2 ^ 63) := fun h => by rw [h]
  have r4 : 0 < a % 2 ^ 63 → 0 < mg (a % 2 ^ 63) := mg_pos
  have r5 : 0 < b % 2 ^ 63 → 0 < mg (b % 2 ^ 63) := mg_pos
  rw [rk_num na, rk_num nb]
  unfold num
  generalize mg (a % 2 ^ 63) = A at *
  generalize mg (b % 2 ^ 63) = B at *
  by_cases c : a / 2 ^ 63 = 1 <;> by_cases d : b / 2 ^ 63 = 1
  · rw [if_pos c, if_pos d, if_pos c, if_pos d]; omega
  · rw [if_pos c, if_neg d, if_pos c, if_neg d]; omega
  · rw [if_neg c, if_pos d, if_neg c, if_pos d]; omega
  · rw [if_neg c, if_neg d, if_neg c, if_neg d]; omega
theorem num_zero {a : Nat} (h : a % 2 ^ 63 = 0) : num a = 0 := by unfold num; rw [h, mg_zero]; simp
theorem num_eq_zero {a : Nat} (h : num a = 0) : a % 2 ^ 63 = 0 := by
  rcases Nat.eq_zero_or_pos (a % 2 ^ 63) with h' | h'
  · exact h'
  · have := mg_pos h'
    unfold num at h
    generalize mg (a % 2 ^ 63) = A at *
    split at h <;> omega
/-- equal in rank: both NaNs, or one word -/
theorem rk_inj {a b : Nat} (ha : a < 2 ^ 64) (hb : b < 2 ^ 64) (h : rk a = rk b) : a = b ∨ (nanB a = true ∧ nanB b = true) := by
  cases na : nanB a <;> cases nb : nanB b
  · left
    rw [rk_num na, rk_num nb] at h
    split at h <;> split at h <;> omega
  · rw [rk_nan nb] at h; have := rk_pos na; omega
  · rw [rk_nan na] at h; have := rk_pos nb; omega
  · exact .inr ⟨rfl, rfl⟩
theorem lt_is (a b : Nat) (ha : a < 2 ^ 64) (hb : b < 2 ^ 64) : (double.order a b == some .lt) = (!nanB a && !nanB b && decide (num a < num b)) := by
  cases na : nanB a <;> cases nb : nanB b <;> simp only [Bool.not_false, Bool.not_true, Bool.true_and, Bool.false_and]
  · rw [order_num a b ha hb na nb, compare_lt_beq]
  all_goals (rw [order_nan a b ha hb (by simp [na, nb])]; rfl)
theorem gt_is (a b : Nat) (ha : a < 2 ^ 64) (hb : b < 2 ^ 64) : (double.order a b == some .gt) = (!nanB a && !nanB b && decide (num b < num a)) := by
  cases na : nanB a <;> cases nb : nanB b <;> simp only [Bool.not_false, Bool.not_true, Bool.true_and, Bool.false_and]
  · rw [order_num a b ha hb na nb, compare_gt_beq]
  all_goals (rw [order_nan a b ha hb (by simp [na, nb])]; rfl)
theorem eq_is (a b : Nat) (ha : a < 2 ^ 64) (hb : b < 2 ^ 64) : (double.order a b == some .eq) = (!nanB a && !nanB b && decide (num a = num b)) := by
  cases na : nanB a <;> cases nb : nanB b <;> simp only [Bool.not_false, Bool.not_true, Bool.true_and, Bool.false_and]
  · rw [order_num a b ha hb na nb, compare_eq_beq]
  all_goals (rw [order_nan a b ha hb (by simp [na, nb])]; rfl)
theorem ne_self (a : Nat) (ha : a < 2 ^ 64) : (double.order a a != some .eq) = nanB a := by
  have := eq_is a a ha ha
  unfold bne
  rw [this]; cases nanB a <;> simp
theorem eq_zero (a : Nat) (ha : a < 2 ^ 64) : (double.order a 0 == some .eq) = decide (a % 2 ^ 63 = 0) := by
  rw [eq_is a 0 ha (by decide)]
  have n0 : nanB 0 = false := by decide +kernel
  have z0 : num 0 = 0 := by decide +kernel
  rw [n0, z0]
  by_cases c : a % 2 ^ 63 = 0
  · have : nanB a = false := by unfold nanB; rw [c]; decide +kernel
    rw [this, num_zero c]; simp [c]
  · have : num a ≠ 0 := fun e => c (num_eq_zero e)
    simp [c, this]
theorem cf_self (a : Nat) : cf a a = 0 := by unfold cf; simp
theorem cf_swap (a b : Nat) : cf b a = -cf a b := by unfold cf; repeat' split <;> omega
theorem cf_neg (a b : Nat) : decide (cf a b < 0) = decide (rk a < rk b) := by
  unfold cf; split
  · rename_i h; simp [h]
  · rename_i h; split <;> simp [h]
theorem cf_range (a b : Nat) : cf a b = -1 ∨ cf a b = 0 ∨ cf a b = 1 := by unfold cf; split; · exact .inl rfl
                                                                           split; · exact .inr (.inr rfl)
                                                                           exact .inr (.inl rfl)
/-- a NaN of one form -/
def cano : Nat := 9221120237041090561
/-- plain: neither NaN nor infinite -/
def plainB (b : Nat) : Bool := decide (b % 2 ^ 63 < 2047 * 2 ^ 52)
def okB (b : Nat) : Prop := b < 2 ^ 64 ∧ nanB b = false
theorem plain_nan {b : Nat} (h : plainB b = true) : nanB b = false := by
  simp only [plainB, decide_eq_true_eq] at h
  simp only [nanB, decide_eq_false_iff_not]; omega
theorem word_ok (s : Bool) (r : Nat) (h : r ≤ 2047 * 2 ^ 52) : okB (double.word s r) := by
  have e1 : double.signWeight = 2 ^ 63 := by decide +kernel
  unfold Format.word okB nanB
  rw [e1]
  cases s
  · simp only [Bool.false_eq_true, if_false, decide_eq_false_iff_not]; omega
  · simp only [if_true, decide_eq_false_iff_not]; omega
theorem nearest_ok (s : Bool) (m : Nat) (p : Int) : okB (double.nearest s m p) := by
  have e3 : double.infRung = 2047 * 2 ^ 52 := by decide +kernel
  unfold Format.nearest
  split
  · exact word_ok s 0 (by decide)
  · exact word_ok s _ (by rw [e3]; exact Nat.min_le_right _ _)
theorem write_inf_ok (s : Bool) : okB (double.write (.infinity s)) := by
  have e3 : double.infRung = 2047 * 2 ^ 52 := by decide +kernel
  exact word_ok s _ (by rw [e3]; exact Nat.le_refl _)
theorem read_ok {b : Nat} (h : okB b) : (∃ s, double.read b = .infinity s) ∨ ∃ s m i, double.read b = .number s m i := by
  obtain ⟨h1, h2⟩ := h
  simp only [nanB, decide_eq_false_iff_not] at h2
  rcases Nat.lt_or_eq_of_le (Nat.le_of_not_lt h2) with f | f
  · obtain ⟨m, k, r, -, -⟩ := read_fin b h1 f; exact .inr ⟨_, _, _, r⟩
  · exact .inl ⟨_, read_inf b h1 f⟩
theorem add_ok {a x : Nat} (ha : okB a) (hx : x < 2 ^ 64) (px : plainB x = true) : ∃ r, double.add a x = some r ∧ okB r := by
  simp only [plainB, decide_eq_true_eq] at px
  obtain ⟨m, k, rx, -, -⟩ := read_fin x hx px
  unfold Format.add
  rcases read_ok ha with ⟨s, ra⟩ | ⟨s, n, i, ra⟩
  · rw [ra, rx]; exact ⟨_, rfl, write_inf_ok s⟩
  · rw [ra, rx]; exact ⟨_, rfl, nearest_ok _ _ _⟩
theorem div_ok {a n : Nat} (ha : okB a) (s : Bool) (m : Nat) (i : Int) (hn : double.read n = .number s m i) (hm : m ≠ 0) : ∃ r, double.div a n = some r ∧ okB r := by
  unfold Format.div
  rcases read_ok ha with ⟨t, ra⟩ | ⟨t, k, j, ra⟩
  · rw [ra, hn]; exact ⟨_, rfl, write_inf_ok _⟩
  · rw [ra, hn]; simp only [Datum.quotient]; rw [if_neg hm]; exact ⟨_, rfl, nearest_ok _ _ _⟩
/-- one step of a sum -/
def plus (a x : Nat) : Nat := (double.add a x).getD 0
theorem plus_is {a x : Nat} (ha : okB a) (hx : x < 2 ^ 64) (px : plainB x = true) : double.add a x = some (plus a x) ∧ okB (plus a x) := by
  obtain ⟨r, h, o⟩ := add_ok ha hx px
  unfold plus; rw [h]; exact ⟨rfl, o⟩
def sumL (l : List Nat) : Nat := l.foldl plus 0
theorem zero_ok : okB 0 := ⟨by decide, by decide +kernel⟩
theorem sumL_ok (l : List Nat) (h : ∀ x ∈ l, x < 2 ^ 64 ∧ plainB x = true) : okB (sumL l) := by
  unfold sumL
  have : ∀ (l : List Nat) a, okB a → (∀ x ∈ l, x < 2 ^ 64 ∧ plainB x = true) → okB (l.foldl plus a) := by
    intro l
    induction l with
    | nil => intro a ha _; exact ha
    | cons y t ih =>
      intro a ha h
      exact ih _ (plus_is ha (h y (by simp)).1 (h y (by simp)).2).2 (fun x hx => h x (by simp [hx]))
  exact this l 0 zero_ok h
def dblN (n : Nat) : Nat := double.nearest false n 0
theorem word_false (r : Nat) : double.word false r = r := rfl
theorem dblN_read (n : Nat) (h0 : n ≠ 0) (h : n < 2 ^ 53) : ∃ m i, double.read (dblN n) = .number false m i ∧ m ≠ 0 := by
  have key : ∃ r, r ≤ 2047 * 2 ^ 52 ∧ r ≠ 0 ∧ r < 2047 * 2 ^ 52 ∧ n * 2 ^ 1074 = mg r := by
    have hl : n.log2 < 53 := (Nat.log2_lt h0).2 h
    refine ⟨(n.log2 + 1022) * 2 ^ 52 + n * 2 ^ (52 - n.log2), ?_⟩
    have h1 : 2 ^ n.log2 ≤ n := Nat.log2_self_le h0
    have h2 : n < 2 ^ (n.log2 + 1) := Nat.lt_log2_self
    have h3 : 2 ^ 52 ≤ n * 2 ^ (52 - n.log2) := by
      have := Nat.mul_le_mul_right (2 ^ (52 - n.log2)) h1
      rwa [← Nat.pow_add, show n.log2 + (52 - n.log2) = 52 by omega] at this
    have h4 : n * 2 ^ (52 - n.log2) < 2 ^ 53 := by
      have := Nat.mul_lt_mul_of_pos_right h2 (Nat.two_pow_pos (52 - n.log2))
      rwa [← Nat.pow_add, show n.log2 + 1 + (52 - n.log2) = 53 by omega] at this
    have h5 : n * 2 ^ 1074 = n * 2 ^ (52 - n.log2) * 2 ^ (n.log2 + 1022) := by rw [Nat.mul_assoc, ← Nat.pow_add, show 52 - n.log2 + (n.log2 + 1022) = 1074 by omega]
    rw [h5]
    generalize n * 2 ^ (52 - n.log2) = X at *
    generalize n.log2 = L at *
    clear h5 h1 h2
    refine ⟨by omega, by omega, by omega, ?_⟩
    have q1 : ql ((L + 1022) * 2 ^ 52 + X) = L + 1022 := by unfold ql; omega
    have q2 : kp ((L + 1022) * 2 ^ 52 + X) = X := by unfold kp; rw [if_neg (by omega)]; omega
    rw [mg_kp, q1, q2]
  obtain ⟨r, h1, h2, h3, h4⟩ := key
  have := nearest_exact false n 1074 0 r h1 (by rw [h4]; simp)
  rw [show ((1074 : Nat) : Int) - (0 : Nat) - 1074 = 0 by omega, word_false] at this
  unfold dblN
  rw [this]
  obtain ⟨m, k, rr, rm, -⟩ := read_fin r (by omega) (by rw [Nat.mod_eq_of_lt (by omega)]; exact h3)
  rw [Nat.mod_eq_of_lt (by omega)] at rm
  refine ⟨m, _, by rw [rr, show (r / 2 ^ 63 == 1) = false by rw [Nat.div_eq_of_lt (by omega)]; rfl], ?_⟩
  intro e; subst e
  have := mg_pos (Nat.pos_of_ne_zero h2)
  omega
/-- the mean of plain numbers in their order -/
def meanL (l : List Nat) : Nat := (double.div (sumL l) (dblN l.length)).getD 0
theorem mean_is (l : List Nat) (h : ∀ x ∈ l, x < 2 ^ 64 ∧ plainB x = true) (h0 : l ≠ []) (hn : l.length < 2 ^ 53) :
    double.div (sumL l) (dblN l.length) = some (meanL l) ∧ okB (meanL l) := by
  obtain ⟨m, i, hr, hm⟩ := dblN_read l.length (by cases l <;> simp_all) hn
  obtain ⟨r, e, o⟩ := div_ok (sumL_ok l h) false m i hr hm
  unfold meanL; rw [e]; exact ⟨rfl, o⟩
theorem mean_one (b : Nat) (hb : b < 2 ^ 64) (hp : plainB b = true) : meanL [b] = if b % 2 ^ 63 = 0 then 0 else b := by
  have hp' := hp
  simp only [plainB, decide_eq_true_eq] at hp'
  have e1 : dblN 1 = 4607182418800017408 := by decide +kernel
  unfold meanL sumL plus
  simp only [List.foldl_cons, List.foldl_nil, List.length_singleton, e1]
  rw [zero_add b hb hp']
  simp only [Option.getD_some]
  split
  · decide +kernel
  · rw [div_one b hb hp']; rfl
/-- a NaN made the one form -/
def can (b : Nat) : Nat := if nanB b then cano else b
theorem can_rk (b : Nat) : rk (can b) = rk b := by
  unfold can; split
  · rename_i h; rw [rk_nan h]; decide +kernel
  · rfl
theorem can_lt {b : Nat} (h : b < 2 ^ 64) : can b < 2 ^ 64 := by unfold can; split; · decide
                                                                 exact h
theorem can_can (b : Nat) : can (can b) = can b := by
  unfold can
  cases h : nanB b
  · simp [h]
  · have : nanB cano = true := by decide +kernel
    simp [this]
theorem rk_can {a b : Nat} (ha : a < 2 ^ 64) (hb : b < 2 ^ 64) (h : rk a = rk b) : can a = can b := by
  rcases rk_inj ha hb h with h | ⟨h1, h2⟩
  · rw [h]
  · unfold can; rw [h1, h2]; rfl
/-- two lists of the same ranks: plain ones alike -/
theorem plain_eq : ∀ (l m : List Nat), (∀ x ∈ l, x < 2 ^ 64) → (∀ x ∈ m, x < 2 ^ 64) → l.map rk = m.map rk → l.filter plainB = m.filter plainB
  | [], [], _, _, _ => rfl
  | [], _ :: _, _, _, h => by simp at h
  | _ :: _, [], _, _, h => by simp at h
  | a :: l, b :: m, hl, hm, h => by
    simp only [List.map_cons, List.cons.injEq] at h
    have ih := plain_eq l m (fun x hx => hl x (by simp [hx])) (fun x hx => hm x (by simp [hx])) h.2
    rcases rk_inj (hl a (by simp)) (hm b (by simp)) h.1 with e | ⟨e1, e2⟩
    · rw [e, List.filter_cons, List.filter_cons, ih]
    · have p1 : plainB a = false := by
        cases p : plainB a
        · rfl
        · rw [plain_nan p] at e1; cases e1
      have p2 : plainB b = false := by
        cases p : plainB b
        · rfl
        · rw [plain_nan p] at e2; cases e2
      rw [List.filter_cons, List.filter_cons, ih, p1, p2]; simp
/-- two sorted lists of the same ranks, in whatever row -/
theorem ranks_unique {l m : List Nat} (hl : l.Pairwise (· ≤ ·)) (hm : m.Pairwise (· ≤ ·)) (h : l.Perm m) : l = m :=
  h.eq_of_pairwise (fun _ _ _ _ => Nat.le_antisymm) hl hm
end Rk
end Go.Proofs.YtkodhaapllmdhaaDoor
