/- Several texts in one. -/
import Derived.Says
import Derived.Lib.TrailingZeros
import Derived.WalkKit
import Derived.WalkSmall
import Derived.StillTailTactics
import Derived.Lib.Hide
import Derived.Test.YtghbgfkkdknmnaaDoorProg
import Derived.Deep.QuietTactic
import Derived.BigQuiet
import Derived.Deep.RegionWith
import Derived.Shelf.Spec.TrailingZeros
namespace Go.Proofs.YtghbgfkkdknmnaaDoor
namespace Sets

/-- The i-th word of 64 bits. -/
def wd (S i : Nat) : Nat := S / 2 ^ (64 * i) % 2 ^ 64
/-- The bit of c in its word. -/
def bitN (c : Nat) : Nat := 2 ^ (c % 64)
def full : Nat := 2 ^ 256 - 1
def rangeN (f t : Nat) : Nat := if f ≤ t then 2 ^ (t + 1) - 2 ^ f else 0

theorem bitN_lt (c : Nat) : bitN c < 18446744073709551616 := Nat.pow_lt_pow_right (n := 64) (by decide : 1 < 2) (by omega)
theorem wd_lt (S i : Nat) : wd S i < 18446744073709551616 := Nat.mod_lt _ (by decide)
theorem testBit_wd (S i j : Nat) : (wd S i).testBit j = (decide (j < 64) && S.testBit (64 * i + j)) := by
  unfold wd
  rw [Nat.testBit_mod_two_pow, Nat.testBit_div_two_pow]
  rw [Nat.add_comm]
theorem wd_and (S T i : Nat) : wd S i &&& wd T i = wd (S &&& T) i := by
  apply Nat.eq_of_testBit_eq; intro j
  simp only [Nat.testBit_and, testBit_wd]
  cases decide (j < 64) <;> simp
theorem wd_or (S T i : Nat) : wd S i ||| wd T i = wd (S ||| T) i := by
  apply Nat.eq_of_testBit_eq; intro j
  simp only [Nat.testBit_or, testBit_wd]
  cases decide (j < 64) <;> simp
theorem testBit_full (j : Nat) : full.testBit j = decide (j < 256) := by
  unfold full; exact Nat.testBit_two_pow_sub_one 256 j
theorem wd_not (S i : Nat) (hi : i < 4) : 18446744073709551615 - wd S i = wd (full ^^^ S) i := by
  apply Nat.eq_of_testBit_eq; intro j
  have h := wd_lt S i
  rw [show (18446744073709551615 : Nat) - wd S i = 2 ^ 64 - (wd S i + 1) from by omega, Nat.testBit_two_pow_sub_succ (by omega)]
  simp only [testBit_wd, Nat.testBit_xor, testBit_full]
  by_cases hj : j < 64
  · have h2 : 64 * i + j < 256 := by omega
    simp [hj, h2]
  · simp [hj]
theorem ext_words {S T : Nat} (hS : S < 2 ^ 256) (hT : T < 2 ^ 256) (h : ∀ i, i < 4 → wd S i = wd T i) : S = T := by
  apply Nat.eq_of_testBit_eq; intro j
  by_cases hj : j < 256
  · have := congrArg (fun x => x.testBit (j % 64)) (h (j / 64) (by omega))
    simp only [testBit_wd] at this
    have e : 64 * (j / 64) + j % 64 = j := by omega
    have l : j % 64 < 64 := by omega
    rw [e] at this
    simpa [l] using this
  · rw [Nat.testBit_lt_two_pow (Nat.lt_of_lt_of_le hS (Nat.pow_le_pow_right (by decide) (by omega))), Nat.testBit_lt_two_pow (Nat.lt_of_lt_of_le hT (Nat.pow_le_pow_right (by decide) (by omega)))]
theorem of_words (a b c d : Nat) (ha : a < 2 ^ 64) (hb : b < 2 ^ 64) (hc : c < 2 ^ 64) (hd : d < 2 ^ 64) :
    ∃ S, S < 2 ^ 256 ∧ wd S 0 = a ∧ wd S 1 = b ∧ wd S 2 = c ∧ wd S 3 = d := by
  refine ⟨a + 2 ^ 64 * b + 2 ^ 128 * c + 2 ^ 192 * d, ?_, ?_, ?_, ?_, ?_⟩ <;> (try unfold wd) <;> simp only [Nat.reducePow, Nat.reduceMul] at * <;> omega

theorem testBit_rangeN (f t c : Nat) : (rangeN f t).testBit c = (decide (f ≤ c) && decide (c ≤ t)) := by
  unfold rangeN
  split
  · rename_i h
    have e : 2 ^ (t + 1) - 2 ^ f = 2 ^ f * (2 ^ (t + 1 - f) - 1) := by
      rw [Nat.mul_sub, ← Nat.pow_add, show f + (t + 1 - f) = t + 1 from by omega, Nat.mul_one]
    rw [e, Nat.testBit_two_pow_mul, Nat.testBit_two_pow_sub_one]
    by_cases hf : f ≤ c
    · simp [hf]; omega
    · simp [hf]
  · simp; omega
theorem rangeN_lt (f t : Nat) (h : t < 256) : rangeN f t < 2 ^ 256 := by
  apply Nat.lt_pow_two_of_testBit
  intro j hj
  rw [testBit_rangeN]
  simp; omega
def partN (f k : Nat) : Nat := 2 ^ (f + k) - 2 ^ f
theorem testBit_partN (f k c : Nat) : (partN f k).testBit c = (decide (f ≤ c) && decide (c < f + k)) := by
  unfold partN
  have e : 2 ^ (f + k) - 2 ^ f = 2 ^ f * (2 ^ k - 1) := by rw [Nat.mul_sub, ← Nat.pow_add, Nat.mul_one]
  rw [e, Nat.testBit_two_pow_mul, Nat.testBit_two_pow_sub_one]
  by_cases hf : f ≤ c
  · simp [hf]; omega
  · simp [hf]
theorem partN_succ (f k : Nat) : partN f (k + 1) = partN f k ||| 2 ^ (f + k) := by
  apply Nat.eq_of_testBit_eq; intro c
  rw [Nat.testBit_or, testBit_partN, testBit_partN, Nat.testBit_two_pow]
  by_cases hf : f ≤ c
  · by_cases h2 : f + k = c
    · simp [hf, h2]; omega
    · simp [hf, h2]; omega
  · have : ¬ (f + k = c) := by omega
    simp [hf, this]
theorem partN_zero (f : Nat) : partN f 0 = 0 := by simp [partN]
theorem partN_range (f t : Nat) (h : f ≤ t) : partN f (t + 1 - f) = rangeN f t := by
  unfold partN rangeN; rw [if_pos h, show f + (t + 1 - f) = t + 1 from by omega]
def ofN (l : List Nat) : Nat := l.foldl (fun S c => S ||| 2 ^ c) 0
theorem ofN_snoc (l : List Nat) (c : Nat) : ofN (l ++ [c]) = ofN l ||| 2 ^ c := by simp [ofN]
theorem ofN_take (l : List Nat) (k : Nat) (h : k < l.length) : ofN (l.take (k + 1)) = ofN (l.take k) ||| 2 ^ (l.getD k 0) := by
  rw [List.take_succ_eq_append_getElem h, ofN_snoc]
  simp [List.getD, List.getElem?_eq_getElem h]
theorem wd_zero (i : Nat) : wd 0 i = 0 := by simp [wd]
theorem lt_and {S T : Nat} (hS : S < 2 ^ 256) : S &&& T < 2 ^ 256 := Nat.lt_of_le_of_lt Nat.and_le_left hS
theorem lt_or {S T : Nat} (hS : S < 2 ^ 256) (hT : T < 2 ^ 256) : S ||| T < 2 ^ 256 := Nat.or_lt_two_pow hS hT
theorem lt_xor {S T : Nat} (hS : S < 2 ^ 256) (hT : T < 2 ^ 256) : S ^^^ T < 2 ^ 256 := Nat.xor_lt_two_pow hS hT
theorem full_lt : full < 2 ^ 256 := by decide +kernel
theorem bit_le {c : Nat} (h : c < 256) : 2 ^ c < 2 ^ 256 := Nat.pow_lt_pow_right (by decide) h
theorem wd_bit (S c : Nat) (i : Nat) : wd (S ||| 2 ^ c) i = if i = c / 64 then wd S i ||| bitN c else wd S i := by
  unfold bitN
  rw [← wd_or]
  split
  · rename_i h
    subst h
    congr 1
    apply Nat.eq_of_testBit_eq; intro j
    rw [testBit_wd, Nat.testBit_two_pow, Nat.testBit_two_pow]
    by_cases hj : j < 64
    · simp [hj]; omega
    · simp [hj]; omega
  · rename_i h
    apply Nat.eq_of_testBit_eq; intro j
    rw [Nat.testBit_or, testBit_wd, testBit_wd, Nat.testBit_two_pow]
    by_cases hj : j < 64
    · have : ¬ (c = 64 * i + j) := by omega
      simp [hj, this]
    · simp [hj]
theorem and_bit_zero (S c : Nat) : wd S (c / 64) &&& bitN c = 0 ↔ S.testBit c = false := by
  unfold bitN
  have e : 64 * (c / 64) + c % 64 = c := by omega
  have l : c % 64 < 64 := by omega
  have h := testBit_wd S (c / 64) (c % 64)
  rw [e] at h
  simp only [l, decide_true, Bool.true_and] at h
  rw [← h]
  constructor
  · intro hz
    have := congrArg (fun x => x.testBit (c % 64)) hz
    simpa [Nat.testBit_and, Nat.testBit_two_pow] using this
  · intro hz
    apply Nat.eq_of_testBit_eq; intro j
    rw [Nat.testBit_and, Nat.testBit_two_pow, Nat.zero_testBit]
    by_cases hj : c % 64 = j
    · subst hj; simp [hz]
    · simp [hj]
theorem testBit_ge {S : Nat} (h : S < 2 ^ 256) {j : Nat} (hj : 256 ≤ j) : S.testBit j = false :=
  Nat.testBit_lt_two_pow (Nat.lt_of_lt_of_le h (Nat.pow_le_pow_right (by decide) hj))
theorem not_not_set (A : Nat) : full ^^^ (full ^^^ A) = A := by rw [← Nat.xor_assoc, Nat.xor_self, Nat.zero_xor]
theorem de_morgan (A B : Nat) (hA : A < 2 ^ 256) (hB : B < 2 ^ 256) : full ^^^ (A &&& B) = (full ^^^ A) ||| (full ^^^ B) := by
  apply Nat.eq_of_testBit_eq; intro j
  simp only [Nat.testBit_xor, Nat.testBit_and, Nat.testBit_or, testBit_full]
  by_cases hj : j < 256
  · cases A.testBit j <;> cases B.testBit j <;> simp [hj]
  · have ha := testBit_ge hA (Nat.le_of_not_lt hj)
    have hb := testBit_ge hB (Nat.le_of_not_lt hj)
    simp [hj, ha, hb]
theorem and_not_set (A : Nat) (hA : A < 2 ^ 256) : A &&& (full ^^^ A) = 0 := by
  apply Nat.eq_of_testBit_eq; intro j
  simp only [Nat.testBit_xor, Nat.testBit_and, testBit_full, Nat.zero_testBit]
  by_cases hj : j < 256
  · cases A.testBit j <;> simp [hj]
  · simp [testBit_ge hA (Nat.le_of_not_lt hj)]
theorem or_not_set (A : Nat) (hA : A < 2 ^ 256) : A ||| (full ^^^ A) = full := by
  apply Nat.eq_of_testBit_eq; intro j
  simp only [Nat.testBit_xor, Nat.testBit_or, testBit_full]
  by_cases hj : j < 256
  · cases A.testBit j <;> simp [hj]
  · simp [testBit_ge hA (Nat.le_of_not_lt hj), hj]
theorem and_full (A : Nat) (hA : A < 2 ^ 256) : A &&& full = A := by
  apply Nat.eq_of_testBit_eq; intro j
  simp only [Nat.testBit_and, testBit_full]
  by_cases hj : j < 256
  · simp [hj]
  · simp [testBit_ge hA (Nat.le_of_not_lt hj), hj]
end Sets
end Go.Proofs.YtghbgfkkdknmnaaDoor
namespace Go.Proofs.YtghbgfkkdknmnaaDoor
namespace Sets

/-- The bits of x below n. -/
def pc : Nat → Nat → Nat
  | 0, _ => 0
  | n + 1, x => x % 2 + pc n (x / 2)

theorem pc_le : ∀ n x, pc n x ≤ n
  | 0, _ => Nat.le_refl _
  | n + 1, x => by have := pc_le n (x / 2); simp only [pc]; omega
theorem pc_add : ∀ m n x, pc (m + n) x = pc m x + pc n (x / 2 ^ m)
  | 0, n, x => by simp [pc]
  | m + 1, n, x => by
    rw [show m + 1 + n = (m + n) + 1 from by omega]
    simp only [pc]
    rw [pc_add m n (x / 2), Nat.div_div_eq_div_mul, show 2 * 2 ^ m = 2 ^ (m + 1) from by rw [Nat.pow_succ]; omega]
    omega
theorem pc_mod : ∀ m x, pc m (x % 2 ^ m) = pc m x
  | 0, x => by simp [pc]
  | m + 1, x => by
    simp only [pc]
    have e1 : x % 2 ^ (m + 1) % 2 = x % 2 := Nat.mod_mod_of_dvd _ ⟨2 ^ m, by rw [Nat.pow_succ]; omega⟩
    have e2 : x % 2 ^ (m + 1) / 2 = (x / 2) % 2 ^ m := by
      rw [Nat.pow_succ, Nat.mul_comm, Nat.mod_mul_right_div_self]
    rw [e1, e2, pc_mod m]
theorem pc_succ (k x : Nat) : pc (k + 1) x = pc k x + (x.testBit k).toNat := by
  rw [pc_add k 1 x]
  simp only [pc]
  rw [Nat.testBit_eq_decide_div_mod_eq]
  by_cases h : x / 2 ^ k % 2 = 1
  · simp [h]
  · simp [h]; omega
theorem pc_and_or : ∀ n x y, pc n (x &&& y) + pc n (x ||| y) = pc n x + pc n y
  | 0, _, _ => rfl
  | n + 1, x, y => by
    simp only [pc]
    have h1 : (x &&& y) / 2 = x / 2 &&& y / 2 := by simpa using (Nat.and_div_two_pow (a := x) (b := y) (n := 1))
    have h2 : (x ||| y) / 2 = x / 2 ||| y / 2 := by simpa using (Nat.or_div_two_pow (a := x) (b := y) (n := 1))
    have h3 : (x &&& y) % 2 = x % 2 &&& y % 2 := by simpa using (Nat.and_mod_two_pow (a := x) (b := y) (n := 1))
    have h4 : (x ||| y) % 2 = x % 2 ||| y % 2 := by simpa using (Nat.or_mod_two_pow (a := x) (b := y) (n := 1))
    have h5 : ∀ a : Nat, a < 2 → ∀ b : Nat, b < 2 → (a &&& b) + (a ||| b) = a + b := by decide
    have := h5 (x % 2) (by omega) (y % 2) (by omega)
    have := pc_and_or n (x / 2) (y / 2)
    rw [h1, h2, h3, h4]; omega

/-- A function of bytes, byte by byte, over the n least bytes of x. -/
def bs (f : Nat → Nat) : Nat → Nat → Nat
  | 0, _ => 0
  | n + 1, x => f (x % 256) + 256 * bs f n (x / 256)
def rep (m : Nat) : Nat → Nat
  | 0 => 0
  | n + 1 => m + 256 * rep m n
theorem and_rep (m : Nat) (hm : m < 256) : ∀ n x, x &&& rep m n = bs (fun b => b &&& m) n x
  | 0, x => by simp [rep, bs]
  | n + 1, x => by
    simp only [rep, bs]
    rw [← and_rep m hm n (x / 256)]
    have e := Nat.mod_add_div (x &&& (m + 256 * rep m n)) 256
    have h1 : (x &&& (m + 256 * rep m n)) % 256 = x % 256 &&& m := by
      have := (Nat.and_mod_two_pow (a := x) (b := m + 256 * rep m n) (n := 8))
      simp only [Nat.reducePow] at this
      rw [this]; congr 1; omega
    have h2 : (x &&& (m + 256 * rep m n)) / 256 = x / 256 &&& rep m n := by
      have := (Nat.and_div_two_pow (a := x) (b := m + 256 * rep m n) (n := 8))
      simp only [Nat.reducePow] at this
      rw [this]; congr 1; omega
    rw [← e, h1, h2]
theorem bs_congr {f g : Nat → Nat} (h : ∀ b, b < 256 → f b = g b) : ∀ n x, bs f n x = bs g n x
  | 0, _ => rfl
  | n + 1, x => by simp only [bs]; rw [h _ (by omega), bs_congr h n]
theorem bs_add (f g : Nat → Nat) : ∀ n x, bs f n x + bs g n x = bs (fun b => f b + g b) n x
  | 0, _ => rfl
  | n + 1, x => by simp only [bs]; rw [← bs_add f g n]; omega
theorem bs_bs (f g : Nat → Nat) (hg : ∀ b, b < 256 → g b < 256) : ∀ n x, bs f n (bs g n x) = bs (fun b => f (g b)) n x
  | 0, _ => rfl
  | n + 1, x => by
    simp only [bs]
    have := hg (x % 256) (by omega)
    rw [show (g (x % 256) + 256 * bs g n (x / 256)) % 256 = g (x % 256) from by omega, show (g (x % 256) + 256 * bs g n (x / 256)) / 256 = bs g n (x / 256) from by omega, bs_bs f g hg n]
/-- x shifted right by k < 8, masked so that nothing of the next byte is left. -/
theorem shift_bs (d m : Nat) (hd : d = 2 ∨ d = 4) (hm : ∀ b, b < 256 → ∀ c, c < d → (b / d + (256 / d) * c) &&& m = b / d &&& m) :
    ∀ n x, bs (fun b => b &&& m) n (x / d) = bs (fun b => b / d &&& m) n x
  | 0, _ => rfl
  | n + 1, x => by
    simp only [bs]
    have e1 : x / d % 256 = (x % 256) / d + (256 / d) * ((x / 256) % d) := by rcases hd with rfl | rfl <;> omega
    have e2 : x / d / 256 = x / 256 / d := by rcases hd with rfl | rfl <;> omega
    rw [e1, hm _ (by omega) _ (by rcases hd with rfl | rfl <;> omega), e2, shift_bs d m hd hm n]

def g1 (b : Nat) : Nat := (b / 2 &&& 85) + (b &&& 85)
def g2 (b : Nat) : Nat := (b / 4 &&& 51) + (b &&& 51)
def g3 (b : Nat) : Nat := b / 16 + b % 16
theorem g1_lt : ∀ b, b < 256 → g1 b < 256 := by decide +kernel
theorem g2_lt : ∀ b, b < 256 → g2 (g1 b) < 256 := by decide +kernel
theorem g21_nib : ∀ b, b < 256 → g2 (g1 b) % 16 ≤ 4 ∧ g2 (g1 b) / 16 ≤ 4 := by decide +kernel
theorem g321 : ∀ b, b < 256 → g3 (g2 (g1 b)) = pc 8 b := by decide +kernel
theorem rep85 : rep 85 8 = 6148914691236517205 := by decide
theorem rep51 : rep 51 8 = 3689348814741910323 := by decide
theorem rep15 : rep 15 8 = 1085102592571150095 := by decide
theorem step1 (x : Nat) : (x / 2 &&& 6148914691236517205) + (x &&& 6148914691236517205) = bs g1 8 x := by
  rw [← rep85, and_rep _ (by decide), and_rep _ (by decide), shift_bs 2 85 (.inl rfl) (by decide +kernel), bs_add]; rfl
theorem step2 (x : Nat) : (x / 4 &&& 3689348814741910323) + (x &&& 3689348814741910323) = bs g2 8 x := by
  rw [← rep51, and_rep _ (by decide), and_rep _ (by decide), shift_bs 4 51 (.inr rfl) (by decide +kernel), bs_add]; rfl
theorem step3 : ∀ n x, bs (fun b => b &&& 15) n (bs (fun b => g2 (g1 b)) n x / 16 + bs (fun b => g2 (g1 b)) n x) = bs (pc 8) n x
  | 0, _ => rfl
  | n + 1, x => by
    simp only [bs]
    have h1 := g21_nib (x % 256) (by omega)
    have h3 := g321 (x % 256) (by omega)
    unfold g3 at h3
    generalize g2 (g1 (x % 256)) = b at *
    have hn : bs (fun b => g2 (g1 b)) n (x / 256) % 16 ≤ 4 := by
      cases n with
      | zero => simp [bs]
      | succ n => simp only [bs]; have := (g21_nib (x / 256 % 256) (by omega)).1; omega
    have ih := step3 n (x / 256)
    generalize bs (fun b => g2 (g1 b)) n (x / 256) = q at *
    have e1 : ((b + 256 * q) / 16 + (b + 256 * q)) / 256 = q / 16 + q := by omega
    have e2 : ∀ y : Nat, y % 256 &&& 15 = y % 16 := by
      intro y
      rw [show (15 : Nat) = 2 ^ 4 - 1 from rfl, Nat.and_two_pow_sub_one_eq_mod]; omega
    rw [e1, e2, ih]
    congr 1
    omega
theorem bs8 (x : Nat) : ∃ p0 p1 p2 p3 p4 p5 p6 p7, p0 ≤ 8 ∧ p1 ≤ 8 ∧ p2 ≤ 8 ∧ p3 ≤ 8 ∧ p4 ≤ 8 ∧ p5 ≤ 8 ∧ p6 ≤ 8 ∧ p7 ≤ 8 ∧
    bs (pc 8) 8 x = p0 + 256 * (p1 + 256 * (p2 + 256 * (p3 + 256 * (p4 + 256 * (p5 + 256 * (p6 + 256 * p7)))))) ∧ pc 64 x = p0 + p1 + p2 + p3 + p4 + p5 + p6 + p7 := by
  refine ⟨pc 8 (x % 256), pc 8 (x / 256 % 256), pc 8 (x / 256 / 256 % 256), pc 8 (x / 256 / 256 / 256 % 256), pc 8 (x / 256 / 256 / 256 / 256 % 256), pc 8 (x / 256 / 256 / 256 / 256 / 256 % 256), pc 8 (x / 256 / 256 / 256 / 256 / 256 / 256 % 256), pc 8 (x / 256 / 256 / 256 / 256 / 256 / 256 / 256 % 256),
    pc_le _ _, pc_le _ _, pc_le _ _, pc_le _ _, pc_le _ _, pc_le _ _, pc_le _ _, pc_le _ _, by simp only [bs]; omega, ?_⟩
  have m : ∀ y, pc 8 (y % 256) = pc 8 y := fun y => pc_mod 8 y
  have a : ∀ n y, pc (8 + n) y = pc 8 y + pc n (y / 256) := fun n y => pc_add 8 n y
  simp only [m]
  rw [show 64 = 8 + (8 + (8 + (8 + (8 + (8 + (8 + (8 + 0))))))) from rfl]
  simp only [a]
  simp only [pc]
  omega
theorem sum8 (p0 p1 p2 p3 p4 p5 p6 p7 a4 a5 a6 a : Nat) (h0 : p0 ≤ 8) (h1 : p1 ≤ 8) (h2 : p2 ≤ 8) (h3 : p3 ≤ 8) (h4 : p4 ≤ 8) (h5 : p5 ≤ 8) (h6 : p6 ≤ 8) (h7 : p7 ≤ 8)
    (ha : a = p0 + 256 * (p1 + 256 * (p2 + 256 * (p3 + 256 * (p4 + 256 * (p5 + 256 * (p6 + 256 * p7)))))))
    (e4 : a4 = (a + a / 256) % 18446744073709551616) (e5 : a5 = (a4 + a4 / 65536) % 18446744073709551616) (e6 : a6 = (a5 + a5 / 4294967296) % 18446744073709551616) : a6 % 128 = p0 + p1 + p2 + p3 + p4 + p5 + p6 + p7 := by
  obtain ⟨q6, hq6⟩ : ∃ q, q = p6 + 256 * p7 := ⟨_, rfl⟩
  obtain ⟨q5, hq5⟩ : ∃ q, q = p5 + 256 * q6 := ⟨_, rfl⟩
  obtain ⟨q4, hq4⟩ : ∃ q, q = p4 + 256 * q5 := ⟨_, rfl⟩
  obtain ⟨q3, hq3⟩ : ∃ q, q = p3 + 256 * q4 := ⟨_, rfl⟩
  obtain ⟨q2, hq2⟩ : ∃ q, q = p2 + 256 * q3 := ⟨_, rfl⟩
  obtain ⟨q1, hq1⟩ : ∃ q, q = p1 + 256 * q2 := ⟨_, rfl⟩
  have ha' : a = p0 + 256 * q1 := by rw [ha, hq1, hq2, hq3, hq4, hq5, hq6]
  clear ha
  have b6 : q6 ≤ 2056 := by omega
  have b5 : q5 ≤ 526344 := by omega
  have b4 : q4 ≤ 134744072 := by omega
  have b3 : q3 ≤ 34494482440 := by omega
  have b2 : q2 ≤ 8830587504648 := by omega
  have b1 : q1 ≤ 2260630401189896 := by omega
  have d1 : a / 256 = q1 := by omega
  rw [d1] at e4
  have r4 : a4 = a + q1 := by omega
  clear e4 d1
  have d4 : a4 / 65536 = q2 + q3 := by clear e5 e6 hq4 hq5 hq6; omega
  rw [d4] at e5
  have r5 : a5 = a + q1 + q2 + q3 := by clear e6 hq4 hq5 hq6 d4; omega
  clear e5 d4
  have d5 : a5 / 4294967296 = q4 + q5 + q6 + p7 := by
    have s0 : a = p0 + 256 * p1 + 65536 * p2 + 16777216 * p3 + 4294967296 * q4 := by clear r4 r5 e6; omega
    have s1 : q1 = p1 + 256 * p2 + 65536 * p3 + 16777216 * p4 + 4294967296 * q5 := by clear r4 r5 e6; omega
    have s2 : q2 = p2 + 256 * p3 + 65536 * p4 + 16777216 * p5 + 4294967296 * q6 := by clear r4 r5 e6; omega
    have s3 : q3 = p3 + 256 * p4 + 65536 * p5 + 16777216 * p6 + 4294967296 * p7 := by clear r4 r5 e6; omega
    rw [r5, s0, s1, s2, s3]
    clear s0 s1 s2 s3 r4 r5 e6 hq1 hq2 hq3 hq4 hq5 hq6 ha' b1 b2 b3 b4 b5 b6
    omega
  rw [d5] at e6
  have r6 : a6 = p0 + p1 + p2 + p3 + p4 + p5 + p6 + p7 + 256 * (q1 + q2 + q3 + q4 + q5 + q6 + p7) := by
    rw [r5, ha'] at e6
    clear d5 r4 r5
    omega
  omega
theorem ctz_bit (x : Nat) (h0 : x ≠ 0) (h : x < 18446744073709551616) : x.testBit (Lib.ctz 64 x) = true ∧ (∀ j, j < Lib.ctz 64 x → x.testBit j = false) ∧ Lib.ctz 64 x < 64 := by
  obtain ⟨m, hm, hk⟩ := Lib.ctzFrom_spec 64 x (by omega) h
  unfold Lib.ctz
  rw [if_neg h0]
  generalize Lib.ctzFrom 64 x = k at *
  subst hm
  refine ⟨?_, fun j hj => ?_, hk⟩
  · rw [Nat.testBit_two_pow_mul, Nat.sub_self]; simp
  · rw [Nat.testBit_two_pow_mul]; simp; omega
theorem ctz_eq (x k : Nat) (h : x < 18446744073709551616) (hb : x.testBit k = true) (hl : ∀ j, j < k → x.testBit j = false) : Lib.ctz 64 x = k := by
  have h0 : x ≠ 0 := by rintro rfl; simp at hb
  obtain ⟨h1, h2, -⟩ := ctz_bit x h0 h
  rcases Nat.lt_trichotomy (Lib.ctz 64 x) k with hlt | he | hlt
  · rw [hl _ hlt] at h1; cases h1
  · exact he
  · rw [h2 _ hlt] at hb; cases hb
theorem wd_eq_zero (S i : Nat) (h : ∀ j, j < 64 → S.testBit (64 * i + j) = false) : wd S i = 0 := by
  apply Nat.eq_of_testBit_eq; intro j
  rw [testBit_wd, Nat.zero_testBit]
  by_cases hj : j < 64
  · simp [hj, h j hj]
  · simp [hj]
theorem wd_ne_zero (S c : Nat) (h : S.testBit c = true) : wd S (c / 64) ≠ 0 := by
  intro h0
  have := testBit_wd S (c / 64) (c % 64)
  rw [h0, show 64 * (c / 64) + c % 64 = c from by omega, h, Nat.zero_testBit] at this
  simp at this
  omega
theorem first_word (S c : Nat) (h1 : S.testBit c = true) (h2 : ∀ d, d < c → S.testBit d = false) :
    (∀ i, i < c / 64 → wd S i = 0) ∧ wd S (c / 64) ≠ 0 ∧ 64 * (c / 64) + Lib.ctz 64 (wd S (c / 64)) = c := by
  refine ⟨fun i hi => wd_eq_zero _ _ fun j hj => h2 _ (by omega), wd_ne_zero S c h1, ?_⟩
  have : Lib.ctz 64 (wd S (c / 64)) = c % 64 := ctz_eq _ _ (wd_lt _ _) (by
    rw [testBit_wd, show 64 * (c / 64) + c % 64 = c from by omega, h1]; simp; omega) (fun j hj => by
    rw [testBit_wd, h2 _ (by omega)]; simp)
  omega
theorem pc256 (S : Nat) : pc 256 S = pc 64 (wd S 0) + pc 64 (wd S 1) + pc 64 (wd S 2) + pc 64 (wd S 3) := by
  have m : ∀ i, pc 64 (wd S i) = pc 64 (S / 2 ^ (64 * i)) := fun i => by unfold wd; rw [pc_mod]
  rw [m, m, m, m, show 256 = 64 + (64 + (64 + 64)) from rfl, pc_add, pc_add 64 (64 + 64), pc_add 64 64, Nat.div_div_eq_div_mul, Nat.div_div_eq_div_mul, ← Nat.pow_add, ← Nat.pow_add]
  simp only [Nat.mul_zero, Nat.pow_zero, Nat.div_one, Nat.mul_one, show 64 * 2 = 64 + 64 from rfl, show 64 * 3 = 64 + 64 + 64 from rfl]
  omega
/-- How many bits a word, and a set, has. -/
def pop (x : Nat) : Nat := pc 64 x
def cnt (S : Nat) : Nat := pc 256 S
theorem pop_le (x : Nat) : pop x ≤ 64 := pc_le _ _
theorem cnt_le (S : Nat) : cnt S ≤ 256 := pc_le _ _
theorem cnt_pop (S : Nat) : cnt S = pop (wd S 0) + pop (wd S 1) + pop (wd S 2) + pop (wd S 3) := pc256 S
theorem cnt_and_or (x y : Nat) : cnt (x &&& y) + cnt (x ||| y) = cnt x + cnt y := pc_and_or 256 x y
attribute [irreducible] pop cnt
end Sets
end Go.Proofs.YtghbgfkkdknmnaaDoor
namespace Go.Proofs.YtghbgfkkdknmnaaDoor
namespace Sets
def bitsOf (i r : Nat) : List Nat := ((List.range 64).filter r.testBit).map (64 * i + ·)
def upTo (S i : Nat) : List Nat := (List.range (64 * i)).filter S.testBit
def listN (S : Nat) : List Nat := (List.range 256).filter S.testBit
theorem bitsOf_zero (i : Nat) : bitsOf i 0 = [] := by simp [bitsOf]
theorem filter_first (p q : Nat → Bool) (n k : Nat) (hk : k < n) (h1 : p k = true) (h2 : ∀ j, j < k → p j = false) (hq : ∀ j, q j = (p j && decide (j ≠ k))) :
    (List.range n).filter p = k :: (List.range n).filter q := by
  obtain ⟨m, rfl⟩ : ∃ m, n = k + (m + 1) := ⟨n - k - 1, by omega⟩
  rw [List.range_add, List.filter_append, List.filter_append]
  have e1 : (List.range k).filter p = [] := List.filter_eq_nil_iff.2 fun j hj => by rw [h2 j (by simpa using hj)]; simp
  have e2 : (List.range k).filter q = [] := List.filter_eq_nil_iff.2 fun j hj => by rw [hq, h2 j (by simpa using hj)]; simp
  rw [e1, e2, List.nil_append, List.nil_append, List.range_succ_eq_map, List.map_cons, List.filter_cons, List.filter_cons]
  have hk0 : k + 0 = k := rfl
  rw [hk0, h1, hq k]
  simp only [ne_eq, not_true_eq_false, decide_false, Bool.and_false, if_true]
  congr 1
  apply List.filter_congr
  intro j hj
  simp only [List.mem_map] at hj
  obtain ⟨a, ⟨b, -, rfl⟩, rfl⟩ := hj
  rw [hq]
  simp
theorem clear_low (r : Nat) (h0 : r ≠ 0) (h : r < 18446744073709551616) (j : Nat) : (r &&& (r - 1)).testBit j = (r.testBit j && decide (j ≠ Lib.ctz 64 r)) := by
  obtain ⟨m, hm, hk⟩ := Lib.ctzFrom_spec 64 r (by omega) h
  have hc : Lib.ctz 64 r = Lib.ctzFrom 64 r := by unfold Lib.ctz; rw [if_neg h0]
  rw [hc]
  generalize Lib.ctzFrom 64 r = k at *
  have e : r - 1 = 2 ^ k * (2 * m) + (2 ^ k - 1) := by
    have : 0 < 2 ^ k := Nat.pow_pos (by decide)
    rw [hm, Nat.mul_add, Nat.mul_one]; omega
  have hl : 2 ^ k - 1 < 2 ^ k := by have : 0 < 2 ^ k := Nat.pow_pos (by decide); omega
  rw [Nat.testBit_and, e, Nat.testBit_two_pow_mul_add _ hl, Nat.testBit_two_pow_sub_one]
  rw [hm, Nat.testBit_two_pow_mul]
  by_cases hj : j < k
  · have : ¬ k ≤ j := by omega
    simp [hj, this]
  · by_cases he : j = k
    · subst he; simp
    · obtain ⟨d, rfl⟩ : ∃ d, j = k + (d + 1) := ⟨j - k - 1, by omega⟩
      have e1 : k + (d + 1) - k = d + 1 := by omega
      have e2 : (2 * m + 1) / 2 = m := by omega
      have e3 : 2 * m / 2 = m := by omega
      rw [e1, Nat.testBit_succ, Nat.testBit_succ, e2, e3]
      have : ¬ k + (d + 1) < k := by omega
      simp [this]
theorem clear_lt (r : Nat) (h0 : r ≠ 0) : r &&& (r - 1) < r := Nat.lt_of_le_of_lt Nat.and_le_right (by omega)
theorem bitsOf_step (i r : Nat) (h0 : r ≠ 0) (h : r < 18446744073709551616) : bitsOf i r = (64 * i + Lib.ctz 64 r) :: bitsOf i (r &&& (r - 1)) := by
  obtain ⟨h1, h2, h3⟩ := ctz_bit r h0 h
  unfold bitsOf
  rw [filter_first r.testBit (r &&& (r - 1)).testBit 64 _ h3 h1 h2 (clear_low r h0 h)]
  rfl
theorem upTo_zero (S : Nat) : upTo S 0 = [] := rfl
theorem upTo_succ (S i : Nat) : upTo S (i + 1) = upTo S i ++ bitsOf i (wd S i) := by
  unfold upTo bitsOf
  rw [show 64 * (i + 1) = 64 * i + 64 from by omega, List.range_add, List.filter_append]
  congr 1
  rw [List.filter_map]
  congr 1
  apply List.filter_congr
  intro j hj
  rw [testBit_wd]
  simp at hj
  simp [hj]
theorem upTo_four (S : Nat) : upTo S 4 = listN S := rfl
theorem upTo_length (S i : Nat) : (upTo S i).length ≤ 64 * i := Nat.le_trans (List.length_filter_le _ _) (by simp)
theorem mem_listN (S c : Nat) : c ∈ listN S ↔ c < 256 ∧ S.testBit c = true := by simp [listN]
theorem listN_length_aux (S : Nat) : ∀ n, ((List.range n).filter S.testBit).length = pc n S
  | 0 => rfl
  | n + 1 => by
    rw [List.range_succ, List.filter_append, List.length_append, listN_length_aux S n, pc_succ]
    cases h : S.testBit n <;> simp [h]
theorem listN_length (S : Nat) : (listN S).length = cnt S := by unfold cnt; exact listN_length_aux S 256
theorem listN_sorted (S : Nat) : (listN S).Pairwise (· < ·) := List.Pairwise.filter _ List.pairwise_lt_range
theorem ofN_testBit_aux (l : List Nat) : ∀ (A c : Nat), (l.foldl (fun S c => S ||| 2 ^ c) A).testBit c = (A.testBit c || l.contains c) := by
  induction l with
  | nil => intro A c; simp
  | cons x l ih =>
    intro A c
    rw [List.foldl_cons, ih, Nat.testBit_or, Nat.testBit_two_pow, List.contains_cons]
    by_cases h : x = c
    · subst h; simp
    · have : (c == x) = false := by simpa using fun e => h e.symm
      simp [h, this]
theorem ofN_testBit (l : List Nat) (c : Nat) : (ofN l).testBit c = l.contains c := by unfold ofN; rw [ofN_testBit_aux]; simp
theorem ofN_listN (S : Nat) (h : S < 2 ^ 256) : ofN (listN S) = S := by
  apply Nat.eq_of_testBit_eq; intro c
  rw [ofN_testBit]
  rw [Bool.eq_iff_iff, List.contains_iff_mem, mem_listN]
  constructor
  · exact fun h => h.2
  · intro hb
    refine ⟨?_, hb⟩
    apply Nat.lt_of_not_le; intro hle
    rw [Nat.testBit_lt_two_pow (Nat.lt_of_lt_of_le h (Nat.pow_le_pow_right (by decide) hle))] at hb
    cases hb
theorem ofN_lt (l : List Nat) (hl : ∀ x ∈ l, x < 256) : ofN l < 2 ^ 256 := by
  apply Nat.lt_pow_two_of_testBit
  intro j hj
  rw [ofN_testBit]
  cases h : l.contains j with
  | false => rfl
  | true => have := hl j (List.contains_iff_mem.1 h); omega
attribute [irreducible] bitsOf upTo listN
end Sets
end Go.Proofs.YtghbgfkkdknmnaaDoor
namespace Go.Proofs.YtghbgfkkdknmnaaDoor
namespace Nf
open Sets
structure Mc where
  sp : List (Nat × Nat)
  fi : List Int
  fo : List (List Int)
  la : List Bool
  em : Bool
def riseF (n : Nat) : Int → List Int → Bool
  | _, [] => true
  | low, k :: l => decide (low ≤ k) && (decide (k < (n : Int)) && riseF n (k + 1) l)
def rise (n : Nat) (l : List Int) : Bool := riseF n 0 l
def rightM (m : Mc) : Bool :=
  decide (m.sp.length ≤ 250) && (decide (m.fo.length = m.sp.length) && (decide (m.la.length = m.sp.length) && (m.sp.all (fun s => decide (s.2 ≤ 2)) && (m.fo.all (rise m.sp.length) && rise m.sp.length m.fi))))
def grp (l : List Int) : Nat := ofN (l.map Int.toNat)
def stN (m : Mc) (k : Nat) : Nat := (m.sp.getD k (0, 0)).1
def foN (m : Mc) (k : Nat) : Nat := grp (m.fo.getD k [])
def lastN (m : Mc) : Nat := ofN ((List.range m.la.length).filter fun k => m.la.getD k false)
def rd (m : Mc) (q c : Nat) : Nat := ofN ((listN q).filter fun k => (stN m k).testBit c)
def bh (G : List Nat) (q : Nat) : Nat := (listN q).foldl (fun a k => a ||| G.getD k 0) 0
def runS (m : Mc) (w : List Nat) : Nat × Nat := w.foldl (fun p c => (rd m p.2 c, bh (m.fo.map grp) (rd m p.2 c))) (0, grp m.fi)
def takesM (m : Mc) (w : List Nat) : Bool := rightM m && (if w = [] then m.em else decide ((runS m w).1 &&& lastN m ≠ 0))
theorem riseF_cons (n : Nat) (low k : Int) (l : List Int) : riseF n low (k :: l) = (decide (low ≤ k) && (decide (k < (n : Int)) && riseF n (k + 1) l)) := rfl
theorem riseF_drop (n : Nat) (low : Int) (l : List Int) (j : Nat) (h : j < l.length) :
    riseF n low (l.drop j) = (decide (low ≤ l.getD j 0) && (decide (l.getD j 0 < (n : Int)) && riseF n (l.getD j 0 + 1) (l.drop (j + 1)))) := by
  rw [List.drop_eq_getElem_cons h, riseF_cons, List.getD_eq_getElem?_getD, List.getElem?_eq_getElem h]; rfl
theorem riseF_end (n : Nat) (low : Int) (l : List Int) (j : Nat) (h : l.length ≤ j) : riseF n low (l.drop j) = true := by
  rw [List.drop_eq_nil_of_le h]; rfl
theorem riseF_iff (n : Nat) : ∀ (l : List Int) (low : Int), riseF n low l = true ↔ (∀ k ∈ l, low ≤ k ∧ k < (n : Int)) ∧ l.Pairwise (· < ·)
  | [], low => by simp [riseF]
  | k :: l, low => by
    rw [riseF_cons, Bool.and_eq_true, Bool.and_eq_true, decide_eq_true_iff, decide_eq_true_iff, riseF_iff n l (k + 1), List.pairwise_cons]
    constructor
    · rintro ⟨h1, h2, h3, h4⟩
      refine ⟨fun x hx => ?_, fun x hx => ?_, h4⟩
      · rcases List.mem_cons.1 hx with rfl | hx
        · exact ⟨h1, h2⟩
        · have := h3 x hx; omega
      · have := h3 x hx; omega
    · rintro ⟨h1, h2, h3⟩
      have := h1 k (List.mem_cons_self ..)
      refine ⟨this.1, this.2, fun x hx => ?_, h3⟩
      have a := h1 x (List.mem_cons_of_mem _ hx)
      have b := h2 x hx
      omega
theorem rise_iff (n : Nat) (l : List Int) : rise n l = true ↔ (∀ k ∈ l, 0 ≤ k ∧ k < (n : Int)) ∧ l.Pairwise (· < ·) := riseF_iff n l 0
/-- What a right machine is. -/
structure Rt (m : Mc) : Prop where
  many : m.sp.length ≤ 250
  fol : m.fo.length = m.sp.length
  lal : m.la.length = m.sp.length
  tag : ∀ s ∈ m.sp, s.2 ≤ 2
  foR : ∀ l ∈ m.fo, rise m.sp.length l = true
  fiR : rise m.sp.length m.fi = true
theorem right_iff (m : Mc) : rightM m = true ↔ Rt m := by
  unfold rightM
  simp only [Bool.and_eq_true, decide_eq_true_iff, List.all_eq_true]
  constructor
  · rintro ⟨h1, h2, h3, h4, h5, h6⟩; exact ⟨h1, h2, h3, h4, h5, h6⟩
  · rintro ⟨h1, h2, h3, h4, h5, h6⟩; exact ⟨h1, h2, h3, h4, h5, h6⟩
theorem testBit_grp (l : List Int) (k : Nat) : (grp l).testBit k = true ↔ k ∈ l.map Int.toNat := by
  unfold grp; rw [ofN_testBit]; simp
theorem grp_bit {n : Nat} {l : List Int} (h : rise n l = true) (k : Nat) : (grp l).testBit k = true ↔ (k : Int) ∈ l := by
  rw [testBit_grp, List.mem_map]
  have := (rise_iff n l).1 h
  constructor
  · rintro ⟨x, hx, rfl⟩
    rw [Int.toNat_of_nonneg (this.1 x hx).1]; exact hx
  · intro hk; exact ⟨k, hk, by simp⟩
theorem grp_lt {n : Nat} {l : List Int} (h : rise n l = true) {k : Nat} (hk : (grp l).testBit k = true) : k < n := by
  have := ((rise_iff n l).1 h).1 _ ((grp_bit h k).1 hk); omega
theorem getD_mem {α : Type} {l : List α} {j : Nat} {d : α} (h : j < l.length) : l.getD j d ∈ l := by
  rw [List.getD_eq_getElem?_getD, List.getElem?_eq_getElem h]; exact List.getElem_mem _
theorem getD_ge {α : Type} {l : List α} {j : Nat} {d : α} (h : l.length ≤ j) : l.getD j d = d := by
  rw [List.getD_eq_getElem?_getD, List.getElem?_eq_none h]; rfl
theorem foN_rise {m : Mc} (h : Rt m) (k : Nat) : rise m.sp.length (m.fo.getD k []) = true := by
  rcases Nat.lt_or_ge k m.fo.length with hk | hk
  · exact h.foR _ (getD_mem hk)
  · rw [getD_ge hk]; rfl
theorem fo_lt {m : Mc} (h : Rt m) {i k : Nat} (hk : (foN m i).testBit k = true) : k < m.sp.length := grp_lt (foN_rise h i) hk
theorem fo_lt' {m : Mc} (h : Rt m) {i k : Nat} (hk : (foN m i).testBit k = true) : i < m.sp.length := by
  rcases Nat.lt_or_ge i m.fo.length with hi | hi
  · rw [← h.fol]; exact hi
  · unfold foN at hk; rw [getD_ge hi] at hk; simp [grp, ofN] at hk
theorem fi_lt {m : Mc} (h : Rt m) {k : Nat} (hk : (grp m.fi).testBit k = true) : k < m.sp.length := grp_lt h.fiR hk
theorem map_grp (m : Mc) (k : Nat) : (m.fo.map grp).getD k 0 = foN m k := by
  unfold foN
  rw [List.getD_eq_getElem?_getD, List.getElem?_map, List.getD_eq_getElem?_getD]
  cases m.fo[k]? <;> rfl
theorem rd_bit (m : Mc) (q c k : Nat) : (rd m q c).testBit k = true ↔ k < 256 ∧ q.testBit k = true ∧ (stN m k).testBit c = true := by
  unfold rd; rw [ofN_testBit]; simp [mem_listN, and_assoc]
theorem foldl_or_bit (G : List Nat) (k : Nat) : ∀ (l : List Nat) (A : Nat), (l.foldl (fun a i => a ||| G.getD i 0) A).testBit k = true ↔ A.testBit k = true ∨ ∃ i ∈ l, (G.getD i 0).testBit k = true
  | [], A => by simp
  | x :: l, A => by
    rw [List.foldl_cons, foldl_or_bit G k l, Nat.testBit_or, Bool.or_eq_true]
    simp [or_assoc]
theorem bh_bit (G : List Nat) (q k : Nat) : (bh G q).testBit k = true ↔ ∃ i, i < 256 ∧ q.testBit i = true ∧ (G.getD i 0).testBit k = true := by
  unfold bh; rw [foldl_or_bit]; simp [mem_listN, and_assoc]
theorem last_bit (m : Mc) (k : Nat) : (lastN m).testBit k = true ↔ m.la.getD k false = true := by
  unfold lastN; rw [ofN_testBit, List.contains_iff_mem, List.mem_filter, List.mem_range]
  constructor
  · exact fun h => h.2
  · intro h
    refine ⟨?_, h⟩
    rcases Nat.lt_or_ge k m.la.length with hk | hk
    · exact hk
    · rw [getD_ge hk] at h; cases h
/-- From spot k on, the text w ends well. -/
inductive Gs (m : Mc) : Nat → List Nat → Prop
  | done {k : Nat} : m.la.getD k false = true → Gs m k []
  | more {k j c : Nat} {w : List Nat} : (foN m k).testBit j = true → (stN m j).testBit c = true → Gs m j w → Gs m k (c :: w)
def Tk (m : Mc) : List Nat → Prop
  | [] => m.em = true
  | c :: w => ∃ k, (grp m.fi).testBit k = true ∧ (stN m k).testBit c = true ∧ Gs m k w
/-- The runs on w, from the spots q that may come next. -/
def stepS (m : Mc) (p : Nat × Nat) (c : Nat) : Nat × Nat := (rd m p.2 c, bh (m.fo.map grp) (rd m p.2 c))
theorem fold_iff {m : Mc} (h : Rt m) : ∀ (w : List Nat) (A q : Nat), (∀ k, q.testBit k = true → k < m.sp.length) →
    ((w.foldl (stepS m) (A, q)).1 &&& lastN m ≠ 0 ↔ (w = [] ∧ A &&& lastN m ≠ 0) ∨ ∃ c v, w = c :: v ∧ ∃ k, q.testBit k = true ∧ (stN m k).testBit c = true ∧ Gs m k v)
  | [], A, q, _ => by simp
  | c :: w, A, q, hq => by
    have h256 := h.many
    have hr : ∀ k, (rd m q c).testBit k = true ↔ q.testBit k = true ∧ (stN m k).testBit c = true := by
      intro k; rw [rd_bit]
      constructor
      · exact fun h => h.2
      · exact fun h => ⟨by have := hq k h.1; omega, h⟩
    have hb : ∀ k, (bh (m.fo.map grp) (rd m q c)).testBit k = true ↔ ∃ i, (q.testBit i = true ∧ (stN m i).testBit c = true) ∧ (foN m i).testBit k = true := by
      intro k; rw [bh_bit]
      constructor
      · rintro ⟨i, _, h1, h2⟩; exact ⟨i, (hr i).1 h1, by rw [← map_grp]; exact h2⟩
      · rintro ⟨i, h1, h2⟩; exact ⟨i, by have := hq i h1.1; omega, (hr i).2 h1, by rw [map_grp]; exact h2⟩
    rw [List.foldl_cons]
    show (List.foldl (stepS m) (rd m q c, bh (m.fo.map grp) (rd m q c)) w).1 &&& lastN m ≠ 0 ↔ _
    rw [fold_iff h w _ _ (fun k hk => by obtain ⟨i, -, h2⟩ := (hb k).1 hk; exact fo_lt h h2)]
    have hne : rd m q c &&& lastN m ≠ 0 ↔ ∃ k, q.testBit k = true ∧ (stN m k).testBit c = true ∧ m.la.getD k false = true := by
      constructor
      · intro hn
        obtain ⟨k, hk⟩ := Nat.exists_testBit_of_ne_zero hn
        rw [Nat.testBit_and, Bool.and_eq_true, hr, last_bit] at hk
        exact ⟨k, hk.1.1, hk.1.2, hk.2⟩
      · rintro ⟨k, h1, h2, h3⟩ hz
        have : (rd m q c &&& lastN m).testBit k = true := by rw [Nat.testBit_and, Bool.and_eq_true, hr, last_bit]; exact ⟨⟨h1, h2⟩, h3⟩
        rw [hz] at this; simp at this
    constructor
    · rintro (⟨rfl, hA⟩ | ⟨d, v, rfl, k, hk, hd, hg⟩)
      · obtain ⟨k, h1, h2, h3⟩ := hne.1 hA
        exact .inr ⟨c, [], rfl, k, h1, h2, .done h3⟩
      · obtain ⟨i, ⟨h1, h2⟩, h3⟩ := (hb k).1 hk
        exact .inr ⟨c, _, rfl, i, h1, h2, .more h3 hd hg⟩
    · rintro (⟨h, -⟩ | ⟨d, v, e, k, h1, h2, hg⟩)
      · cases h
      · injection e with e1 e2
        subst e1 e2
        cases hg with
        | done hl => exact .inl ⟨rfl, hne.2 ⟨k, h1, h2, hl⟩⟩
        | more hf hs hg => exact .inr ⟨_, _, rfl, _, (hb _).2 ⟨k, ⟨h1, h2⟩, hf⟩, hs, hg⟩
theorem takes_iff (m : Mc) (w : List Nat) : takesM m w = true ↔ Rt m ∧ Tk m w := by
  unfold takesM
  rw [Bool.and_eq_true, right_iff]
  constructor
  · rintro ⟨h, h2⟩
    refine ⟨h, ?_⟩
    cases w with
    | nil => simpa [Tk] using h2
    | cons c w =>
      rw [if_neg (by simp), decide_eq_true_iff] at h2
      rcases (fold_iff h (c :: w) 0 (grp m.fi) (fun k hk => fi_lt h hk)).1 h2 with ⟨h, -⟩ | ⟨d, v, e, k, h1, h2, hg⟩
      · cases h
      · injection e with e1 e2
        subst e1 e2
        exact ⟨k, h1, h2, hg⟩
  · rintro ⟨h, h2⟩
    refine ⟨h, ?_⟩
    cases w with
    | nil => simpa [Tk] using h2
    | cons c w =>
      rw [if_neg (by simp), decide_eq_true_iff]
      obtain ⟨k, h1, h2, hg⟩ := h2
      exact (fold_iff h (c :: w) 0 (grp m.fi) (fun k hk => fi_lt h hk)).2 (.inr ⟨c, w, rfl, k, h1, h2, hg⟩)
/-- Spots that are come to from some of F, over such of W alone. -/
inductive Rc (F W : Nat) (E : Nat → Nat → Prop) : Nat → Prop
  | base {k : Nat} : F.testBit k = true → W.testBit k = true → Rc F W E k
  | step {i k : Nat} : Rc F W E i → E i k → W.testBit k = true → Rc F W E k
theorem Rc.within {F W : Nat} {E : Nat → Nat → Prop} {k : Nat} (h : Rc F W E k) : W.testBit k = true := by
  cases h with
  | base _ h => exact h
  | step _ _ h => exact h
theorem Rc.least {F W : Nat} {E : Nat → Nat → Prop} {p : Nat → Prop} (h1 : ∀ k, F.testBit k = true → W.testBit k = true → p k) (h2 : ∀ i k, p i → E i k → W.testBit k = true → p k) : ∀ k, Rc F W E k → p k := by
  intro k h
  induction h with
  | base a b => exact h1 _ a b
  | step _ a b ih => exact h2 _ _ ih a b
def fullN (m : Mc) : Nat := ofN ((List.range m.sp.length).filter fun k => stN m k != 0)
theorem full_bit (m : Mc) (k : Nat) : (fullN m).testBit k = true ↔ stN m k ≠ 0 := by
  unfold fullN
  rw [ofN_testBit, List.contains_iff_mem, List.mem_filter, List.mem_range, bne_iff_ne]
  constructor
  · exact fun h => h.2
  · intro h
    refine ⟨?_, h⟩
    rcases Nat.lt_or_ge k m.sp.length with hk | hk
    · exact hk
    · unfold stN at h; rw [getD_ge hk] at h; exact absurd rfl h
def Co (m : Mc) : Nat → Prop := Rc (grp m.fi) (fullN m) fun i k => (foN m i).testBit k = true
def Gg (m : Mc) : Nat → Prop := Rc (lastN m) (fullN m) fun i k => (foN m k).testBit i = true
/-- U is the set of the useful spots. -/
def Us (m : Mc) (U : Nat) : Prop := ∀ k, U.testBit k = true ↔ Co m k ∧ Gg m k
theorem Us.one {m : Mc} {U V : Nat} (h : Us m U) (g : Us m V) : U = V := by
  apply Nat.eq_of_testBit_eq
  intro k
  rw [Bool.eq_iff_iff, h k, g k]
theorem Us.lt {m : Mc} {U k : Nat} (h : Us m U) (hk : U.testBit k = true) : k < m.sp.length := by
  have := (full_bit m k).1 ((h k).1 hk).1.within
  rcases Nat.lt_or_ge k m.sp.length with hk | hk
  · exact hk
  · unfold stN at this; rw [getD_ge hk] at this; exact absurd rfl this
/-- The number that a spot has among those of U. -/
def nu (U k : Nat) : Nat := ((List.range k).filter U.testBit).length
def leftL (U : Nat) (l : List Int) : List Int := (l.filter fun k => U.testBit k.toNat).map fun k => (nu U k.toNat : Int)
def kept (U n : Nat) : List Nat := (List.range n).filter U.testBit
def trimM (m : Mc) (U : Nat) : Mc where
  sp := (kept U m.sp.length).map fun k => m.sp.getD k (0, 0)
  fi := leftL U m.fi
  fo := (kept U m.sp.length).map fun k => leftL U (m.fo.getD k [])
  la := (kept U m.sp.length).map fun k => m.la.getD k false
  em := m.em
end Nf
end Go.Proofs.YtghbgfkkdknmnaaDoor
namespace Go.Proofs.YtghbgfkkdknmnaaDoor
open Go.RowKit
theorem region_tail {P : Program} {id : Nat} {Q : Exit → Act → World → Prop} {a : Act} {w : World} {l : List Oper} (n : Nat) (hm : P.follows .mixedOrders = true) (hB : Region.lexTailB .any l.toArray n = true)
    (h : wpStill P l.toArray w.drew (fun a' => wpList P l.toArray Q (l.drop n) a' w.drew) (l.take n) a) : (Code.region id l.toArray true).wp P Q a w :=
  wp_region_still_tail n hm hB h
@[go_sem] theorem setCell_drewN' (w : World) (n : Nat) (a : Addr) (v : Value) : (w.drewN n).setCell a v = (w.setCell a v).drewN n := rfl
/-- v is a slice of these bytes. -/
def BytesAt (w : World) (v : Value) (l : List Nat) : Prop :=
  (∀ x ∈ l, x < 256) ∧ l.length ≤ maxLen ∧ ∃ a cap, v = .slice a l.length cap ∧ ∀ i, i < l.length → ∃ b o, a = some ⟨b, o, none⟩ ∧ w.cell? ⟨b, o + i, none⟩ = some (.int .u8 (l.getD i 0))
end Go.Proofs.YtghbgfkkdknmnaaDoor
namespace Go.Proofs.YtghbgfkkdknmnaaDoor
open Go.RowKit Sets
theorem ret_int {k : IntKind} {a b : Int} (h : a = b) : Ending.returned (.int k a) = .returned (.int k b) := by rw [h]
theorem ret_bool {a b : Bool} (h : a = b) : Ending.returned (.bool a) = .returned (.bool b) := by rw [h]
theorem band_wd (S T i : Nat) : bits .and .u64 (wd S i : Int) (wd T i : Int) = (wd (S &&& T) i : Int) := by
  rw [bits_and_u64_nat _ _ (wd_lt _ _) (wd_lt _ _), wd_and]
theorem bor_wd (S T i : Nat) : bits .or .u64 (wd S i : Int) (wd T i : Int) = (wd (S ||| T) i : Int) := by
  rw [bits_or_u64_nat _ _ (wd_lt _ _) (wd_lt _ _), wd_or]
theorem wd_keep (S c i : Nat) (h : ¬ c / 64 = i) : wd (S ||| 2 ^ c) i = wd S i := by
  rw [wd_bit, if_neg (fun e => h e.symm)]
theorem bor_bit (S c i : Nat) (h : c / 64 = i) : bits .or .u64 (wd S i : Int) (bitN c : Int) = (wd (S ||| 2 ^ c) i : Int) := by
  rw [bits_or_u64_nat _ _ (wd_lt _ _) (bitN_lt _), wd_bit, if_pos h.symm]
theorem bnot_wd (S i : Nat) (h : i < 4) : bits .xor .u64 IntKind.u64.max (wd S i : Int) = (wd (full ^^^ S) i : Int) := by
  have e : IntKind.u64.max = ((18446744073709551615 : Nat) : Int) := by decide
  rw [e, bits_xor_u64_nat _ _ (by decide) (wd_lt _ _), ← wd_not S i h]
  congr 1
  apply Nat.eq_of_testBit_eq; intro j
  have hl := wd_lt S i
  rw [show (18446744073709551615 : Nat) - wd S i = 2 ^ 64 - (wd S i + 1) from by omega, Nat.testBit_two_pow_sub_succ (by omega), Nat.testBit_xor, show (18446744073709551615 : Nat) = 2 ^ 64 - 1 from rfl, Nat.testBit_two_pow_sub_one]
  by_cases hj : j < 64
  · simp [hj]
  · simp [hj, testBit_wd]
theorem has_bit (S c i : Nat) (h : c / 64 = i) : (bits .and .u64 (wd S i : Int) (bitN c : Int) != 0) = S.testBit c := by
  subst h
  rw [bits_and_u64_nat _ _ (wd_lt _ _) (bitN_lt _)]
  have := and_bit_zero S c
  cases hb : S.testBit c
  · rw [this.2 hb]; rfl
  · rw [bne_iff_ne]; intro h0
    have := this.1 (by omega)
    rw [hb] at this; cases this
set_option maxHeartbeats 400000 in
theorem bit_any (c : Int) (w : World) (h0 : 0 ≤ c) (h1 : c ≤ 255) :
    Calls Tryd.prog 59 #[.int .u8 c] w fun e w' => e = .returned (.int .u64 (bitN c.toNat)) ∧ w = w' := by
  go_enter Tryd.func59, Tryd.ntmps59
  go_wp2
  go_ret
  refine ⟨ret_int ?_, rfl⟩
  obtain ⟨n, rfl⟩ := Int.eq_ofNat_of_zero_le h0
  have e : ((n : Int) % 64).toNat = n % 64 := by omega
  have := bitN_lt n
  unfold bitN at *
  rw [e, IntKind.wrap_u64, Int.toNat_natCast]
  have h2 : ((2 ^ (n % 64) : Nat) : Int) < 18446744073709551616 := by omega
  rw [Int.natCast_pow] at *
  exact Int.emod_eq_of_lt (Int.le_of_lt (Int.pow_pos (by decide))) h2
set_option maxHeartbeats 400000 in
theorem has_any (S : Nat) (c : Int) (w : World) (h0 : 0 ≤ c) (h1 : c ≤ 255) :
    Calls Tryd.prog 54 #[.agg #[.int .u64 (wd S 0), .int .u64 (wd S 1), .int .u64 (wd S 2), .int .u64 (wd S 3)], .int .u8 c] w fun e w' =>
      e = .returned (.bool (S.testBit c.toNat)) ∧ Below w.heap.size w w' := by
  have hq : c / 64 = 0 ∨ c / 64 = 1 ∨ c / 64 = 2 ∨ c / 64 = 3 := by omega
  rcases hq with hq | hq | hq | hq
  all_goals
    go_enter Tryd.func54, Tryd.ntmps54
    go_wp2
    go_quiet ((go_at_call 59; exact Calls.quiet_of_same ((bit_any _ _ h0 h1).mono fun _ _ h => ⟨h.1, h.2.symm⟩)))
    go_wp2
    go_ret
    exact ⟨ret_bool (has_bit S c.toNat _ (by omega)), below_drewN ((Below.refl _ _).alloc (Nat.le_refl _) _) _⟩
set_option maxHeartbeats 400000 in
theorem and_any (S T : Nat) (w : World) :
    Calls Tryd.prog 41 #[.agg #[.int .u64 (wd S 0), .int .u64 (wd S 1), .int .u64 (wd S 2), .int .u64 (wd S 3)], .agg #[.int .u64 (wd T 0), .int .u64 (wd T 1), .int .u64 (wd T 2), .int .u64 (wd T 3)]] w fun e w' =>
      e = .returned (.agg #[.int .u64 (wd (S &&& T) 0), .int .u64 (wd (S &&& T) 1), .int .u64 (wd (S &&& T) 2), .int .u64 (wd (S &&& T) 3)]) ∧ Below w.heap.size w w' := by
  go_enter Tryd.func41, Tryd.ntmps41
  go_wp2
  refine wp_loop_rounds 5 ?_
  iterate 4
    rw [rounds_succ]
    go_wp2
    go_region
    go_wp2
  rw [rounds_succ]
  go_wp2
  simp only [band_wd]
  refine bodyPost_ret (v := .agg #[.int .u64 (wd (S &&& T) 0), .int .u64 (wd (S &&& T) 1), .int .u64 (wd (S &&& T) 2), .int .u64 (wd (S &&& T) 3)]) (by simp [results, Tryd.results41, go_sem]) rfl ⟨rfl, ?_⟩
  repeat (first | refine Below.drew ?_ | refine Below.alloc ?_ (by simp <;> omega) _)
  exact Below.refl _ _
set_option maxHeartbeats 400000 in
theorem or_any (S T : Nat) (w : World) :
    Calls Tryd.prog 68 #[.agg #[.int .u64 (wd S 0), .int .u64 (wd S 1), .int .u64 (wd S 2), .int .u64 (wd S 3)], .agg #[.int .u64 (wd T 0), .int .u64 (wd T 1), .int .u64 (wd T 2), .int .u64 (wd T 3)]] w fun e w' =>
      e = .returned (.agg #[.int .u64 (wd (S ||| T) 0), .int .u64 (wd (S ||| T) 1), .int .u64 (wd (S ||| T) 2), .int .u64 (wd (S ||| T) 3)]) ∧ Below w.heap.size w w' := by
  go_enter Tryd.func68, Tryd.ntmps68
  go_wp2
  refine wp_loop_rounds 5 ?_
  iterate 4
    rw [rounds_succ]
    go_wp2
    go_region
    go_wp2
  rw [rounds_succ]
  go_wp2
  simp only [bor_wd]
  refine bodyPost_ret (v := .agg #[.int .u64 (wd (S ||| T) 0), .int .u64 (wd (S ||| T) 1), .int .u64 (wd (S ||| T) 2), .int .u64 (wd (S ||| T) 3)]) (by simp [results, Tryd.results68, go_sem]) rfl ⟨rfl, ?_⟩
  repeat (first | refine Below.drew ?_ | refine Below.alloc ?_ (by simp <;> omega) _)
  exact Below.refl _ _
set_option maxHeartbeats 400000 in
theorem not_any (S : Nat) (w : World) :
    Calls Tryd.prog 69 #[.agg #[.int .u64 (wd S 0), .int .u64 (wd S 1), .int .u64 (wd S 2), .int .u64 (wd S 3)]] w fun e w' =>
      e = .returned (.agg #[.int .u64 (wd (full ^^^ S) 0), .int .u64 (wd (full ^^^ S) 1), .int .u64 (wd (full ^^^ S) 2), .int .u64 (wd (full ^^^ S) 3)]) ∧ Below w.heap.size w w' := by
  go_enter Tryd.func69, Tryd.ntmps69
  go_wp2
  refine wp_loop_rounds 5 ?_
  iterate 4
    rw [rounds_succ]
    go_wp2
  rw [rounds_succ]
  go_wp2
  simp only [bnot_wd _ 0 (by decide), bnot_wd _ 1 (by decide), bnot_wd _ 2 (by decide), bnot_wd _ 3 (by decide)]
  refine bodyPost_ret (v := .agg #[.int .u64 (wd (full ^^^ S) 0), .int .u64 (wd (full ^^^ S) 1), .int .u64 (wd (full ^^^ S) 2), .int .u64 (wd (full ^^^ S) 3)]) (by simp [results, Tryd.results69, go_sem]) rfl ⟨rfl, ?_⟩
  repeat (first | refine Below.drew ?_ | refine Below.alloc ?_ (by simp <;> omega) _)
  exact Below.refl _ _
end Go.Proofs.YtghbgfkkdknmnaaDoor
namespace Go.Proofs.YtghbgfkkdknmnaaDoor
open Go.RowKit Sets
theorem band_c (x M : Nat) (hx : x < 18446744073709551616) (hM : M < 18446744073709551616) (a m : Int) (ha : a = x) (hm : m = M) : bits .and .u64 a m = ((x &&& M : Nat) : Int) := by
  rw [ha, hm, bits_and_u64_nat _ _ hx hM]
theorem bs_lt (f : Nat → Nat) (h : ∀ b, b < 256 → f b < 256) : ∀ n x, bs f n x < 256 ^ n
  | 0, _ => by simp [bs]
  | n + 1, x => by
    have := bs_lt f h n (x / 256)
    have := h (x % 256) (by omega)
    simp only [bs]; rw [Nat.pow_succ]; omega
theorem r1 (x : Nat) (hx : x < 18446744073709551616) : IntKind.u64.wrap (bits .and .u64 ((x : Int) / 2) 6148914691236517205 + bits .and .u64 (x : Int) 6148914691236517205) = (bs g1 8 x : Int) := by
  rw [band_c (x / 2) 6148914691236517205 (by omega) (by decide) ((x : Int) / 2) 6148914691236517205 (by omega) (by decide), band_c x 6148914691236517205 hx (by decide) x 6148914691236517205 rfl (by decide), IntKind.wrap_u64, ← step1]
  have := bs_lt g1 g1_lt 8 x
  rw [← step1] at this
  omega
theorem r2 (x : Nat) : IntKind.u64.wrap (bits .and .u64 ((bs g1 8 x : Int) / 4) 3689348814741910323 + bits .and .u64 (bs g1 8 x : Int) 3689348814741910323) = (bs (fun b => g2 (g1 b)) 8 x : Int) := by
  have h1 := bs_lt g1 g1_lt 8 x
  have h2 := bs_lt (fun b => g2 (g1 b)) g2_lt 8 x
  rw [← bs_bs g2 g1 g1_lt, ← step2] at *
  generalize bs g1 8 x = y at *
  rw [band_c (y / 4) 3689348814741910323 (by omega) (by decide) ((y : Int) / 4) 3689348814741910323 (by omega) (by decide), band_c y 3689348814741910323 (by omega) (by decide) y 3689348814741910323 rfl (by decide), IntKind.wrap_u64]
  omega
theorem bs_lin (F B A c : Nat) (h1 : B * 255 ≤ A) (h2 : F ≤ c) : (F + 256 * B) * 255 ≤ 256 * A + 255 * c := by
  rw [Nat.add_mul, Nat.mul_assoc, Nat.add_comm (256 * A), Nat.mul_comm F]
  exact Nat.add_le_add (Nat.mul_le_mul_left 255 h2) (Nat.mul_le_mul_left 256 h1)
theorem bs_le (f : Nat → Nat) (c : Nat) (hc : ∀ b, b < 256 → f b ≤ c) : ∀ n x, bs f n x * 255 ≤ c * (256 ^ n - 1)
  | 0, _ => by simp [bs]
  | n + 1, x => by
    have h1 := bs_le f c hc n (x / 256)
    have h2 := hc (x % 256) (by omega)
    simp only [bs]
    have h3 : 0 < 256 ^ n := Nat.pow_pos (by decide)
    rw [Nat.pow_succ]
    have e : c * (256 ^ n * 256 - 1) = 256 * (c * (256 ^ n - 1)) + 255 * c := by
      obtain ⟨m, hm⟩ : ∃ m, 256 ^ n = m + 1 := ⟨256 ^ n - 1, by omega⟩
      rw [hm, show (m + 1) * 256 - 1 = 256 * m + 255 from by omega, Nat.mul_add, show m + 1 - 1 = m from by omega, Nat.mul_left_comm]
      omega
    rw [e]
    exact bs_lin _ _ _ _ h1 h2
theorem bs_le8 (f : Nat → Nat) (c : Nat) (hc : ∀ b, b < 256 → f b ≤ c) (x : Nat) : bs f 8 x * 255 ≤ c * 18446744073709551615 := bs_le f c hc 8 x
theorem g21_le : ∀ b, b < 256 → g2 (g1 b) ≤ 68 := by decide +kernel
theorem r3 (x : Nat) : bits .and .u64 (IntKind.u64.wrap ((bs (fun b => g2 (g1 b)) 8 x : Int) / 16 + (bs (fun b => g2 (g1 b)) 8 x : Int))) 1085102592571150095 = (bs (pc 8) 8 x : Int) := by
  have h2 := bs_lt (fun b => g2 (g1 b)) g2_lt 8 x
  have h3 := step3 8 x
  rw [← and_rep 15 (by decide), rep15] at h3
  have h4 := bs_le8 _ 68 g21_le x
  generalize bs (fun b => g2 (g1 b)) 8 x = y at *
  have e : IntKind.u64.wrap ((y : Int) / 16 + (y : Int)) = ((y / 16 + y : Nat) : Int) := by rw [IntKind.wrap_u64]; omega
  rw [band_c (y / 16 + y) 1085102592571150095 (by omega) (by decide) _ _ e (by decide), h3]
theorem w127 (a : Nat) : wrap64 (a : Int) % 128 = ((a % 128 : Nat) : Int) := by
  unfold wrap64
  omega
set_option maxHeartbeats 400000 in
theorem ones_any (x : Nat) (w : World) (h : x < 18446744073709551616) :
    Calls Tryd.prog 75 #[.int .u64 x] w fun e w' => e = .returned (.int .i64 (pop x)) ∧ w = w' := by
  go_enter Tryd.func75, Tryd.ntmps75
  go_wp2
  go_ret
  refine ⟨ret_int ?_, rfl⟩
  show _ = _
  unfold pop
  rw [r1 x h, r2 x, r3 x]
  obtain ⟨p0, p1, p2, p3, p4, p5, p6, p7, h0, h1, h2, h3, h4, h5, h6, h7, e, ep⟩ := bs8 x
  generalize bs (pc 8) 8 x = a at *
  have hl : a < 18446744073709551616 := by omega
  have w4 : IntKind.u64.wrap ((a : Int) + (a : Int) / 256) = (((a + a / 256) % 18446744073709551616 : Nat) : Int) := by rw [IntKind.wrap_u64]; omega
  rw [w4]
  have S := sum8 p0 p1 p2 p3 p4 p5 p6 p7 _ _ _ a h0 h1 h2 h3 h4 h5 h6 h7 e rfl rfl rfl
  clear e
  generalize (a + a / 256) % 18446744073709551616 = a4 at *
  have w5 : IntKind.u64.wrap ((a4 : Int) + (a4 : Int) / 65536) = (((a4 + a4 / 65536) % 18446744073709551616 : Nat) : Int) := by rw [IntKind.wrap_u64]; omega
  rw [w5]
  generalize (a4 + a4 / 65536) % 18446744073709551616 = a5 at *
  have w6 : IntKind.u64.wrap ((a5 : Int) + (a5 : Int) / 4294967296) = (((a5 + a5 / 4294967296) % 18446744073709551616 : Nat) : Int) := by rw [IntKind.wrap_u64]; omega
  rw [w6]
  generalize (a5 + a5 / 4294967296) % 18446744073709551616 = a6 at *
  rw [i64_and127, ep, ← S]
  exact w127 a6
theorem ones_i (x : Int) (w : World) (h0 : 0 ≤ x) (h : x < 18446744073709551616) :
    Calls Tryd.prog 75 #[.int .u64 x] w fun e w' => e = .returned (.int .i64 (pop x.toNat)) ∧ w = w' := by
  obtain ⟨n, rfl⟩ := Int.eq_ofNat_of_zero_le h0
  exact ones_any n w (by omega)
end Go.Proofs.YtghbgfkkdknmnaaDoor
