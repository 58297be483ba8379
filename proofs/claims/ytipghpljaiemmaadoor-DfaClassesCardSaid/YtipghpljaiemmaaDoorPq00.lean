/- Several texts in one. -/
import Derived.Says
import Derived.Lib.TrailingZeros
namespace Go.Proofs.YtipghpljaiemmaaDoor
namespace Sets

/-- The i-th word of 64 bits. -/
def wd (S i : Nat) : Nat := S / 2 ^ (64 * i) % 2 ^ 64
/-- The bit of c in its word. -/
def bitN (c : Nat) : Nat := 2 ^ (c % 64)
def full : Nat := 2 ^ 256 - 1
def rangeN (f t : Nat) : Nat := if f ≤ t then 2 ^ (t + 1) - 2 ^ f else 0

theorem bitN_lt (c : Nat) : bitN c < 18446744073709551616 := Nat.pow_lt_pow_right (n := 64) (by decide : 1 < 2) (by omega)
theorem wd_lt (S i : Nat) : wd S i < 18446744073709551616 := Nat.mod_lt _ (by decide)
theorem testBit_wd (S i j : Nat) : (wd S i).testBit j = (decide (j < 64) && S.testBit (64 * i + j)) := by
  unfold wd
  rw [Nat.testBit_mod_two_pow, Nat.testBit_div_two_pow]
  rw [Nat.add_comm]
theorem wd_and (S T i : Nat) : wd S i &&& wd T i = wd (S &&& T) i := by
  apply Nat.eq_of_testBit_eq; intro j
  simp only [Nat.testBit_and, testBit_wd]
  cases decide (j < 64) <;> simp
theorem wd_or (S T i : Nat) : wd S i ||| wd T i = wd (S ||| T) i := by
  apply Nat.eq_of_testBit_eq; intro j
  simp only [Nat.testBit_or, testBit_wd]
  cases decide (j < 64) <;> simp
theorem testBit_full (j : Nat) : full.testBit j = decide (j < 256) := by
  unfold full; exact Nat.testBit_two_pow_sub_one 256 j
theorem wd_not (S i : Nat) (hi : i < 4) : 18446744073709551615 - wd S i = wd (full ^^^ S) i := by
  apply Nat.eq_of_testBit_eq; intro j
  have h := wd_lt S i
  rw [show (18446744073709551615 : Nat) - wd S i = 2 ^ 64 - (wd S i + 1) from by omega, Nat.testBit_two_pow_sub_succ (by omega)]
  simp only [testBit_wd, Nat.testBit_xor, testBit_full]
  by_cases hj : j < 64
  · have h2 : 64 * i + j < 256 := by omega
    simp [hj, h2]
  · simp [hj]
theorem ext_words {S T : Nat} (hS : S < 2 ^ 256) (hT : T < 2 ^ 256) (h : ∀ i, i < 4 → wd S i = wd T i) : S = T := by
  apply Nat.eq_of_testBit_eq; intro j
  by_cases hj : j < 256
  · have := congrArg (fun x => x.testBit (j % 64)) (h (j / 64) (by omega))
    simp only [testBit_wd] at this
    have e : 64 * (j / 64) + j % 64 = j := by omega
    have l : j % 64 < 64 := by omega
    rw [e] at this
    simpa [l] using this
  · rw [Nat.testBit_lt_two_pow (Nat.lt_of_lt_of_le hS (Nat.pow_le_pow_right (by decide) (by omega))), Nat.testBit_lt_two_pow (Nat.lt_of_lt_of_le hT (Nat.pow_le_pow_right (by decide) (by omega)))]
theorem of_words (a b c d : Nat) (ha : a < 2 ^ 64) (hb : b < 2 ^ 64) (hc : c < 2 ^ 64) (hd : d < 2 ^ 64) :
    ∃ S, S < 2 ^ 256 ∧ wd S 0 = a ∧ wd S 1 = b ∧ wd S 2 = c ∧ wd S 3 = d := by
  refine ⟨a + 2 ^ 64 * b + 2 ^ 128 * c + 2 ^ 192 * d, ?_, ?_, ?_, ?_, ?_⟩ <;> (try unfold wd) <;> simp only [Nat.reducePow, Nat.reduceMul] at * <;> omega

theorem testBit_rangeN (f t c : Nat) : (rangeN f t).testBit c = (decide (f ≤ c) && decide (c ≤ t)) := by
  unfold rangeN
  split
  · rename_i h
    have e : 2 ^ (t + 1) - 2 ^ f = 2 ^ f * (2 ^ (t + 1 - f) - 1) := by
      rw [Nat.mul_sub, ← Nat.pow_add, show f + (t + 1 - f) = t + 1 from by omega, Nat.mul_one]
    rw [e, Nat.testBit_two_pow_mul, Nat.testBit_two_pow_sub_one]
    by_cases hf : f ≤ c
    · simp [hf]; omega
    · simp [hf]
  · simp; omega
theorem rangeN_lt (f t : Nat) (h : t < 256) : rangeN f t < 2 ^ 256 := by
  apply Nat.lt_pow_two_of_testBit
  intro j hj
  rw [testBit_rangeN]
  simp; omega
def partN (f k : Nat) : Nat := 2 ^ (f + k) - 2 ^ f
theorem testBit_partN (f k c : Nat) : (partN f k).testBit c = (decide (f ≤ c) && decide (c < f + k)) := by
  unfold partN
  have e : 2 ^ (f + k) - 2 ^ f = 2 ^ f * (2 ^ k - 1) := by rw [Nat.mul_sub, ← Nat.pow_add, Nat.mul_one]
  rw [e, Nat.testBit_two_pow_mul, Nat.testBit_two_pow_sub_one]
  by_cases hf : f ≤ c
  · simp [hf]; omega
  · simp [hf]
theorem partN_succ (f k : Nat) : partN f (k + 1) = partN f k ||| 2 ^ (f + k) := by
  apply Nat.eq_of_testBit_eq; intro c
  rw [Nat.testBit_or, testBit_partN, testBit_partN, Nat.testBit_two_pow]
  by_cases hf : f ≤ c
  · by_cases h2 : f + k = c
    · simp [hf, h2]; omega
    · simp [hf, h2]; omega
  · have : ¬ (f + k = c) := by omega
    simp [hf, this]
theorem partN_zero (f : Nat) : partN f 0 = 0 := by simp [partN]
theorem partN_range (f t : Nat) (h : f ≤ t) : partN f (t + 1 - f) = rangeN f t := by
  unfold partN rangeN; rw [if_pos h, show f + (t + 1 - f) = t + 1 from by omega]
def ofN (l : List Nat) : Nat := l.foldl (fun S c => S ||| 2 ^ c) 0
theorem ofN_snoc (l : List Nat) (c : Nat) : ofN (l ++ [c]) = ofN l ||| 2 ^ c := by simp [ofN]
theorem ofN_take (l : List Nat) (k : Nat) (h : k < l.length) : ofN (l.take (k + 1)) = ofN (l.take k) ||| 2 ^ (l.getD k 0) := by
  rw [List.take_succ_eq_append_getElem h, ofN_snoc]
  simp [List.getD, List.getElem?_eq_getElem h]
theorem wd_zero (i : Nat) : wd 0 i = 0 := by simp [wd]
theorem lt_and {S T : Nat} (hS : S < 2 ^ 256) : S &&& T < 2 ^ 256 := Nat.lt_of_le_of_lt Nat.and_le_left hS
theorem lt_or {S T : Nat} (hS : S < 2 ^ 256) (hT : T < 2 ^ 256) : S ||| T < 2 ^ 256 := Nat.or_lt_two_pow hS hT
theorem lt_xor {S T : Nat} (hS : S < 2 ^ 256) (hT : T < 2 ^ 256) : S ^^^ T < 2 ^ 256 := Nat.xor_lt_two_pow hS hT
theorem full_lt : full < 2 ^ 256 := by decide +kernel
theorem bit_le {c : Nat} (h : c < 256) : 2 ^ c < 2 ^ 256 := Nat.pow_lt_pow_right (by decide) h
theorem wd_bit (S c : Nat) (i : Nat) : wd (S ||| 2 ^ c) i = if i = c / 64 then wd S i ||| bitN c else wd S i := by
  unfold bitN
  rw [← wd_or]
  split
  · rename_i h
    subst h
    congr 1
    apply Nat.eq_of_testBit_eq; intro j
    rw [testBit_wd, Nat.testBit_two_pow, Nat.testBit_two_pow]
    by_cases hj : j < 64
    · simp [hj]; omega
    · simp [hj]; omega
  · rename_i h
    apply Nat.eq_of_testBit_eq; intro j
    rw [Nat.testBit_or, testBit_wd, testBit_wd, Nat.testBit_two_pow]
    by_cases hj : j < 64
    · have : ¬ (c = 64 * i + j) := by omega
      simp [hj, this]
    · simp [hj]
theorem and_bit_zero (S c : Nat) : wd S (c / 64) &&& bitN c = 0 ↔ S.testBit c = false := by
  unfold bitN
  have e : 64 * (c / 64) + c % 64 = c := by omega
  have l : c % 64 < 64 := by omega
  have h := testBit_wd S (c / 64) (c % 64)
  rw [e] at h
  simp only [l, decide_true, Bool.true_and] at h
  rw [← h]
  constructor
  · intro hz
    have := congrArg (fun x => x.testBit (c % 64)) hz
    simpa [Nat.testBit_and, Nat.testBit_two_pow] using this
  · intro hz
    apply Nat.eq_of_testBit_eq; intro j
    rw [Nat.testBit_and, Nat.testBit_two_pow, Nat.zero_testBit]
    by_cases hj : c % 64 = j
    · subst hj; simp [hz]
    · simp [hj]
theorem testBit_ge {S : Nat} (h : S < 2 ^ 256) {j : Nat} (hj : 256 ≤ j) : S.testBit j = false :=
  Nat.testBit_lt_two_pow (Nat.lt_of_lt_of_le h (Nat.pow_le_pow_right (by decide) hj))
theorem not_not_set (A : Nat) : full ^^^ (full ^^^ A) = A := by rw [← Nat.xor_assoc, Nat.xor_self, Nat.zero_xor]
theorem de_morgan (A B : Nat) (hA : A < 2 ^ 256) (hB : B < 2 ^ 256) : full ^^^ (A &&& B) = (full ^^^ A) ||| (full ^^^ B) := by
  apply Nat.eq_of_testBit_eq; intro j
  simp only [Nat.testBit_xor, Nat.testBit_and, Nat.testBit_or, testBit_full]
  by_cases hj : j < 256
  · cases A.testBit j <;> cases B.testBit j <;> simp [hj]
  · have ha := testBit_ge hA (Nat.le_of_not_lt hj)
    have hb := testBit_ge hB (Nat.le_of_not_lt hj)
    simp [hj, ha, hb]
theorem and_not_set (A : Nat) (hA : A < 2 ^ 256) : A &&& (full ^^^ A) = 0 := by
  apply Nat.eq_of_testBit_eq; intro j
  simp only [Nat.testBit_xor, Nat.testBit_and, testBit_full, Nat.zero_testBit]
  by_cases hj : j < 256
  · cases A.testBit j <;> simp [hj]
  · simp [testBit_ge hA (Nat.le_of_not_lt hj)]
theorem or_not_set (A : Nat) (hA : A < 2 ^ 256) : A ||| (full ^^^ A) = full := by
  apply Nat.eq_of_testBit_eq; intro j
  simp only [Nat.testBit_xor, Nat.testBit_or, testBit_full]
  by_cases hj : j < 256
  · cases A.testBit j <;> simp [hj]
  · simp [testBit_ge hA (Nat.le_of_not_lt hj), hj]
theorem and_full (A : Nat) (hA : A < 2 ^ 256) : A &&& full = A := by
  apply Nat.eq_of_testBit_eq; intro j
  simp only [Nat.testBit_and, testBit_full]
  by_cases hj : j < 256
  · simp [hj]
  · simp [testBit_ge hA (Nat.le_of_not_lt hj), hj]
end Sets
end Go.Proofs.YtipghpljaiemmaaDoor
namespace Go.Proofs.YtipghpljaiemmaaDoor
namespace Sets

/-- The bits of x below n. -/
def pc : Nat → Nat → Nat
  | 0, _ => 0
  | n + 1, x => x % 2 + pc n (x / 2)

theorem pc_le : ∀ n x, pc n x ≤ n
  | 0, _ => Nat.le_refl _
  | n + 1, x => by have := pc_le n (x / 2); simp only [pc]; omega
theorem pc_add : ∀ m n x, pc (m + n) x = pc m x + pc n (x / 2 ^ m)
  | 0, n, x => by simp [pc]
  | m + 1, n, x => by
    rw [show m + 1 + n = (m + n) + 1 from by omega]
    simp only [pc]
    rw [pc_add m n (x / 2), Nat.div_div_eq_div_mul, show 2 * 2 ^ m = 2 ^ (m + 1) from by rw [Nat.pow_succ]; omega]
    omega
theorem pc_mod : ∀ m x, pc m (x % 2 ^ m) = pc m x
  | 0, x => by simp [pc]
  | m + 1, x => by
    simp only [pc]
    have e1 : x % 2 ^ (m + 1) % 2 = x % 2 := Nat.mod_mod_of_dvd _ ⟨2 ^ m, by rw [Nat.pow_succ]; omega⟩
    have e2 : x % 2 ^ (m + 1) / 2 = (x / 2) % 2 ^ m := by
      rw [Nat.pow_succ, Nat.mul_comm, Nat.mod_mul_right_div_self]
    rw [e1, e2, pc_mod m]
theorem pc_succ (k x : Nat) : pc (k + 1) x = pc k x + (x.testBit k).toNat := by
  rw [pc_add k 1 x]
  simp only [pc]
  rw [Nat.testBit_eq_decide_div_mod_eq]
  by_cases h : x / 2 ^ k % 2 = 1
  · simp [h]
  · simp [h]; omega
theorem pc_and_or : ∀ n x y, pc n (x &&& y) + pc n (x ||| y) = pc n x + pc n y
  | 0, _, _ => rfl
  | n + 1, x, y => by
    simp only [pc]
    have h1 : (x &&& y) / 2 = x / 2 &&& y / 2 := by simpa using (Nat.and_div_two_pow (a := x) (b := y) (n := 1))
    have h2 : (x ||| y) / 2 = x / 2 ||| y / 2 := by simpa using (Nat.or_div_two_pow (a := x) (b := y) (n := 1))
    have h3 : (x &&& y) % 2 = x % 2 &&& y % 2 := by simpa using (Nat.and_mod_two_pow (a := x) (b := y) (n := 1))
    have h4 : (x ||| y) % 2 = x % 2 ||| y % 2 := by simpa using (Nat.or_mod_two_pow (a := x) (b := y) (n := 1))
    have h5 : ∀ a : Nat, a < 2 → ∀ b : Nat, b < 2 → (a &&& b) + (a ||| b) = a + b := by decide
    have := h5 (x % 2) (by omega) (y % 2) (by omega)
    have := pc_and_or n (x / 2) (y / 2)
    rw [h1, h2, h3, h4]; omega

/-- A function of bytes, byte by byte, over the n least bytes of x. -/
def bs (f : Nat → Nat) : Nat → Nat → Nat
  | 0, _ => 0
  | n + 1, x => f (x % 256) + 256 * bs f n (x / 256)
def rep (m : Nat) : Nat → Nat
  | 0 => 0
  | n + 1 => m + 256 * rep m n
theorem and_rep (m : Nat) (hm : m < 256) : ∀ n x, x &&& rep m n = bs (fun b => b &&& m) n x
  | 0, x => by simp [rep, bs]
  | n + 1, x => by
    simp only [rep, bs]
    rw [← and_rep m hm n (x / 256)]
    have e := Nat.mod_add_div (x &&& (m + 256 * rep m n)) 256
    have h1 : (x &&& (m + 256 * rep m n)) % 256 = x % 256 &&& m := by
      have := (Nat.and_mod_two_pow (a := x) (b := m + 256 * rep m n) (n := 8))
      simp only [Nat.reducePow] at this
      rw [this]; congr 1; omega
    have h2 : (x &&& (m + 256 * rep m n)) / 256 = x / 256 &&& rep m n := by
      have := (Nat.and_div_two_pow (a := x) (b := m + 256 * rep m n) (n := 8))
      simp only [Nat.reducePow] at this
      rw [this]; congr 1; omega
    rw [← e, h1, h2]
theorem bs_congr {f g : Nat → Nat} (h : ∀ b, b < 256 → f b = g b) : ∀ n x, bs f n x = bs g n x
  | 0, _ => rfl
  | n + 1, x => by simp only [bs]; rw [h _ (by omega), bs_congr h n]
theorem bs_add (f g : Nat → Nat) : ∀ n x, bs f n x + bs g n x = bs (fun b => f b + g b) n x
  | 0, _ => rfl
  | n + 1, x => by simp only [bs]; rw [← bs_add f g n]; omega
theorem bs_bs (f g : Nat → Nat) (hg : ∀ b, b < 256 → g b < 256) : ∀ n x, bs f n (bs g n x) = bs (fun b => f (g b)) n x
  | 0, _ => rfl
  | n + 1, x => by
    simp only [bs]
    have := hg (x % 256) (by omega)
    rw [show (g (x % 256) + 256 * bs g n (x / 256)) % 256 = g (x % 256) from by omega, show (g (x % 256) + 256 * bs g n (x / 256)) / 256 = bs g n (x / 256) from by omega, bs_bs f g hg n]
/-- x shifted right by k < 8, masked so that nothing of the next byte is left. -/
theorem shift_bs (d m : Nat) (hd : d = 2 ∨ d = 4) (hm : ∀ b, b < 256 → ∀ c, c < d → (b / d + (256 / d) * c) &&& m = b / d &&& m) :
    ∀ n x, bs (fun b => b &&& m) n (x / d) = bs (fun b => b / d &&& m) n x
  | 0, _ => rfl
  | n + 1, x => by
    simp only [bs]
    have e1 : x / d % 256 = (x % 256) / d + (256 / d) * ((x / 256) % d) := by rcases hd with rfl | rfl <;> omega
    have e2 : x / d / 256 = x / 256 / d := by rcases hd with rfl | rfl <;> omega
    rw [e1, hm _ (by omega) _ (by rcases hd with rfl | rfl <;> omega), e2, shift_bs d m hd hm n]

def g1 (b : Nat) : Nat := (b / 2 &&& 85) + (b &&& 85)
def g2 (b : Nat) : Nat := (b / 4 &&& 51) + (b &&& 51)
def g3 (b : Nat) : Nat := b / 16 + b % 16
theorem g1_lt : ∀ b, b < 256 → g1 b < 256 := by decide +kernel
theorem g2_lt : ∀ b, b < 256 → g2 (g1 b) < 256 := by decide +kernel
theorem g21_nib : ∀ b, b < 256 → g2 (g1 b) % 16 ≤ 4 ∧ g2 (g1 b) / 16 ≤ 4 := by decide +kernel
theorem g321 : ∀ b, b < 256 → g3 (g2 (g1 b)) = pc 8 b := by decide +kernel
theorem rep85 : rep 85 8 = 6148914691236517205 := by decide
theorem rep51 : rep 51 8 = 3689348814741910323 := by decide
theorem rep15 : rep 15 8 = 1085102592571150095 := by decide
theorem step1 (x : Nat) : (x / 2 &&& 6148914691236517205) + (x &&& 6148914691236517205) = bs g1 8 x := by
  rw [← rep85, and_rep _ (by decide), and_rep _ (by decide), shift_bs 2 85 (.inl rfl) (by decide +kernel), bs_add]; rfl
theorem step2 (x : Nat) : (x / 4 &&& 3689348814741910323) + (x &&& 3689348814741910323) = bs g2 8 x := by
  rw [← rep51, and_rep _ (by decide), and_rep _ (by decide), shift_bs 4 51 (.inr rfl) (by decide +kernel), bs_add]; rfl
theorem step3 : ∀ n x, bs (fun b => b &&& 15) n (bs (fun b => g2 (g1 b)) n x / 16 + bs (fun b => g2 (g1 b)) n x) = bs (pc 8) n x
  | 0, _ => rfl
  | n + 1, x => by
    simp only [bs]
    have h1 := g21_nib (x % 256) (by omega)
    have h3 := g321 (x % 256) (by omega)
    unfold g3 at h3
    generalize g2 (g1 (x % 256)) = b at *
    have hn : bs (fun b => g2 (g1 b)) n (x / 256) % 16 ≤ 4 := by
      cases n with
      | zero => simp [bs]
      | succ n => simp only [bs]; have := (g21_nib (x / 256 % 256) (by omega)).1; omega
    have ih := step3 n (x / 256)
    generalize bs (fun b => g2 (g1 b)) n (x / 256) = q at *
    have e1 : ((b + 256 * q) / 16 + (b + 256 * q)) / 256 = q / 16 + q := by omega
    have e2 : ∀ y : Nat, y % 256 &&& 15 = y % 16 := by
      intro y
      rw [show (15 : Nat) = 2 ^ 4 - 1 from rfl, Nat.and_two_pow_sub_one_eq_mod]; omega
    rw [e1, e2, ih]
    congr 1
    omega
theorem bs8 (x : Nat) : ∃ p0 p1 p2 p3 p4 p5 p6 p7, p0 ≤ 8 ∧ p1 ≤ 8 ∧ p2 ≤ 8 ∧ p3 ≤ 8 ∧ p4 ≤ 8 ∧ p5 ≤ 8 ∧ p6 ≤ 8 ∧ p7 ≤ 8 ∧
    bs (pc 8) 8 x = p0 + 256 * (p1 + 256 * (p2 + 256 * (p3 + 256 * (p4 + 256 * (p5 + 256 * (p6 + 256 * p7)))))) ∧ pc 64 x = p0 + p1 + p2 + p3 + p4 + p5 + p6 + p7 := by
  refine ⟨pc 8 (x % 256), pc 8 (x / 256 % 256), pc 8 (x / 256 / 256 % 256), pc 8 (x / 256 / 256 / 256 % 256), pc 8 (x / 256 / 256 / 256 / 256 % 256), pc 8 (x / 256 / 256 / 256 / 256 / 256 % 256), pc 8 (x / 256 / 256 / 256 / 256 / 256 / 256 % 256), pc 8 (x / 256 / 256 / 256 / 256 / 256 / 256 / 256 % 256),
    pc_le _ _, pc_le _ _, pc_le _ _, pc_le _ _, pc_le _ _, pc_le _ _, pc_le _ _, pc_le _ _, by simp only [bs]; omega, ?_⟩
  have m : ∀ y, pc 8 (y % 256) = pc 8 y := fun y => pc_mod 8 y
  have a : ∀ n y, pc (8 + n) y = pc 8 y + pc n (y / 256) := fun n y => pc_add 8 n y
  simp only [m]
  rw [show 64 = 8 + (8 + (8 + (8 + (8 + (8 + (8 + (8 + 0))))))) from rfl]
  simp only [a]
  simp only [pc]
  omega
theorem sum8 (p0 p1 p2 p3 p4 p5 p6 p7 a4 a5 a6 a : Nat) (h0 : p0 ≤ 8) (h1 : p1 ≤ 8) (h2 : p2 ≤ 8) (h3 : p3 ≤ 8) (h4 : p4 ≤ 8) (h5 : p5 ≤ 8) (h6 : p6 ≤ 8) (h7 : p7 ≤ 8)
    (ha : a = p0 + 256 * (p1 + 256 * (p2 + 256 * (p3 + 256 * (p4 + 256 * (p5 + 256 * (p6 + 256 * p7)))))))
    (e4 : a4 = (a + a / 256) % 18446744073709551616) (e5 : a5 = (a4 + a4 / 65536) % 18446744073709551616) (e6 : a6 = (a5 + a5 / 4294967296) % 18446744073709551616) : a6 % 128 = p0 + p1 + p2 + p3 + p4 + p5 + p6 + p7 := by
  obtain ⟨q6, hq6⟩ : ∃ q, q = p6 + 256 * p7 := ⟨_, rfl⟩
  obtain ⟨q5, hq5⟩ : ∃ q, q = p5 + 256 * q6 := ⟨_, rfl⟩
  obtain ⟨q4, hq4⟩ : ∃ q, q = p4 + 256 * q5 := ⟨_, rfl⟩
  obtain ⟨q3, hq3⟩ : ∃ q, q = p3 + 256 * q4 := ⟨_, rfl⟩
  obtain ⟨q2, hq2⟩ : ∃ q, q = p2 + 256 * q3 := ⟨_, rfl⟩
  obtain ⟨q1, hq1⟩ : ∃ q, q = p1 + 256 * q2 := ⟨_, rfl⟩
  have ha' : a = p0 + 256 * q1 := by rw [ha, hq1, hq2, hq3, hq4, hq5, hq6]
  clear ha
  have b6 : q6 ≤ 2056 := by omega
  have b5 : q5 ≤ 526344 := by omega
  have b4 : q4 ≤ 134744072 := by omega
  have b3 : q3 ≤ 34494482440 := by omega
  have b2 : q2 ≤ 8830587504648 := by omega
  have b1 : q1 ≤ 2260630401189896 := by omega
  have d1 : a / 256 = q1 := by omega
  rw [d1] at e4
  have r4 : a4 = a + q1 := by omega
  clear e4 d1
  have d4 : a4 / 65536 = q2 + q3 := by clear e5 e6 hq4 hq5 hq6; omega
  rw [d4] at e5
  have r5 : a5 = a + q1 + q2 + q3 := by clear e6 hq4 hq5 hq6 d4; omega
  clear e5 d4
  have d5 : a5 / 4294967296 = q4 + q5 + q6 + p7 := by
    have s0 : a = p0 + 256 * p1 + 65536 * p2 + 16777216 * p3 + 4294967296 * q4 := by clear r4 r5 e6; omega
    have s1 : q1 = p1 + 256 * p2 + 65536 * p3 + 16777216 * p4 + 4294967296 * q5 := by clear r4 r5 e6; omega
    have s2 : q2 = p2 + 256 * p3 + 65536 * p4 + 16777216 * p5 + 4294967296 * q6 := by clear r4 r5 e6; omega
    have s3 : q3 = p3 + 256 * p4 + 65536 * p5 + 16777216 * p6 + 4294967296 * p7 := by clear r4 r5 e6; omega
    rw [r5, s0, s1, s2, s3]
    clear s0 s1 s2 s3 r4 r5 e6 hq1 hq2 hq3 hq4 hq5 hq6 ha' b1 b2 b3 b4 b5 b6
    omega
  rw [d5] at e6
  have r6 : a6 = p0 + p1 + p2 + p3 + p4 + p5 + p6 + p7 + 256 * (q1 + q2 + q3 + q4 + q5 + q6 + p7) := by
    rw [r5, ha'] at e6
    clear d5 r4 r5
    omega
  omega
theorem ctz_bit (x : Nat) (h0 : x ≠ 0) (h : x < 18446744073709551616) : x.testBit (Lib.ctz 64 x) = true ∧ (∀ j, j < Lib.ctz 64 x → x.testBit j = false) ∧ Lib.ctz 64 x < 64 := by
  obtain ⟨m, hm, hk⟩ := Lib.ctzFrom_spec 64 x (by omega) h
  unfold Lib.ctz
  rw [if_neg h0]
  generalize Lib.ctzFrom 64 x = k at *
  subst hm
  refine ⟨?_, fun j hj => ?_, hk⟩
  · rw [Nat.testBit_two_pow_mul, Nat.sub_self]; simp
  · rw [Nat.testBit_two_pow_mul]; simp; omega
theorem ctz_eq (x k : Nat) (h : x < 18446744073709551616) (hb : x.testBit k = true) (hl : ∀ j, j < k → x.testBit j = false) : Lib.ctz 64 x = k := by
  have h0 : x ≠ 0 := by rintro rfl; simp at hb
  obtain ⟨h1, h2, -⟩ := ctz_bit x h0 h
  rcases Nat.lt_trichotomy (Lib.ctz 64 x) k with hlt | he | hlt
  · rw [hl _ hlt] at h1; cases h1
  · exact he
  · rw [h2 _ hlt] at hb; cases hb
theorem wd_eq_zero (S i : Nat) (h : ∀ j, j < 64 → S.testBit (64 * i + j) = false) : wd S i = 0 := by
  apply Nat.eq_of_testBit_eq; intro j
  rw [testBit_wd, Nat.zero_testBit]
  by_cases hj : j < 64
  · simp [hj, h j hj]
  · simp [hj]
theorem wd_ne_zero (S c : Nat) (h : S.testBit c = true) : wd S (c / 64) ≠ 0 := by
  intro h0
  have := testBit_wd S (c / 64) (c % 64)
  rw [h0, show 64 * (c / 64) + c % 64 = c from by omega, h, Nat.zero_testBit] at this
  simp at this
  omega
theorem first_word (S c : Nat) (h1 : S.testBit c = true) (h2 : ∀ d, d < c → S.testBit d = false) :
    (∀ i, i < c / 64 → wd S i = 0) ∧ wd S (c / 64) ≠ 0 ∧ 64 * (c / 64) + Lib.ctz 64 (wd S (c / 64)) = c := by
  refine ⟨fun i hi => wd_eq_zero _ _ fun j hj => h2 _ (by omega), wd_ne_zero S c h1, ?_⟩
  have : Lib.ctz 64 (wd S (c / 64)) = c % 64 := ctz_eq _ _ (wd_lt _ _) (by
    rw [testBit_wd, show 64 * (c / 64) + c % 64 = c from by omega, h1]; simp; omega) (fun j hj => by
    rw [testBit_wd, h2 _ (by omega)]; simp)
  omega
theorem pc256 (S : Nat) : pc 256 S = pc 64 (wd S 0) + pc 64 (wd S 1) + pc 64 (wd S 2) + pc 64 (wd S 3) := by
  have m : ∀ i, pc 64 (wd S i) = pc 64 (S / 2 ^ (64 * i)) := fun i => by unfold wd; rw [pc_mod]
  rw [m, m, m, m, show 256 = 64 + (64 + (64 + 64)) from rfl, pc_add, pc_add 64 (64 + 64), pc_add 64 64, Nat.div_div_eq_div_mul, Nat.div_div_eq_div_mul, ← Nat.pow_add, ← Nat.pow_add]
  simp only [Nat.mul_zero, Nat.pow_zero, Nat.div_one, Nat.mul_one, show 64 * 2 = 64 + 64 from rfl, show 64 * 3 = 64 + 64 + 64 from rfl]
  omega
/-- How many bits a word, and a set, has. -/
def pop (x : Nat) : Nat := pc 64 x
def cnt (S : Nat) : Nat := pc 256 S
theorem pop_le (x : Nat) : pop x ≤ 64 := pc_le _ _
theorem cnt_le (S : Nat) : cnt S ≤ 256 := pc_le _ _
theorem cnt_pop (S : Nat) : cnt S = pop (wd S 0) + pop (wd S 1) + pop (wd S 2) + pop (wd S 3) := pc256 S
theorem cnt_and_or (x y : Nat) : cnt (x &&& y) + cnt (x ||| y) = cnt x + cnt y := pc_and_or 256 x y
attribute [irreducible] pop cnt
end Sets
end Go.Proofs.YtipghpljaiemmaaDoor
namespace Go.Proofs.YtipghpljaiemmaaDoor
namespace Sets
def bitsOf (i r : Nat) : List Nat := ((List.range 64).filter r.testBit).map (64 * i + ·)
def upTo (S i : Nat) : List Nat := (List.range (64 * i)).filter S.testBit
def listN (S : Nat) : List Nat := (List.range 256).filter S.testBit
theorem bitsOf_zero (i : Nat) : bitsOf i 0 = [] := by simp [bitsOf]
theorem filter_first (p q : Nat → Bool) (n k : Nat) (hk : k < n) (h1 : p k = true) (h2 : ∀ j, j < k → p j = false) (hq : ∀ j, q j = (p j && decide (j ≠ k))) :
    (List.range n).filter p = k :: (List.range n).filter q := by
  obtain ⟨m, rfl⟩ : ∃ m, n = k + (m + 1) := ⟨n - k - 1, by omega⟩
  rw [List.range_add, List.filter_append, List.filter_append]
  have e1 : (List.range k).filter p = [] := List.filter_eq_nil_iff.2 fun j hj => by rw [h2 j (by simpa using hj)]; simp
  have e2 : (List.range k).filter q = [] := List.filter_eq_nil_iff.2 fun j hj => by rw [hq, h2 j (by simpa using hj)]; simp
  rw [e1, e2, List.nil_append, List.nil_append, List.range_succ_eq_map, List.map_cons, List.filter_cons, List.filter_cons]
  have hk0 : k + 0 = k := rfl
  rw [hk0, h1, hq k]
  simp only [ne_eq, not_true_eq_false, decide_false, Bool.and_false, if_true]
  congr 1
  apply List.filter_congr
  intro j hj
  simp only [List.mem_map] at hj
  obtain ⟨a, ⟨b, -, rfl⟩, rfl⟩ := hj
  rw [hq]
  simp
theorem clear_low (r : Nat) (h0 : r ≠ 0) (h : r < 18446744073709551616) (j : Nat) : (r &&& (r - 1)).testBit j = (r.testBit j && decide (j ≠ Lib.ctz 64 r)) := by
  obtain ⟨m, hm, hk⟩ := Lib.ctzFrom_spec 64 r (by omega) h
  have hc : Lib.ctz 64 r = Lib.ctzFrom 64 r := by unfold Lib.ctz; rw [if_neg h0]
  rw [hc]
  generalize Lib.ctzFrom 64 r = k at *
  have e : r - 1 = 2 ^ k * (2 * m) + (2 ^ k - 1) := by
    have : 0 < 2 ^ k := Nat.pow_pos (by decide)
    rw [hm, Nat.mul_add, Nat.mul_one]; omega
  have hl : 2 ^ k - 1 < 2 ^ k := by have : 0 < 2 ^ k := Nat.pow_pos (by decide); omega
  rw [Nat.testBit_and, e, Nat.testBit_two_pow_mul_add _ hl, Nat.testBit_two_pow_sub_one]
  rw [hm, Nat.testBit_two_pow_mul]
  by_cases hj : j < k
  · have : ¬ k ≤ j := by omega
    simp [hj, this]
  · by_cases he : j = k
    · subst he; simp
    · obtain ⟨d, rfl⟩ : ∃ d, j = k + (d + 1) := ⟨j - k - 1, by omega⟩
      have e1 : k + (d + 1) - k = d + 1 := by omega
      have e2 : (2 * m + 1) / 2 = m := by omega
      have e3 : 2 * m / 2 = m := by omega
      rw [e1, Nat.testBit_succ, Nat.testBit_succ, e2, e3]
      have : ¬ k + (d + 1) < k := by omega
      simp [this]
theorem clear_lt (r : Nat) (h0 : r ≠ 0) : r &&& (r - 1) < r := Nat.lt_of_le_of_lt Nat.and_le_right (by omega)
theorem bitsOf_step (i r : Nat) (h0 : r ≠ 0) (h : r < 18446744073709551616) : bitsOf i r = (64 * i + Lib.ctz 64 r) :: bitsOf i (r &&& (r - 1)) := by
  obtain ⟨h1, h2, h3⟩ := ctz_bit r h0 h
  unfold bitsOf
  rw [filter_first r.testBit (r &&& (r - 1)).testBit 64 _ h3 h1 h2 (clear_low r h0 h)]
  rfl
theorem upTo_zero (S : Nat) : upTo S 0 = [] := rfl
theorem upTo_succ (S i : Nat) : upTo S (i + 1) = upTo S i ++ bitsOf i (wd S i) := by
  unfold upTo bitsOf
  rw [show 64 * (i + 1) = 64 * i + 64 from by omega, List.range_add, List.filter_append]
  congr 1
  rw [List.filter_map]
  congr 1
  apply List.filter_congr
  intro j hj
  rw [testBit_wd]
  simp at hj
  simp [hj]
theorem upTo_four (S : Nat) : upTo S 4 = listN S := rfl
theorem upTo_length (S i : Nat) : (upTo S i).length ≤ 64 * i := Nat.le_trans (List.length_filter_le _ _) (by simp)
theorem mem_listN (S c : Nat) : c ∈ listN S ↔ c < 256 ∧ S.testBit c = true := by simp [listN]
theorem listN_length_aux (S : Nat) : ∀ n, ((List.range n).filter S.testBit).length = pc n S
  | 0 => rfl
  | n + 1 => by
    rw [List.range_succ, List.filter_append, List.length_append, listN_length_aux S n, pc_succ]
    cases h : S.testBit n <;> simp [h]
theorem listN_length (S : Nat) : (listN S).length = cnt S := by unfold cnt; exact listN_length_aux S 256
theorem listN_sorted (S : Nat) : (listN S).Pairwise (· < ·) := List.Pairwise.filter _ List.pairwise_lt_range
theorem ofN_testBit_aux (l : List Nat) : ∀ (A c : Nat), (l.foldl (fun S c => S ||| 2 ^ c) A).testBit c = (A.testBit c || l.contains c) := by
  induction l with
  | nil => intro A c; simp
  | cons x l ih =>
    intro A c
    rw [List.foldl_cons, ih, Nat.testBit_or, Nat.testBit_two_pow, List.contains_cons]
    by_cases h : x = c
    · subst h; simp
    · have : (c == x) = false := by simpa using fun e => h e.symm
      simp [h, this]
theorem ofN_testBit (l : List Nat) (c : Nat) : (ofN l).testBit c = l.contains c := by unfold ofN; rw [ofN_testBit_aux]; simp
theorem ofN_listN (S : Nat) (h : S < 2 ^ 256) : ofN (listN S) = S := by
  apply Nat.eq_of_testBit_eq; intro c
  rw [ofN_testBit]
  rw [Bool.eq_iff_iff, List.contains_iff_mem, mem_listN]
  constructor
  · exact fun h => h.2
  · intro hb
    refine ⟨?_, hb⟩
    apply Nat.lt_of_not_le; intro hle
    rw [Nat.testBit_lt_two_pow (Nat.lt_of_lt_of_le h (Nat.pow_le_pow_right (by decide) hle))] at hb
    cases hb
theorem ofN_lt (l : List Nat) (hl : ∀ x ∈ l, x < 256) : ofN l < 2 ^ 256 := by
  apply Nat.lt_pow_two_of_testBit
  intro j hj
  rw [ofN_testBit]
  cases h : l.contains j with
  | false => rfl
  | true => have := hl j (List.contains_iff_mem.1 h); omega
attribute [irreducible] bitsOf upTo listN
end Sets
end Go.Proofs.YtipghpljaiemmaaDoor
