/- How many bits a number has: by halves, by bytes, and by the well-known sum of masks. Plain arithmetic; no program. -/
import Derived.Test.YtlbaecjmfgahgaaDoorSets
import Derived.Lib.TrailingZeros
namespace Go.Proofs.YtlbaecjmfgahgaaDoor
namespace Sets

/-- The bits of x below n. -/
def pc : Nat → Nat → Nat
  | 0, _ => 0
  | n + 1, x => x % 2 + pc n (x / 2)

theorem pc_le : ∀ n x, pc n x ≤ n
  | 0, _ => Nat.le_refl _
  | n + 1, x => by have := pc_le n (x / 2); simp only [pc]; omega
theorem pc_add : ∀ m n x, pc (m + n) x = pc m x + pc n (x / 2 ^ m)
  | 0, n, x => by simp [pc]
  | m + 1, n, x => by
    rw [show m + 1 + n = (m + n) + 1 from by omega]
    simp only [pc]
    rw [pc_add m n (x / 2), Nat.div_div_eq_div_mul, show 2 * 2 ^ m = 2 ^ (m + 1) from by rw [Nat.pow_succ]; omega]
    omega
theorem pc_mod : ∀ m x, pc m (x % 2 ^ m) = pc m x
  | 0, x => by simp [pc]
  | m + 1, x => by
    simp only [pc]
    have e1 : x % 2 ^ (m + 1) % 2 = x % 2 := Nat.mod_mod_of_dvd _ ⟨2 ^ m, by rw [Nat.pow_succ]; omega⟩
    have e2 : x % 2 ^ (m + 1) / 2 = (x / 2) % 2 ^ m := by
      rw [Nat.pow_succ, Nat.mul_comm, Nat.mod_mul_right_div_self]
    rw [e1, e2, pc_mod m]
theorem pc_succ (k x : Nat) : pc (k + 1) x = pc k x + (x.testBit k).toNat := by
  rw [pc_add k 1 x]
  simp only [pc]
  rw [Nat.testBit_eq_decide_div_mod_eq]
  by_cases h : x / 2 ^ k % 2 = 1
  · simp [h]
  · simp [h]; omega
theorem pc_and_or : ∀ n x y, pc n (x &&& y) + pc n (x ||| y) = pc n x + pc n y
  | 0, _, _ => rfl
  | n + 1, x, y => by
    simp only [pc]
    have h1 : (x &&& y) / 2 = x / 2 &&& y / 2 := by simpa using (Nat.and_div_two_pow (a := x) (b := y) (n := 1))
    have h2 : (x ||| y) / 2 = x / 2 ||| y / 2 := by simpa using (Nat.or_div_two_pow (a := x) (b := y) (n := 1))
    have h3 : (x &&& y) % 2 = x % 2 &&& y % 2 := by simpa using (Nat.and_mod_two_pow (a := x) (b := y) (n := 1))
    have h4 : (x ||| y) % 2 = x % 2 ||| y % 2 := by simpa using (Nat.or_mod_two_pow (a := x) (b := y) (n := 1))
    have h5 : ∀ a : Nat, a < 2 → ∀ b : Nat, b < 2 → (a &&& b) + (a ||| b) = a + b := by decide
    have := h5 (x % 2) (by omega) (y % 2) (by omega)
    have := pc_and_or n (x / 2) (y / 2)
    rw [h1, h2, h3, h4]; omega

/-- A function of bytes, byte by byte, over the n least bytes of x. -/
def bs (f : Nat → Nat) : Nat → Nat → Nat
  | 0, _ => 0
  | n + 1, x => f (x % 256) + 256 * bs f n (x / 256)
def rep (m : Nat) : Nat → Nat
  | 0 => 0
  | n + 1 => m + 256 * rep m n
theorem and_rep (m : Nat) (hm : m < 256) : ∀ n x, x &&& rep m n = bs (fun b => b &&& m) n x
  | 0, x => by simp [rep, bs]
  | n + 1, x => by
    simp only [rep, bs]
    rw [← and_rep m hm n (x / 256)]
    have e := Nat.mod_add_div (x &&& (m + 256 * rep m n)) 256
    have h1 : (x &&& (m + 256 * rep m n)) % 256 = x % 256 &&& m := by
      have := (Nat.and_mod_two_pow (a := x) (b := m + 256 * rep m n) (n := 8))
      simp only [Nat.reducePow] at this
      rw [this]; congr 1; omega
    have h2 : (x &&& (m + 256 * rep m n)) / 256 = x / 256 &&& rep m n := by
      have := (Nat.and_div_two_pow (a := x) (b := m + 256 * rep m n) (n := 8))
      simp only [Nat.reducePow] at this
      rw [this]; congr 1; omega
    rw [← e, h1, h2]
theorem bs_congr {f g : Nat → Nat} (h : ∀ b, b < 256 → f b = g b) : ∀ n x, bs f n x = bs g n x
  | 0, _ => rfl
  | n + 1, x => by simp only [bs]; rw [h _ (by omega), bs_congr h n]
theorem bs_add (f g : Nat → Nat) : ∀ n x, bs f n x + bs g n x = bs (fun b => f b + g b) n x
  | 0, _ => rfl
  | n + 1, x => by simp only [bs]; rw [← bs_add f g n]; omega
theorem bs_bs (f g : Nat → Nat) (hg : ∀ b, b < 256 → g b < 256) : ∀ n x, bs f n (bs g n x) = bs (fun b => f (g b)) n x
  | 0, _ => rfl
  | n + 1, x => by
    simp only [bs]
    have := hg (x % 256) (by omega)
    rw [show (g (x % 256) + 256 * bs g n (x / 256)) % 256 = g (x % 256) from by omega, show (g (x % 256) + 256 * bs g n (x / 256)) / 256 = bs g n (x / 256) from by omega, bs_bs f g hg n]
/-- x shifted right by k < 8, masked so that nothing of the next byte is left. -/
theorem shift_bs (d m : Nat) (hd : d = 2 ∨ d = 4) (hm : ∀ b, b < 256 → ∀ c, c < d → (b / d + (256 / d) * c) &&& m = b / d &&& m) :
    ∀ n x, bs (fun b => b &&& m) n (x / d) = bs (fun b => b / d &&& m) n x
  | 0, _ => rfl
  | n + 1, x => by
    simp only [bs]
    have e1 : x / d % 256 = (x % 256) / d + (256 / d) * ((x / 256) % d) := by rcases hd with rfl | rfl <;> omega
    have e2 : x / d / 256 = x / 256 / d := by rcases hd with rfl | rfl <;> omega
    rw [e1, hm _ (by omega) _ (by rcases hd with rfl | rfl <;> omega), e2, shift_bs d m hd hm n]

def g1 (b : Nat) : Nat := (b / 2 &&& 85) + (b &&& 85)
def g2 (b : Nat) : Nat := (b / 4 &&& 51) + (b &&& 51)
def g3 (b : Nat) : Nat := b / 16 + b % 16
theorem g1_lt : ∀ b, b < 256 → g1 b < 256 := by decide +kernel
theorem g2_lt : ∀ b, b < 256 → g2 (g1 b) < 256 := by decide +kernel
theorem g21_nib : ∀ b, b < 256 → g2 (g1 b) % 16 ≤ 4 ∧ g2 (g1 b) / 16 ≤ 4 := by decide +kernel
theorem g321 : ∀ b, b < 256 → g3 (g2 (g1 b)) = pc 8 b := by decide +kernel
theorem rep85 : rep 85 8 = 6148914691236517205 := by decide
theorem rep51 : rep 51 8 = 3689348814741910323 := by decide
theorem rep15 : rep 15 8 = 1085102592571150095 := by decide
theorem step1 (x : Nat) : (x / 2 &&& 6148914691236517205) + (x &&& 6148914691236517205) = bs g1 8 x := by
  rw [← rep85, and_rep _ (by decide), and_rep _ (by decide), shift_bs 2 85 (.inl rfl) (by decide +kernel), bs_add]; rfl
theorem step2 (x : Nat) : (x / 4 &&& 3689348814741910323) + (x &&& 3689348814741910323) = bs g2 8 x := by
  rw [← rep51, and_rep _ (by decide), and_rep _ (by decide), shift_bs 4 51 (.inr rfl) (by decide +kernel), bs_add]; rfl
theorem step3 : ∀ n x, bs (fun b => b &&& 15) n (bs (fun b => g2 (g1 b)) n x / 16 + bs (fun b => g2 (g1 b)) n x) = bs (pc 8) n x
  | 0, _ => rfl
  | n + 1, x => by
    simp only [bs]
    have h1 := g21_nib (x % 256) (by omega)
    have h3 := g321 (x % 256) (by omega)
    unfold g3 at h3
    generalize g2 (g1 (x % 256)) = b at *
    have hn : bs (fun b => g2 (g1 b)) n (x / 256) % 16 ≤ 4 := by
      cases n with
      | zero => simp [bs]
      | succ n => simp only [bs]; have := (g21_nib (x / 256 % 256) (by omega)).1; omega
    have ih := step3 n (x / 256)
    generalize bs (fun b => g2 (g1 b)) n (x / 256) = q at *
    have e1 : ((b + 256 * q) / 16 + (b + 256 * q)) / 256 = q / 16 + q := by omega
    have e2 : ∀ y : Nat, y % 256 &&& 15 = y % 16 := by
      intro y
      rw [show (15 : Nat) = 2 ^ 4 - 1 from rfl, Nat.and_two_pow_sub_one_eq_mod]; omega
    rw [e1, e2, ih]
    congr 1
    omega
theorem bs8 (x : Nat) : ∃ p0 p1 p2 p3 p4 p5 p6 p7, p0 ≤ 8 ∧ p1 ≤ 8 ∧ p2 ≤ 8 ∧ p3 ≤ 8 ∧ p4 ≤ 8 ∧ p5 ≤ 8 ∧ p6 ≤ 8 ∧ p7 ≤ 8 ∧
    bs (pc 8) 8 x = p0 + 256 * (p1 + 256 * (p2 + 256 * (p3 + 256 * (p4 + 256 * (p5 + 256 * (p6 + 256 * p7)))))) ∧ pc 64 x = p0 + p1 + p2 + p3 + p4 + p5 + p6 + p7 := by
  refine ⟨pc 8 (x % 256), pc 8 (x / 256 % 256), pc 8 (x / 256 / 256 % 256), pc 8 (x / 256 / 256 / 256 % 256), pc 8 (x / 256 / 256 / 256 / 256 % 256), pc 8 (x / 256 / 256 / 256 / 256 / 256 % 256), pc 8 (x / 256 / 256 / 256 / 256 / 256 / 256 % 256), pc 8 (x / 256 / 256 / 256 / 256 / 256 / 256 / 256 % 256),
    pc_le _ _, pc_le _ _, pc_le _ _, pc_le _ _, pc_le _ _, pc_le _ _, pc_le _ _, pc_le _ _, by simp only [bs]; omega, ?_⟩
  have m : ∀ y, pc 8 (y % 256) = pc 8 y := fun y => pc_mod 8 y
  have a : ∀ n y, pc (8 + n) y = pc 8 y + pc n (y / 256) := fun n y => pc_add 8 n y
  simp only [m]
  rw [show 64 = 8 + (8 + (8 + (8 + (8 + (8 + (8 + (8 + 0))))))) from rfl]
  simp only [a]
  simp only [pc]
  omega
theorem sum8 (p0 p1 p2 p3 p4 p5 p6 p7 a4 a5 a6 a : Nat) (h0 : p0 ≤ 8) (h1 : p1 ≤ 8) (h2 : p2 ≤ 8) (h3 : p3 ≤ 8) (h4 : p4 ≤ 8) (h5 : p5 ≤ 8) (h6 : p6 ≤ 8) (h7 : p7 ≤ 8)
    (ha : a = p0 + 256 * (p1 + 256 * (p2 + 256 * (p3 + 256 * (p4 + 256 * (p5 + 256 * (p6 + 256 * p7)))))))
    (e4 : a4 = (a + a / 256) % 18446744073709551616) (e5 : a5 = (a4 + a4 / 65536) % 18446744073709551616) (e6 : a6 = (a5 + a5 / 4294967296) % 18446744073709551616) : a6 % 128 = p0 + p1 + p2 + p3 + p4 + p5 + p6 + p7 := by
  obtain ⟨q6, hq6⟩ : ∃ q, q = p6 + 256 * p7 := ⟨_, rfl⟩
  obtain ⟨q5, hq5⟩ : ∃ q, q = p5 + 256 * q6 := ⟨_, rfl⟩
  obtain ⟨q4, hq4⟩ : ∃ q, q = p4 + 256 * q5 := ⟨_, rfl⟩
  obtain ⟨q3, hq3⟩ : ∃ q, q = p3 + 256 * q4 := ⟨_, rfl⟩
  obtain ⟨q2, hq2⟩ : ∃ q, q = p2 + 256 * q3 := ⟨_, rfl⟩
  obtain ⟨q1, hq1⟩ : ∃ q, q = p1 + 256 * q2 := ⟨_, rfl⟩
  have ha' : a = p0 + 256 * q1 := by rw [ha, hq1, hq2, hq3, hq4, hq5, hq6]
  clear ha
  have b6 : q6 ≤ 2056 := by omega
  have b5 : q5 ≤ 526344 := by omega
  have b4 : q4 ≤ 134744072 := by omega
  have b3 : q3 ≤ 34494482440 := by omega
  have b2 : q2 ≤ 8830587504648 := by omega
  have b1 : q1 ≤ 2260630401189896 := by omega
  have d1 : a / 256 = q1 := by omega
  rw [d1] at e4
  have r4 : a4 = a + q1 := by omega
  clear e4 d1
  have d4 : a4 / 65536 = q2 + q3 := by clear e5 e6 hq4 hq5 hq6; omega
  rw [d4] at e5
  have r5 : a5 = a + q1 + q2 + q3 := by clear e6 hq4 hq5 hq6 d4; omega
  clear e5 d4
  have d5 : a5 / 4294967296 = q4 + q5 + q6 + p7 := by
    have s0 : a = p0 + 256 * p1 + 65536 * p2 + 16777216 * p3 + 4294967296 * q4 := by clear r4 r5 e6; omega
    have s1 : q1 = p1 + 256 * p2 + 65536 * p3 + 16777216 * p4 + 4294967296 * q5 := by clear r4 r5 e6; omega
    have s2 : q2 = p2 + 256 * p3 + 65536 * p4 + 16777216 * p5 + 4294967296 * q6 := by clear r4 r5 e6; omega
    have s3 : q3 = p3 + 256 * p4 + 65536 * p5 + 16777216 * p6 + 4294967296 * p7 := by clear r4 r5 e6; omega
    rw [r5, s0, s1, s2, s3]
    clear s0 s1 s2 s3 r4 r5 e6 hq1 hq2 hq3 hq4 hq5 hq6 ha' b1 b2 b3 b4 b5 b6
    omega
  rw [d5] at e6
  have r6 : a6 = p0 + p1 + p2 + p3 + p4 + p5 + p6 + p7 + 256 * (q1 + q2 + q3 + q4 + q5 + q6 + p7) := by
    rw [r5, ha'] at e6
    clear d5 r4 r5
    omega
  omega
theorem ctz_bit (x : Nat) (h0 : x ≠ 0) (h : x < 18446744073709551616) : x.testBit (Lib.ctz 64 x) = true ∧ (∀ j, j < Lib.ctz 64 x → x.testBit j = false) ∧ Lib.ctz 64 x < 64 := by
  obtain ⟨m, hm, hk⟩ := Lib.ctzFrom_spec 64 x (by omega) h
  unfold Lib.ctz
  rw [if_neg h0]
  generalize Lib.ctzFrom 64 x = k at *
  subst hm
  refine ⟨?_, fun j hj => ?_, hk⟩
  · rw [Nat.testBit_two_pow_mul, Nat.sub_self]; simp
  · rw [Nat.testBit_two_pow_mul]; simp; omega
theorem ctz_eq (x k : Nat) (h : x < 18446744073709551616) (hb : x.testBit k = true) (hl : ∀ j, j < k → x.testBit j = false) : Lib.ctz 64 x = k := by
  have h0 : x ≠ 0 := by rintro rfl; simp at hb
  obtain ⟨h1, h2, -⟩ := ctz_bit x h0 h
  rcases Nat.lt_trichotomy (Lib.ctz 64 x) k with hlt | he | hlt
  · rw [hl _ hlt] at h1; cases h1
  · exact he
  · rw [h2 _ hlt] at hb; cases hb
theorem wd_eq_zero (S i : Nat) (h : ∀ j, j < 64 → S.testBit (64 * i + j) = false) : wd S i = 0 := by
  apply Nat.eq_of_testBit_eq; intro j
  rw [testBit_wd, Nat.zero_testBit]
  by_cases hj : j < 64
  · simp [hj, h j hj]
  · simp [hj]
theorem wd_ne_zero (S c : Nat) (h : S.testBit c = true) : wd S (c / 64) ≠ 0 := by
  intro h0
  have := testBit_wd S (c / 64) (c % 64)
  rw [h0, show 64 * (c / 64) + c % 64 = c from by omega, h, Nat.zero_testBit] at this
  simp at this
  omega
theorem first_word (S c : Nat) (h1 : S.testBit c = true) (h2 : ∀ d, d < c → S.testBit d = false) :
    (∀ i, i < c / 64 → wd S i = 0) ∧ wd S (c / 64) ≠ 0 ∧ 64 * (c / 64) + Lib.ctz 64 (wd S (c / 64)) = c := by
  refine ⟨fun i hi => wd_eq_zero _ _ fun j hj => h2 _ (by omega), wd_ne_zero S c h1, ?_⟩
  have : Lib.ctz 64 (wd S (c / 64)) = c % 64 := ctz_eq _ _ (wd_lt _ _) (by
    rw [testBit_wd, show 64 * (c / 64) + c % 64 = c from by omega, h1]; simp; omega) (fun j hj => by
    rw [testBit_wd, h2 _ (by omega)]; simp)
  omega
theorem pc256 (S : Nat) : pc 256 S = pc 64 (wd S 0) + pc 64 (wd S 1) + pc 64 (wd S 2) + pc 64 (wd S 3) := by
  have m : ∀ i, pc 64 (wd S i) = pc 64 (S / 2 ^ (64 * i)) := fun i => by unfold wd; rw [pc_mod]
  rw [m, m, m, m, show 256 = 64 + (64 + (64 + 64)) from rfl, pc_add, pc_add 64 (64 + 64), pc_add 64 64, Nat.div_div_eq_div_mul, Nat.div_div_eq_div_mul, ← Nat.pow_add, ← Nat.pow_add]
  simp only [Nat.mul_zero, Nat.pow_zero, Nat.div_one, Nat.mul_one, show 64 * 2 = 64 + 64 from rfl, show 64 * 3 = 64 + 64 + 64 from rfl]
  omega
/-- How many bits a word, and a set, has. -/
def pop (x : Nat) : Nat := pc 64 x
def cnt (S : Nat) : Nat := pc 256 S
theorem pop_le (x : Nat) : pop x ≤ 64 := pc_le _ _
theorem cnt_le (S : Nat) : cnt S ≤ 256 := pc_le _ _
theorem cnt_pop (S : Nat) : cnt S = pop (wd S 0) + pop (wd S 1) + pop (wd S 2) + pop (wd S 3) := pc256 S
theorem cnt_and_or (x y : Nat) : cnt (x &&& y) + cnt (x ||| y) = cnt x + cnt y := pc_and_or 256 x y
attribute [irreducible] pop cnt
end Sets
end Go.Proofs.YtlbaecjmfgahgaaDoor
