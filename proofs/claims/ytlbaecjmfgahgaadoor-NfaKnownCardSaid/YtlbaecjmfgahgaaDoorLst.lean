/- The bytes of a set as a list, word by word, lowest bit by lowest bit. Plain arithmetic; no program. -/
import Derived.Test.YtlbaecjmfgahgaaDoorPop
namespace Go.Proofs.YtlbaecjmfgahgaaDoor
namespace Sets
def bitsOf (i r : Nat) : List Nat := ((List.range 64).filter r.testBit).map (64 * i + ·)
def upTo (S i : Nat) : List Nat := (List.range (64 * i)).filter S.testBit
def listN (S : Nat) : List Nat := (List.range 256).filter S.testBit
theorem bitsOf_zero (i : Nat) : bitsOf i 0 = [] := by simp [bitsOf]
theorem filter_first (p q : Nat → Bool) (n k : Nat) (hk : k < n) (h1 : p k = true) (h2 : ∀ j, j < k → p j = false) (hq : ∀ j, q j = (p j && decide (j ≠ k))) :
    (List.range n).filter p = k :: (List.range n).filter q := by
  obtain ⟨m, rfl⟩ : ∃ m, n = k + (m + 1) := ⟨n - k - 1, by omega⟩
  rw [List.range_add, List.filter_append, List.filter_append]
  have e1 : (List.range k).filter p = [] := List.filter_eq_nil_iff.2 fun j hj => by rw [h2 j (by simpa using hj)]; simp
  have e2 : (List.range k).filter q = [] := List.filter_eq_nil_iff.2 fun j hj => by rw [hq, h2 j (by simpa using hj)]; simp
  rw [e1, e2, List.nil_append, List.nil_append, List.range_succ_eq_map, List.map_cons, List.filter_cons, List.filter_cons]
  have hk0 : k + 0 = k := rfl
  rw [hk0, h1, hq k]
  simp only [ne_eq, not_true_eq_false, decide_false, Bool.and_false, if_true]
  congr 1
  apply List.filter_congr
  intro j hj
  simp only [List.mem_map] at hj
  obtain ⟨a, ⟨b, -, rfl⟩, rfl⟩ := hj
  rw [hq]
  simp
theorem clear_low (r : Nat) (h0 : r ≠ 0) (h : r < 18446744073709551616) (j : Nat) : (r &&& (r - 1)).testBit j = (r.testBit j && decide (j ≠ Lib.ctz 64 r)) := by
  obtain ⟨m, hm, hk⟩ := Lib.ctzFrom_spec 64 r (by omega) h
  have hc : Lib.ctz 64 r = Lib.ctzFrom 64 r := by unfold Lib.ctz; rw [if_neg h0]
  rw [hc]
  generalize Lib.ctzFrom 64 r = k at *
  have e : r - 1 = 2 ^ k * (2 * m) + (2 ^ k - 1) := by
    have : 0 < 2 ^ k := Nat.pow_pos (by decide)
    rw [hm, Nat.mul_add, Nat.mul_one]; omega
  have hl : 2 ^ k - 1 < 2 ^ k := by have : 0 < 2 ^ k := Nat.pow_pos (by decide); omega
  rw [Nat.testBit_and, e, Nat.testBit_two_pow_mul_add _ hl, Nat.testBit_two_pow_sub_one]
  rw [hm, Nat.testBit_two_pow_mul]
  by_cases hj : j < k
  · have : ¬ k ≤ j := by omega
    simp [hj, this]
  · by_cases he : j = k
    · subst he; simp
    · obtain ⟨d, rfl⟩ : ∃ d, j = k + (d + 1) := ⟨j - k - 1, by omega⟩
      have e1 : k + (d + 1) - k = d + 1 := by omega
      have e2 : (2 * m + 1) / 2 = m := by omega
      have e3 : 2 * m / 2 = m := by omega
      rw [e1, Nat.testBit_succ, Nat.testBit_succ, e2, e3]
      have : ¬ k + (d + 1) < k := by omega
      simp [this]
theorem clear_lt (r : Nat) (h0 : r ≠ 0) : r &&& (r - 1) < r := Nat.lt_of_le_of_lt Nat.and_le_right (by omega)
theorem bitsOf_step (i r : Nat) (h0 : r ≠ 0) (h : r < 18446744073709551616) : bitsOf i r = (64 * i + Lib.ctz 64 r) :: bitsOf i (r &&& (r - 1)) := by
  obtain ⟨h1, h2, h3⟩ := ctz_bit r h0 h
  unfold bitsOf
  rw [filter_first r.testBit (r &&& (r - 1)).testBit 64 _ h3 h1 h2 (clear_low r h0 h)]
  rfl
theorem upTo_zero (S : Nat) : upTo S 0 = [] := rfl
theorem upTo_succ (S i : Nat) : upTo S (i + 1) = upTo S i ++ bitsOf i (wd S i) := by
  unfold upTo bitsOf
  rw [show 64 * (i + 1) = 64 * i + 64 from by omega, List.range_add, List.filter_append]
  congr 1
  rw [List.filter_map]
  congr 1
  apply List.filter_congr
  intro j hj
  rw [testBit_wd]
  simp at hj
  simp [hj]
theorem upTo_four (S : Nat) : upTo S 4 = listN S := rfl
theorem upTo_length (S i : Nat) : (upTo S i).length ≤ 64 * i := Nat.le_trans (List.length_filter_le _ _) (by simp)
theorem mem_listN (S c : Nat) : c ∈ listN S ↔ c < 256 ∧ S.testBit c = true := by simp [listN]
theorem listN_length_aux (S : Nat) : ∀ n, ((List.range n).filter S.testBit).length = pc n S
  | 0 => rfl
  | n + 1 => by
    rw [List.range_succ, List.filter_append, List.length_append, listN_length_aux S n, pc_succ]
    cases h : S.testBit n <;> simp [h]
theorem listN_length (S : Nat) : (listN S).length = cnt S := by unfold cnt; exact listN_length_aux S 256
theorem listN_sorted (S : Nat) : (listN S).Pairwise (· < ·) := List.Pairwise.filter _ List.pairwise_lt_range
theorem ofN_testBit_aux (l : List Nat) : ∀ (A c : Nat), (l.foldl (fun S c => S ||| 2 ^ c) A).testBit c = (A.testBit c || l.contains c) := by
  induction l with
  | nil => intro A c; simp
  | cons x l ih =>
    intro A c
    rw [List.foldl_cons, ih, Nat.testBit_or, Nat.testBit_two_pow, List.contains_cons]
    by_cases h : x = c
    · subst h; simp
    · have : (c == x) = false := by simpa using fun e => h e.symm
      simp [h, this]
theorem ofN_testBit (l : List Nat) (c : Nat) : (ofN l).testBit c = l.contains c := by unfold ofN; rw [ofN_testBit_aux]; simp
theorem ofN_listN (S : Nat) (h : S < 2 ^ 256) : ofN (listN S) = S := by
  apply Nat.eq_of_testBit_eq; intro c
  rw [ofN_testBit]
  rw [Bool.eq_iff_iff, List.contains_iff_mem, mem_listN]
  constructor
  · exact fun h => h.2
  · intro hb
    refine ⟨?_, hb⟩
    apply Nat.lt_of_not_le; intro hle
    rw [Nat.testBit_lt_two_pow (Nat.lt_of_lt_of_le h (Nat.pow_le_pow_right (by decide) hle))] at hb
    cases hb
theorem ofN_lt (l : List Nat) (hl : ∀ x ∈ l, x < 256) : ofN l < 2 ^ 256 := by
  apply Nat.lt_pow_two_of_testBit
  intro j hj
  rw [ofN_testBit]
  cases h : l.contains j with
  | false => rfl
  | true => have := hl j (List.contains_iff_mem.1 h); omega
attribute [irreducible] bitsOf upTo listN
end Sets
end Go.Proofs.YtlbaecjmfgahgaaDoor
