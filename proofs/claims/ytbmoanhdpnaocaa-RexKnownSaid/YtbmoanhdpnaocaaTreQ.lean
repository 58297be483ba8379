/- Places and depth, node by node. Plain. -/
import Derived.Test.YtbmoanhdpnaocaaTreR
namespace Go.Proofs.Ytbmoanhdpnaocaa
open Tr
theorem root_leaf (i : Nat) : (T.leaf i).root = i := rfl
theorem root_one (i : Nat) (a : T) : (T.one i a).root = i := rfl
theorem root_two (i : Nat) (a b : T) : (T.two i a b).root = i := rfl
theorem leaf_kind {x : Nd} (h : kids x = []) : ¬ (x.k = 3 ∨ x.k = 4) ∧ x.k ≠ 5 := by
  unfold kids at h
  split at h
  · cases h
  · rename_i h1
    split at h
    · cases h
    · exact ⟨h1, by assumption⟩
theorem one_kind {x : Nd} {a : Int} (h : kids x = [a]) : x.k = 5 ∧ x.a = a := by
  unfold kids at h
  split at h
  · cases h
  · split at h
    · rename_i h5; cases h; exact ⟨h5, rfl⟩
    · cases h
theorem two_kind {x : Nd} {a b : Int} (h : kids x = [a, b]) : (x.k = 3 ∨ x.k = 4) ∧ x.a = a ∧ x.b = b := by
  unfold kids at h
  split at h
  · rename_i h5; cases h; exact ⟨h5, rfl, rfl⟩
  · split at h <;> cases h
def base (x : Nd) : Nat := if x.k = 2 then 1 else 0
theorem sound5 {x : Nd} (h : sound x = true) (h5 : x.k = 5) : (x.mx = -1 ∧ (x.mn = 0 ∨ x.mn = 1)) ∨ (0 ≤ x.mn ∧ x.mn ≤ x.mx ∧ x.mx ≤ 9) := by
  unfold sound at h
  rw [if_neg (by omega), if_neg (by omega), if_neg (by omega), if_pos h5] at h
  simp only [Bool.and_eq_true] at h
  have := h.2
  unfold countable at this
  split at this
  · exact .inl ⟨by assumption, of_decide_eq_true this⟩
  · exact .inr (of_decide_eq_true this)
theorem copy_le {x : Nd} (h : sound x = true) : 0 ≤ copyOf x ∧ copyOf x ≤ 9 := by
  unfold copyOf
  split
  · rename_i h5
    have := sound5 h h5.1
    omega
  · omega
theorem pl_node {N : List Nd} (low : ∀ i, i < N.length → ∀ c ∈ kids (N.getD i default), 0 ≤ c ∧ c < i) (snd : ∀ i, i < N.length → sound (N.getD i default) = true) (i : Nat) (hi : i < N.length) :
    pl N (tr N i) = min ((base (N.getD i default) + ((kids (N.getD i default)).map fun c => pl N (tr N c.toNat)).sum) * (copyOf (N.getD i default)).toNat) cap := by
  obtain ⟨t, ht, rfl⟩ := is_of_low low i hi
  have hs := snd _ hi
  rw [tr_of ht]
  cases t with
  | leaf i =>
    obtain ⟨-, h⟩ := ht
    simp only [root_leaf] at *
    have hk := leaf_kind h
    rw [h]
    simp only [pl, base, copyOf, List.map_nil, List.sum_nil]
    rw [if_neg (fun h : (N.getD i default).k = 5 ∧ _ => hk.2 h.1)]
    split <;> decide
  | one i a =>
    obtain ⟨-, h, -, h2⟩ := ht
    simp only [root_one] at *
    have hk := one_kind h
    rw [h]
    simp only [pl, base, copyOf, List.map_cons, List.map_nil, List.sum_cons, List.sum_nil, Int.toNat_natCast, tr_of h2]
    rw [if_neg (by omega : ¬ (N.getD i default).k = 2)]
    by_cases hm : (N.getD i default).mx = -1
    · rw [if_pos hm, if_neg (fun h => h.2 hm)]; simp
    · rw [if_neg hm, if_pos ⟨hk.1, hm⟩]; simp
  | two i a b =>
    obtain ⟨-, h, -, -, h2, h3⟩ := ht
    simp only [root_two] at *
    have hk := two_kind h
    rw [h]
    simp only [pl, base, copyOf, List.map_cons, List.map_nil, List.sum_cons, List.sum_nil, Int.toNat_natCast, tr_of h2, tr_of h3]
    rw [if_neg (by omega : ¬ (N.getD i default).k = 2), if_neg (by omega)]
    simp
def maxL (l : List Nat) : Nat := l.foldl max 0
theorem foldl_max (l : List Nat) : ∀ a, l.foldl max a = max a (maxL l) := by
  induction l with
  | nil => intro a; simp [maxL]
  | cons x l ih =>
    intro a
    simp only [List.foldl_cons, maxL]
    rw [ih, ih (max 0 x)]
    omega
theorem maxL_cons (x : Nat) (l : List Nat) : maxL (x :: l) = max x (maxL l) := by
  unfold maxL
  rw [List.foldl_cons, foldl_max]
  unfold maxL
  omega
theorem maxL_append (l m : List Nat) : maxL (l ++ m) = max (maxL l) (maxL m) := by
  induction l with
  | nil => simp [maxL]
  | cons x l ih => rw [List.cons_append, maxL_cons, maxL_cons, ih]; omega
theorem le_maxL {l : List Nat} {x : Nat} (h : x ∈ l) : x ≤ maxL l := by
  induction l with
  | nil => cases h
  | cons y l ih =>
    rw [maxL_cons]
    rcases List.mem_cons.1 h with rfl | h
    · omega
    · have := ih h; omega
theorem maxL_le {l : List Nat} {b : Nat} (h : ∀ x ∈ l, x ≤ b) : maxL l ≤ b := by
  induction l with
  | nil => exact Nat.zero_le _
  | cons y l ih =>
    rw [maxL_cons]
    have := h y (by simp)
    have := ih (fun x hx => h x (by simp [hx]))
    omega
theorem dep_node {N : List Nd} (low : ∀ i, i < N.length → ∀ c ∈ kids (N.getD i default), 0 ≤ c ∧ c < i) (i : Nat) (hi : i < N.length) :
    (tr N i).dep = maxL ((kids (N.getD i default)).map fun c => (tr N c.toNat).dep) + 1 := by
  obtain ⟨t, ht, rfl⟩ := is_of_low low i hi
  rw [tr_of ht]
  cases t with
  | leaf i => obtain ⟨-, h⟩ := ht; simp only [root_leaf] at *; rw [h]; rfl
  | one i a => obtain ⟨-, h, -, h2⟩ := ht; simp only [root_one] at *; rw [h]; simp [T.dep, tr_of h2, maxL]
  | two i a b => obtain ⟨-, h, -, -, h2, h3⟩ := ht; simp only [root_two] at *; rw [h]; simp [T.dep, tr_of h2, tr_of h3, maxL]
theorem kid_dep {N : List Nd} {R : List (Int × Bool)} (h : Right N R) : ∀ (d i : Nat), i < N.length → N.length - i ≤ d → ∃ c ∈ roots R, (tr N i).dep ≤ (tr N c.toNat).dep := by
  intro d
  induction d with
  | zero => intro i hi hd; omega
  | succ d ih =>
    intro i hi hd
    rcases List.mem_append.1 (h.all i hi) with he | hr
    · obtain ⟨x, hx, hc⟩ := List.mem_flatMap.1 he
      obtain ⟨k, hk, rfl⟩ := List.mem_iff_getElem.1 hx
      have hc' : (i : Int) ∈ kids (N.getD k default) := by rw [List.getD_eq_getElem?_getD, List.getElem?_eq_getElem hk]; exact hc
      have hik := (h.low k hk i hc').2
      obtain ⟨c, hc2, hle⟩ := ih k hk (by omega)
      refine ⟨c, hc2, Nat.le_trans ?_ hle⟩
      rw [dep_node h.low k hk]
      have := le_maxL (List.mem_map.2 ⟨_, hc', rfl⟩ : (tr N ((i : Int)).toNat).dep ∈ (kids (N.getD k default)).map fun c => (tr N c.toNat).dep)
      rw [Int.toNat_natCast] at this
      omega
    · exact ⟨i, hr, by simp⟩
theorem depth_all {N : List Nd} {R : List (Int × Bool)} (h : Right N R) : maxL ((List.range N.length).map fun i => (tr N i).dep) = depth N R := by
  have e : depth N R = maxL ((roots R).map fun c => (tr N c.toNat).dep) := by unfold depth roots maxL; rw [List.map_map]; rfl
  rw [e]
  apply Nat.le_antisymm
  · refine maxL_le (fun x hx => ?_)
    obtain ⟨i, hi, rfl⟩ := List.mem_map.1 hx
    obtain ⟨c, hc, hle⟩ := kid_dep h N.length i (List.mem_range.1 hi) (by omega)
    exact Nat.le_trans hle (le_maxL (List.mem_map.2 ⟨c, hc, rfl⟩))
  · refine maxL_le (fun x hx => ?_)
    obtain ⟨c, hc, rfl⟩ := List.mem_map.1 hx
    have := h.rts c hc
    exact le_maxL (List.mem_map.2 ⟨c.toNat, List.mem_range.2 (by omega), rfl⟩)
theorem depth_le {N : List Nd} {R : List (Int × Bool)} (h : Right N R) : depth N R ≤ N.length := by
  rw [← depth_all h]
  refine maxL_le (fun x hx => ?_)
  obtain ⟨i, hi, rfl⟩ := List.mem_map.1 hx
  obtain ⟨t, ht, rfl⟩ := is_of_low h.low i (List.mem_range.1 hi)
  rw [tr_of ht]
  have := dep_le N t ht
  have := List.mem_range.1 hi
  omega
end Go.Proofs.Ytbmoanhdpnaocaa
