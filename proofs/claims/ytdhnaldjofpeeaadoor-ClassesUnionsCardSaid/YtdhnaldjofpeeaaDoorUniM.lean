/- Plain facts about the classes of more sets. -/
import Derived.Test.YtdhnaldjofpeeaaDoorAw2
import Derived.Test.YtdhnaldjofpeeaaDoorHds
namespace Go.Proofs.YtdhnaldjofpeeaaDoor
open Go.RowKit Sets Cls
theorem split_const (of : Nat → Nat) (n S : Nat) (h : ∀ a b, a < 256 → b < 256 → of a = of b → S.testBit a = S.testBit b) : splitsB of n S = false := by
  unfold splitsB
  rw [List.any_eq_false]
  intro j _
  unfold splitB
  by_cases h0 : clsSet of 256 j &&& S = 0
  · simp [h0]
  · have : clsSet of 256 j &&& S = clsSet of 256 j := by
      obtain ⟨c, hc⟩ : ∃ c, (clsSet of 256 j &&& S).testBit c = true := by
        apply Classical.byContradiction
        intro hn
        apply h0
        apply Nat.eq_of_testBit_eq
        intro i
        rw [Nat.zero_testBit, Bool.eq_false_iff]
        intro hi
        exact hn ⟨i, hi⟩
      rw [Nat.testBit_and, clsSet_bit] at hc
      simp at hc
      apply Nat.eq_of_testBit_eq
      intro d
      rw [Nat.testBit_and, clsSet_bit]
      by_cases hd : d < 256 ∧ of d = j
      · have := h d c hd.1 hc.1.1 (by rw [hd.2, hc.1.2])
        simp [hd.1, hd.2, this, hc.2]
      · have : (decide (d < 256) && of d == j) = false := by
          rw [Bool.eq_false_iff]; intro e; simp at e; exact hd e
        rw [this]; rfl
    simp [this]
theorem split_in (L : List Nat) (n S : Nat) (h : S ∈ L) : splitsB (cls (same L)) n S = false :=
  split_const _ _ _ fun a b _ _ e => (same_iff L a b).1 ((cls_eq _ (same_eqv L) a b).1 e) S h
theorem split_cls (L M : List Nat) (n j : Nat) : splitsB (cls (same (L ++ M))) n (clsSet (cls (same L)) 256 j) = false :=
  split_const _ _ _ fun a b ha hb e => by
    have h := (cls_eq _ (same_eqv (L ++ M)) a b).1 e
    rw [same_append, Bool.and_eq_true] at h
    have := (cls_eq _ (same_eqv L) a b).2 h.1
    rw [clsSet_bit, clsSet_bit, this]
    simp [ha, hb]
theorem cls_some (L : List Nat) (j : Nat) (h : j < nh (same L) 256) : clsSet (cls (same L)) 256 j ≠ 0 := by
  intro e
  have h1 := hd_cls (same L) (same_eqv L) j h
  obtain ⟨h2, -, -⟩ := hd_mem (same L) j h
  have : (clsSet (cls (same L)) 256 j).testBit (hd (same L) j) = true := by rw [clsSet_bit, h1]; simp [h2]
  rw [e, Nat.zero_testBit] at this
  cases this
/-- The union of the first j classes. -/
def uni (of : Nat → Nat) (j : Nat) : Nat := ofN ((List.range 256).filter fun d => decide (of d < j))
theorem uni_bit (of : Nat → Nat) (j d : Nat) : (uni of j).testBit d = (decide (d < 256) && decide (of d < j)) := by
  unfold uni
  rw [ofN_testBit, Bool.eq_iff_iff]
  simp
theorem uni_lt (of : Nat → Nat) (j : Nat) : uni of j < 2 ^ 256 := ofN_lt _ (fun x hx => by simp at hx; exact hx.1)
theorem uni_zero (of : Nat → Nat) : uni of 0 = 0 := by
  apply Nat.eq_of_testBit_eq; intro d; rw [uni_bit, Nat.zero_testBit]; simp
theorem uni_succ (of : Nat → Nat) (j : Nat) : uni of j ||| clsSet of 256 j = uni of (j + 1) := by
  apply Nat.eq_of_testBit_eq; intro d
  rw [Nat.testBit_or, uni_bit, uni_bit, clsSet_bit, Bool.eq_iff_iff]
  simp
  omega
theorem uni_apart (of : Nat → Nat) (j : Nat) : uni of j &&& clsSet of 256 j = 0 := by
  apply Nat.eq_of_testBit_eq; intro d
  rw [Nat.testBit_and, uni_bit, clsSet_bit, Nat.zero_testBit, Bool.eq_false_iff]
  simp
  omega
theorem uni_all (of : Nat → Nat) (n : Nat) (h : ∀ c, c < 256 → of c < n) : uni of n = full := by
  apply Nat.eq_of_testBit_eq; intro d
  rw [uni_bit, testBit_full, Bool.eq_iff_iff]
  simp
  exact h d
theorem nh_finer {E F : Nat → Nat → Bool} (h : ∀ a b, F a b = true → E a b = true) : ∀ c, nh E c ≤ nh F c
  | 0 => Nat.le_refl _
  | c + 1 => by
    have ih := nh_finer h c
    simp only [nh]
    have : (head E c).toNat ≤ (head F c).toNat := by
      cases he : head E c
      · exact Nat.zero_le _
      · have : head F c = true := by
          rw [head_iff] at he ⊢
          intro d hd
          rw [Bool.eq_false_iff]
          intro hf
          have := he d hd
          rw [h _ _ hf] at this
          cases this
        rw [this]; exact Nat.le_refl _
    omega
theorem nh_more (L M : List Nat) : nh (same L) 256 ≤ nh (same (L ++ M)) 256 :=
  nh_finer (fun a b h => by rw [same_append, Bool.and_eq_true] at h; exact h.1) 256
theorem same_swap (L M : List Nat) : same (M ++ L) = same (L ++ M) := by
  funext a b; rw [same_append, same_append, Bool.and_comm]
theorem same_cls (L : List Nat) (a b : Nat) (ha : a < 256) (hb : b < 256) : same (clsSets (cls (same L)) (nh (same L) 256) 256) a b = same L a b := by
  rw [Bool.eq_iff_iff, same_iff, ← cls_eq _ (same_eqv L)]
  constructor
  · intro h
    have hm : clsSet (cls (same L)) 256 (cls (same L) a) ∈ clsSets (cls (same L)) (nh (same L) 256) 256 := by
      unfold clsSets
      exact List.mem_map_of_mem (by simpa using cls_in L a ha)
    have := h _ hm
    rw [clsSet_bit, clsSet_bit] at this
    simp [ha, hb] at this
    exact this.symm
  · intro h S hS
    unfold clsSets at hS
    obtain ⟨j, -, rfl⟩ := List.mem_map.1 hS
    rw [clsSet_bit, clsSet_bit, h]
    simp [ha, hb]
theorem part_again (L : List Nat) (n : Int) : partC (cls (same (clsSets (cls (same L)) (nh (same L) 256) 256))) n = partC (cls (same L)) n :=
  partC_congr _ _ _ fun c hc => cls_congr (fun a b ha hb => same_cls L a b ha hb) c hc
theorem nh_again (L : List Nat) : nh (same (clsSets (cls (same L)) (nh (same L) 256) 256)) 256 = nh (same L) 256 :=
  nh_congr (fun a b ha hb => same_cls L a b ha hb) 256 (Nat.le_refl _)
end Go.Proofs.YtdhnaldjofpeeaaDoor
