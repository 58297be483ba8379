/- What ClassesParts asks byte by byte. -/
import Derived.Test.YtdhnaldjofpeeaaDoorFew
import Derived.Test.YtdhnaldjofpeeaaDoorStrs
import Derived.Maps.AppendAt
import Derived.Test.YtdhnaldjofpeeaaDoorTellM
namespace Go.Proofs.YtdhnaldjofpeeaaDoor
open Go.RowKit Sets Cls
def inB (of : Nat → Nat) (S i c : Nat) : Bool := (List.range c).any fun d => of d == i && S.testBit d
def outB (of : Nat → Nat) (S i c : Nat) : Bool := (List.range c).any fun d => of d == i && !S.testBit d
theorem inB_succ (of : Nat → Nat) (S i c : Nat) : inB of S i (c + 1) = (inB of S i c || (of c == i && S.testBit c)) := by unfold inB; rw [List.range_succ, List.any_append]; simp
theorem outB_succ (of : Nat → Nat) (S i c : Nat) : outB of S i (c + 1) = (outB of S i c || (of c == i && !S.testBit c)) := by unfold outB; rw [List.range_succ, List.any_append]; simp
theorem split_io (of : Nat → Nat) (S i : Nat) : splitB of S i = (inB of S i 256 && outB of S i 256) := by
  have hT := clsSet_lt of i
  have bitT := clsSet_bit of 256 i
  have h1 : decide (clsSet of 256 i &&& S = 0) = !inB of S i 256 := by
    rw [Bool.eq_iff_iff, decide_eq_true_iff]
    simp only [Bool.not_eq_true', inB, List.any_eq_false, List.mem_range]
    constructor
    · intro h d hd e
      have := congrArg (fun x => x.testBit d) h
      simp only [Nat.testBit_and, bitT, Nat.zero_testBit] at this
      simp at e
      simp [hd, e] at this
    · intro h
      refine eq_zero_of _ (and_lt hT) (fun d hd => ?_)
      rw [Nat.testBit_and, bitT]
      have := h d hd
      simp only [hd, decide_true, Bool.true_and]
      simpa using this
  have h2 : decide (clsSet of 256 i &&& S = clsSet of 256 i) = !outB of S i 256 := by
    rw [Bool.eq_iff_iff, decide_eq_true_iff]
    simp only [Bool.not_eq_true', outB, List.any_eq_false, List.mem_range]
    constructor
    · intro h d hd e
      have := congrArg (fun x => x.testBit d) h
      simp only [Nat.testBit_and, bitT] at this
      simp at e
      simp [hd, e] at this
    · intro h
      apply Nat.eq_of_testBit_eq
      intro d
      rw [Nat.testBit_and, bitT]
      by_cases hd : d < 256
      · have := h d hd
        simp only [hd, decide_true, Bool.true_and]
        cases e : of d == i
        · rfl
        · rw [e] at this; simp at this; simp [this]
      · simp [hd]
  unfold splitB
  rw [h1, h2]; simp
/-- The least k bytes of class i below c. -/
def lowN (of : Nat → Nat) (i : Nat) (k : Int) (c : Nat) : List Nat := ((List.range c).filter fun d => of d == i).take k.toNat
theorem lowN_not (of : Nat → Nat) (i : Nat) (k : Int) (c : Nat) (h : of c ≠ i) : lowN of i k (c + 1) = lowN of i k c := by
  unfold lowN; rw [List.range_succ, List.filter_append]; simp [h]
theorem lowN_full (of : Nat → Nat) (i : Nat) (k : Int) (c : Nat) (hk : ¬ ((lowN of i k c).length : Int) < k) : lowN of i k (c + 1) = lowN of i k c := by
  unfold lowN at *
  rw [List.range_succ, List.filter_append]
  rw [List.length_take] at hk
  rw [List.take_append, show k.toNat - ((List.range c).filter fun d => of d == i).length = 0 from by omega]
  simp
theorem lowN_more (of : Nat → Nat) (i : Nat) (k : Int) (c : Nat) (h : of c = i) (hk : ((lowN of i k c).length : Int) < k) : lowN of i k (c + 1) = lowN of i k c ++ [c] := by
  unfold lowN at *
  rw [List.range_succ, List.filter_append]
  rw [List.length_take] at hk
  rw [List.take_append]
  congr 1
  have e : [c].filter (fun d => of d == i) = [c] := by simp [h]
  rw [e, List.take_of_length_le (by simp; omega)]
theorem lowN_le (of : Nat → Nat) (i : Nat) (k : Int) (c : Nat) : (lowN of i k c).length ≤ c := by
  unfold lowN
  have := List.length_filter_le (fun d => of d == i) (List.range c)
  rw [List.length_take]
  simp at this; omega
theorem lowN_all (of : Nat → Nat) (i : Nat) (k : Int) : lowN of i k 256 = (listN (clsSet of 256 i)).take k.toNat := by
  unfold lowN listN
  congr 1
  apply List.filter_congr
  intro d hd
  rw [clsSet_bit]
  simp at hd
  simp [hd]
theorem lowN_lt (of : Nat → Nat) (i : Nat) (k : Int) (c : Nat) (hc : c ≤ 256) : ∀ x ∈ lowN of i k c, x < 256 := by
  intro x hx
  unfold lowN at hx
  have := List.mem_of_mem_take hx
  simp at this; omega
end Go.Proofs.YtdhnaldjofpeeaaDoor
