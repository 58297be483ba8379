/- The least bytes of the classes. -/
import Derived.Test.YtdhnaldjofpeeaaDoorAw2
namespace Go.Proofs.YtdhnaldjofpeeaaDoor
open Go.RowKit Sets Cls
/-- The least byte of class i. -/
def hd (E : Nat → Nat → Bool) (i : Nat) : Nat := (heads E 256).getD i 0
theorem hd_mem (E : Nat → Nat → Bool) (i : Nat) (h : i < nh E 256) : hd E i < 256 ∧ head E (hd E i) = true ∧ nh E (hd E i) = i := by
  have hl : i < (heads E 256).length := by rw [heads_length]; exact h
  have e : hd E i = (heads E 256)[i] := by unfold hd; rw [List.getD_eq_getElem?_getD, List.getElem?_eq_getElem hl]; rfl
  have hm := (mem_heads E 256 _).1 (List.getElem_mem hl)
  rw [e]
  exact ⟨hm.1, hm.2, heads_idx E 256 i hl⟩
theorem hd_cls (E : Nat → Nat → Bool) (hE : Eqv E) (i : Nat) (h : i < nh E 256) : cls E (hd E i) = i := by
  obtain ⟨-, h2, h3⟩ := hd_mem E i h
  rw [cls_head E hE _ h2, h3]
theorem hd_least (E : Nat → Nat → Bool) (hE : Eqv E) (i d : Nat) (h : i < nh E 256) (hd' : cls E d = i) : hd E i ≤ d := by
  obtain ⟨-, h2, h3⟩ := hd_mem E i h
  have := nh_inj E (head_fst E hE d) h2 (by rw [h3]; exact hd')
  have := (fst_spec E hE d).1
  omega
theorem hd_lt (E : Nat → Nat → Bool) (i k : Nat) (h : i < nh E 256) (hk : k < i) : hd E k < hd E i := by
  obtain ⟨-, i2, i3⟩ := hd_mem E i h
  obtain ⟨-, k2, k3⟩ := hd_mem E k (by omega)
  rcases Nat.lt_trichotomy (hd E k) (hd E i) with h | h | h
  · exact h
  · rw [h, i3] at k3; omega
  · have := nh_lt E i2 h; omega
theorem hd_apart (E : Nat → Nat → Bool) (hE : Eqv E) (i k : Nat) (h : i < nh E 256) (hk : k < i) : E (hd E i) (hd E k) = false := by
  rw [Bool.eq_false_iff]
  intro e
  have := (cls_eq E hE _ _).2 e
  rw [hd_cls E hE i h, hd_cls E hE k (by omega)] at this
  omega
theorem hd_take (E : Nat → Nat → Bool) (hE : Eqv E) (i : Nat) (h : i < nh E 256) : (listN (clsSet (cls E) 256 i)).take (1 : Int).toNat = [hd E i] := by
  obtain ⟨h1, -, -⟩ := hd_mem E i h
  have hc := hd_cls E hE i h
  unfold listN
  rw [filter_first (clsSet (cls E) 256 i).testBit (fun j => (clsSet (cls E) 256 i).testBit j && decide (j ≠ hd E i)) 256 (hd E i) h1 ?_ ?_ (fun _ => rfl)]
  · rfl
  · rw [clsSet_bit, hc]; simp [h1]
  · intro j hj
    rw [clsSet_bit, Bool.eq_false_iff]
    intro e
    simp at e
    have := hd_least E hE i j h e.2
    omega
theorem hd_rows (E : Nat → Nat → Bool) (hE : Eqv E) : ((List.range (nh E 256)).map fun j => (listN (clsSet (cls E) 256 j)).take (1 : Int).toNat) = (List.range (nh E 256)).map fun j => [hd E j] := by
  apply List.map_congr_left
  intro j hj
  exact hd_take E hE j (by simpa using hj)
/-- Do the first m sets of L tell a and b apart? -/
def apt (L : List Nat) (a b m : Nat) : Bool := (L.take m).any fun S => S.testBit a != S.testBit b
theorem apt_zero (L : List Nat) (a b : Nat) : apt L a b 0 = false := by simp [apt]
theorem apt_succ (L : List Nat) (a b m : Nat) (h : m < L.length) : apt L a b (m + 1) = (apt L a b m || ((L.getD m 0).testBit a != (L.getD m 0).testBit b)) := by
  unfold apt
  rw [List.take_succ_eq_append_getElem h, List.any_append, List.getD_eq_getElem?_getD, List.getElem?_eq_getElem h]
  simp
theorem apt_all (L : List Nat) (a b : Nat) : apt L a b L.length = !same L a b := by
  unfold apt same
  rw [List.take_length, List.not_all_eq_any_not]
  congr 1
end Go.Proofs.YtdhnaldjofpeeaaDoor
