/- Several texts in one. -/
import Derived.Test.YtdmnocjlmnkdhaaDoorPq18
import Derived.Test.YtdmnocjlmnkdhaaDoorPq04
import Derived.Test.YtdmnocjlmnkdhaaDoorPq14
namespace Go.Proofs.YtdmnocjlmnkdhaaDoor
open Go.RowKit Sets Cls
theorem BytesAt.nil (w : World) : BytesAt w (.slice none 0 0) [] := ⟨by simp, by simp, none, 0, rfl, by simp⟩
theorem BytesAt.take {w : World} {a : Option Addr} {n cap : Nat} {l : List Nat} (h : BytesAt w (.slice a n cap) l) (m : Nat) (hm : m ≤ n) : BytesAt w (.slice a m cap) (l.take m) := by
  obtain ⟨hl, hmx, a', cap', he, hc⟩ := h
  injection he with h1 h2 h3
  subst h1 h2
  have hlen : (l.take m).length = m := by simp; omega
  refine ⟨fun x hx => hl x (List.mem_of_mem_take hx), by omega, a, cap, by rw [hlen], fun i hi => ?_⟩
  rw [hlen] at hi
  obtain ⟨b, o, rfl, hq⟩ := hc i (by omega)
  refine ⟨b, o, rfl, ?_⟩
  rw [List.getD_eq_getElem?_getD, List.getElem?_take_of_lt hi, ← List.getD_eq_getElem?_getD]
  exact hq
/-- Block g is a row of slices of bytes. -/
def BytesRow (w : World) (g : Nat) (Ls : List (List Nat)) : Prop :=
  ∃ vs : List Value, w.heap[g]? = some (.cells vs.toArray 28 (0, 0)) ∧ vs.length = Ls.length ∧ ∀ i, i < Ls.length → BytesAt w (vs.getD i undef) (Ls.getD i [])
theorem BytesRow.lt {w : World} {g : Nat} {Ls : List (List Nat)} (h : BytesRow w g Ls) : g < w.heap.size := by
  obtain ⟨vs, h, -⟩ := h; exact (Array.getElem?_eq_some_iff.1 h).1
theorem BytesRow.kept {w w' : World} {g : Nat} {Ls : List (List Nat)} (h : BytesRow w g Ls) (hb : Below w.heap.size w w') : BytesRow w' g Ls := by
  have hl := h.lt
  obtain ⟨vs, h1, h2, h3⟩ := h
  exact ⟨vs, by rw [hb.block _ hl]; exact h1, h2, fun i hi => (h3 i hi).kept hb⟩
theorem BytesRow.at {w : World} {g : Nat} {Ls : List (List Nat)} (h : BytesRow w g Ls) (i : Nat) (hi : i < Ls.length) : ∃ v, w.cell? ⟨g, i, none⟩ = some v ∧ BytesAt w v (Ls.getD i []) := by
  obtain ⟨vs, h1, h2, h3⟩ := h
  refine ⟨vs.getD i undef, ?_, h3 i hi⟩
  rw [cell_of_row w g _ _ _ _ h1, List.getElem?_toArray, List.getElem?_eq_getElem (by omega), List.getD_eq_getElem?_getD, List.getElem?_eq_getElem (by omega)]
  rfl
theorem BytesRow.free {w : World} {g : Nat} {Ls : List (List Nat)} (h : BytesRow w g Ls) (j : Nat) : w.frozen? ⟨g, j, none⟩ = false := by
  obtain ⟨vs, h1, -⟩ := h; exact frozen_of_row w g j _ _ h1
/-- Bytes that do not lie in block g. -/
theorem bytes_setCell {w : World} {g i : Nat} {u v : Value} {l : List Nat} {vs : List Value} (hg : w.heap[g]? = some (.cells vs.toArray 28 (0, 0))) (hvs : ∀ x ∈ vs, ∃ a n c, x = .slice a n c) (h : BytesAt w v l) : BytesAt (w.setCell ⟨g, i, none⟩ u) v l := by
  obtain ⟨hl, hm, a, cap, rfl, hc⟩ := h
  refine ⟨hl, hm, a, cap, rfl, fun j hj => ?_⟩
  obtain ⟨b, o, rfl, hq⟩ := hc j hj
  refine ⟨b, o, rfl, ?_⟩
  have hbg : b ≠ g := by
    rintro rfl
    rw [cell_of_row w b _ _ _ _ hg, List.getElem?_toArray] at hq
    obtain ⟨x, n, c, e⟩ := hvs _ (List.mem_of_getElem? hq)
    cases e
  unfold World.cell?
  rw [heap_setCell_other _ _ _ _ hbg]
  exact hq
theorem bytes_slice {w : World} {v : Value} {l : List Nat} (h : BytesAt w v l) : ∃ a n c, v = .slice a n c := by
  obtain ⟨-, -, a, c, h, -⟩ := h; exact ⟨a, _, c, h⟩
theorem BytesRow.set {w : World} {g : Nat} {Ls : List (List Nat)} (h : BytesRow w g Ls) (i : Nat) (v : Value) (l : List Nat) (hv : BytesAt w v l) : BytesRow (w.setCell ⟨g, i, none⟩ v) g (Ls.set i l) := by
  obtain ⟨vs, h1, h2, h3⟩ := h
  have hvs : ∀ x ∈ vs, ∃ a n c, x = .slice a n c := by
    intro x hx
    obtain ⟨j, hj, rfl⟩ := List.mem_iff_getElem.1 hx
    have := bytes_slice (h3 j (by omega))
    rw [List.getD_eq_getElem?_getD, List.getElem?_eq_getElem hj] at this
    exact this
  refine ⟨vs.set i v, ?_, by simp [h2], fun j hj => ?_⟩
  · have := heap_setCell_same w g i _ _ v h1
    rw [this, List.setIfInBounds_toArray]
  · rw [List.length_set] at hj
    refine bytes_setCell h1 hvs ?_
    by_cases e : i = j
    · subst e
      rw [List.getD_eq_getElem?_getD, List.getElem?_set_self (by omega), List.getD_eq_getElem?_getD, List.getElem?_set_self (by omega)]
      exact hv
    · rw [List.getD_eq_getElem?_getD, List.getElem?_set_ne e, List.getD_eq_getElem?_getD, List.getElem?_set_ne e, ← List.getD_eq_getElem?_getD, ← List.getD_eq_getElem?_getD]
      exact h3 j hj
theorem len_bytes (a : Option Addr) (len cap : Nat) (w : World) : (Builtin.len_ #[28] 3 #[.slice a len cap]).run Tryd.prog w = .ok (.int .i64 len) w := by go_simp
theorem infoR : (Tryd.prog.info? 28).map (fun i => (i.zero, i.size, i.bytes)) = some (some (.slice none 0 0), 1, 24) := by kernel_rfl
theorem made_bytes {w w' : World} {B n : Nat} (h : w'.ownsRow B 28 1 (.slice (some ⟨w.heap.size, 0, none⟩) n n) n (madeCells #[Value.slice none 0 0] n).toList) :
    BytesRow w' w.heap.size (List.replicate n []) := by
  have key : (madeCells #[Value.slice none 0 0] n).toList = List.replicate n (Value.slice none 0 0) := by
    apply List.ext_getElem
    · simp [size_madeCells]
    · intro j h1 h2
      simp [madeCells, Nat.mod_one]
  obtain ⟨h1, h2⟩ := h
  rcases h2 with ⟨h2, -⟩ | ⟨g, cap, cur, h2, -, hg, -, -, hs, ht⟩
  · cases h2
  · injection h2 with h2 h3 h4
    injection h2 with h2
    injection h2 with h2 _ _
    subst h2 h4
    rw [key] at ht
    rw [List.take_of_length_le (by rw [Array.length_toList, hs]; exact Nat.le_refl _)] at ht
    refine ⟨List.replicate n (.slice none 0 0), by rw [hg, ← ht], by simp, fun i hi => ?_⟩
    rw [List.length_replicate] at hi
    rw [List.getD_eq_getElem?_getD, List.getElem?_replicate, if_pos hi, List.getD_eq_getElem?_getD, List.getElem?_replicate, if_pos hi]
    exact BytesAt.nil _
/-- The least k of each class, of the first i classes. -/
def leastN (of : Nat → Nat) (n : Nat) (k : Int) (i : Nat) : List (List Nat) := (List.range n).map fun j => if j < i then (listN (clsSet of 256 j)).take k.toNat else []
theorem leastN_length (of : Nat → Nat) (n : Nat) (k : Int) (i : Nat) : (leastN of n k i).length = n := by simp [leastN]
theorem leastN_zero (of : Nat → Nat) (n : Nat) (k : Int) : leastN of n k 0 = List.replicate n [] := by unfold leastN; simp [List.map_const']
theorem leastN_succ (of : Nat → Nat) (n : Nat) (k : Int) (i : Nat) : leastN of n k (i + 1) = (leastN of n k i).set i ((listN (clsSet of 256 i)).take k.toNat) := by
  unfold leastN
  apply List.ext_getElem
  · simp
  · intro j h1 h2
    rw [List.getElem_set]
    simp only [List.getElem_map, List.getElem_range]
    by_cases e : i = j
    · subst e; simp
    · rw [if_neg e]
      by_cases e2 : j < i
      · rw [if_pos e2, if_pos (by omega)]
      · rw [if_neg e2, if_neg (by omega)]
theorem leastN_all (of : Nat → Nat) (n : Nat) (k : Int) : leastN of n k n = (List.range n).map fun j => (listN (clsSet of 256 j)).take k.toNat := by
  unfold leastN
  apply List.map_congr_left
  intro j hj
  rw [if_pos (by simpa using hj)]
end Go.Proofs.YtdmnocjlmnkdhaaDoor
namespace Go.Proofs.YtdmnocjlmnkdhaaDoor
open Go.RowKit Sets Nf
namespace Df
theorem bytes_one (w : World) (c : Nat) (hc : c < 256) : BytesAt (w.alloc (.cells #[.int .u8 c] 5)) (.slice (some ⟨w.heap.size, 0, none⟩) 1 1) [c] := by
  refine ⟨by simp [hc], by simp [maxLen], _, 1, rfl, fun i hi => ?_⟩
  have : i = 0 := by simpa using hi
  subst this
  exact ⟨w.heap.size, 0, rfl, by simp⟩
theorem u8_wrap (k : Nat) (h : k < 256) : IntKind.u8.wrap (k : Int) = k := by
  have : (k : Int) < 256 := by omega
  simp [IntKind.wrap, IntKind.bits, IntKind.signed]
  omega
end Df
end Go.Proofs.YtdmnocjlmnkdhaaDoor
