/- A partition as its cells; Right. -/
import Derived.Test.YtdhnaldjofpeeaaDoorOct4
import Derived.Test.YtdhnaldjofpeeaaDoorClsM
import Derived.Deep.MidRow
import Derived.Deep.WholeRow
import Derived.WalkSpells
namespace Go.Proofs.YtdhnaldjofpeeaaDoor
open Go.RowKit Sets Cls
/-- The cells of the classes' array. -/
def ofL (of : Nat → Nat) : List Value := (List.range 256).map fun c => Value.int .u8 (of c)
/-- The cells of a partition. -/
def partC (of : Nat → Nat) (n : Int) : Array Value := (ofL of ++ [Value.int .i64 n]).toArray
theorem ofL_length (of : Nat → Nat) : (ofL of).length = 256 := by simp [ofL]
theorem ofL_get (of : Nat → Nat) (c : Nat) (h : c < 256) : (ofL of)[c]? = some (.int .u8 (of c)) := by simp [ofL, h]
theorem partC_size (of : Nat → Nat) (n : Int) : (partC of n).size = 257 := by simp [partC, ofL_length]
theorem partC_get (of : Nat → Nat) (n : Int) (c : Nat) (h : c < 256) : (partC of n)[c]? = some (.int .u8 (of c)) := by
  unfold partC
  rw [List.getElem?_toArray, List.getElem?_append_left (by rw [ofL_length]; exact h), ofL_get of c h]
theorem partC_n (of : Nat → Nat) (n : Int) : (partC of n)[256]? = some (.int .i64 n) := by
  unfold partC
  rw [List.getElem?_toArray, List.getElem?_append_right (by rw [ofL_length]; omega), ofL_length]; rfl
theorem ofL_congr (of g : Nat → Nat) (h : ∀ c, c < 256 → of c = g c) : ofL of = ofL g := by
  unfold ofL
  apply List.map_congr_left
  intro c hc
  rw [h c (by simpa using hc)]
theorem partC_congr (of g : Nat → Nat) (n : Int) (h : ∀ c, c < 256 → of c = g c) : partC of n = partC g n := by
  unfold partC; rw [ofL_congr of g h]
theorem partC_set (of : Nat → Nat) (n : Int) (c k : Nat) (hc : c < 256) : (partC of n).setIfInBounds c (.int .u8 k) = partC (fun d => if d = c then k else of d) n := by
  unfold partC
  rw [List.setIfInBounds_toArray, List.set_append_left _ _ (by rw [ofL_length]; exact hc)]
  congr 2
  unfold ofL
  apply List.ext_getElem
  · simp
  · intro i h1 h2
    simp only [List.length_set, List.length_map, List.length_range] at h1
    rw [List.getElem_set]
    simp only [List.getElem_map, List.getElem_range]
    by_cases hi : c = i
    · subst hi; simp
    · have : ¬ i = c := fun e => hi e.symm
      simp [hi, this]
theorem partC_setN (of : Nat → Nat) (n m : Int) : (partC of n).setIfInBounds 256 (.int .i64 m) = partC of m := by
  unfold partC
  rw [List.setIfInBounds_toArray, List.set_append_right _ _ (by rw [ofL_length]; omega), ofL_length]
  rfl
theorem partC_one (of : Nat → Nat) (n : Int) : (partC of n).all (·.oneCell') = true := by
  rw [Array.all_eq_true_iff_forall_mem]
  intro v hv
  simp [partC, ofL] at hv
  rcases hv with ⟨c, -, rfl⟩ | rfl <;> rfl
theorem partC_inj {of g : Nat → Nat} {n m : Int} (h : partC of n = partC g m) : n = m ∧ ∀ c, c < 256 → of c = g c := by
  constructor
  · have := congrArg (fun a => a[256]?) h
    simp only [partC_n] at this
    injection this with this; injection this
  · intro c hc
    have := congrArg (fun a => a[c]?) h
    simp only [partC_get _ _ c hc] at this
    injection this with this; injection this with _ this; omega
/-- A partition's cells lie in block B. -/
def PartAt (w : World) (B : Nat) (of : Nat → Nat) (n : Int) : Prop := w.heap[B]? = some (.cells (partC of n) 24 (0, 0))
theorem PartAt.lt {w : World} {B : Nat} {of : Nat → Nat} {n : Int} (h : PartAt w B of n) : B < w.heap.size := (Array.getElem?_eq_some_iff.1 h).1
theorem PartAt.new (w : World) (of : Nat → Nat) (n : Int) : PartAt (w.alloc (.cells (partC of n) 24)) w.heap.size of n := heap_alloc_new w _
theorem PartAt.kept {w w' : World} {A B : Nat} {of : Nat → Nat} {n : Int} (h : PartAt w B of n) (hb : Below A w w') (hA : B < A) : PartAt w' B of n := by
  unfold PartAt at *; rw [hb.block _ hA]; exact h
theorem PartAt.alloc {w : World} {B : Nat} {of : Nat → Nat} {n : Int} (h : PartAt w B of n) (o : Obj) : PartAt (w.alloc o) B of n := h.kept ((Below.refl _ _).alloc (Nat.le_refl _) o) h.lt
theorem PartAt.cell {w : World} {B : Nat} {of : Nat → Nat} {n : Int} (h : PartAt w B of n) (c : Nat) (hc : c < 256) : w.cell? ⟨B, c, none⟩ = some (.int .u8 (of c)) :=
  (cell_of_row w B c _ _ _ h).trans (partC_get of n c hc)
theorem PartAt.cellN {w : World} {B : Nat} {of : Nat → Nat} {n : Int} (h : PartAt w B of n) : w.cell? ⟨B, 256, none⟩ = some (.int .i64 n) :=
  (cell_of_row w B 256 _ _ _ h).trans (partC_n of n)
theorem PartAt.free {w : World} {B : Nat} {of : Nat → Nat} {n : Int} (h : PartAt w B of n) (c : Nat) : w.frozen? ⟨B, c, none⟩ = false := frozen_of_row w B c _ _ h
theorem PartAt.range {w : World} {B : Nat} {of : Nat → Nat} {n : Int} (h : PartAt w B of n) : w.rangeAt B 0 (ofL of) := by
  intro j v hv
  have hj := (List.getElem?_eq_some_iff.1 hv).1
  rw [ofL_length] at hj
  rw [Nat.zero_add, h.cell j hj, ← hv, ofL_get of j hj]
theorem PartAt.set {w : World} {B : Nat} {of : Nat → Nat} {n : Int} (h : PartAt w B of n) (c k : Nat) (hc : c < 256) : PartAt (w.setCell ⟨B, c, none⟩ (.int .u8 k)) B (fun d => if d = c then k else of d) n := by
  unfold PartAt at *
  rw [← partC_set of n c k hc]
  exact heap_setCell_same w B c _ _ _ h
theorem PartAt.setN {w : World} {B : Nat} {of : Nat → Nat} {n : Int} (h : PartAt w B of n) (m : Int) : PartAt (w.setCell ⟨B, 256, none⟩ (.int .i64 m)) B of m := by
  unfold PartAt at *
  rw [← partC_setN of n m]
  exact heap_setCell_same w B 256 _ _ _ h
theorem sizeP (of : Nat → Nat) (n : Int) : (Tryd.prog.info? 24).map (·.size) = some (partC of n).size := by rw [partC_size]; kernel_rfl
theorem sizeO (of : Nat → Nat) : (Tryd.prog.info? 22).map (·.size) = some (ofL of).length := by rw [ofL_length]; kernel_rfl
theorem index_of (of : Nat → Nat) (k : Nat) (h : k < 256) (w : World) : (Instr.index 22 (.agg (ofL of).toArray) (.int .i64 k)).run Tryd.prog w = .ok (.int .u8 (of k)) w := by
  have hg := ofL_get of k h
  have u3 := Tryd.underlying5
  have a3 := Tryd.isAgg5
  have z3 := Tryd.sizeOf5
  unfold Instr.index
  go_simp
attribute [irreducible] partC ofL
end Go.Proofs.YtdhnaldjofpeeaaDoor
