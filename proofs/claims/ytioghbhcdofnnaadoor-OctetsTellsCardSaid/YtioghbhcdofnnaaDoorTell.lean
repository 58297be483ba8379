import Derived.Test.YtioghbhcdofnnaaDoorFam
import Derived.Test.YtioghbhcdofnnaaDoorAwk
import Derived.Test.YtioghbhcdofnnaaDoorMem
import Derived.Test.YtioghbhcdofnnaaDoorTellM
import Derived.WalkSpells
namespace Go.Proofs.YtioghbhcdofnnaaDoor
open Go.RowKit Sets
def Row (w : World) (b : Nat) (p : Nat → Bool) : Prop := w.heap[b]? = some (.cells (arr p) 35 (0, 0))
theorem Row.lt {w : World} {b : Nat} {p : Nat → Bool} (h : Row w b p) : b < w.heap.size := (Array.getElem?_eq_some_iff.1 h).1
theorem Row.stay {w w' : World} {b : Nat} {p : Nat → Bool} (h : Row w b p) (hb : Below w.heap.size w w') : Row w' b p := (hb.block b h.lt).trans h
theorem Row.cell {w : World} {b : Nat} {p : Nat → Bool} (h : Row w b p) {c : Nat} (hc : c < 256) : w.cell? ⟨b, c, none⟩ = some (.bool (p c)) :=
  (cell_of_row w b c _ _ _ h).trans (arr_get p c hc)
theorem Row.frozen {w : World} {b : Nat} {p : Nat → Bool} (h : Row w b p) (c : Nat) : w.frozen? ⟨b, c, none⟩ = false := frozen_of_row w b c _ _ h
theorem Row.set {w : World} {b : Nat} {p : Nat → Bool} {c : Nat} (h : Row w b (upto p c)) {v : Bool} (hv : v = p c) : Row (w.setCell ⟨b, c, none⟩ (.bool v)) b (upto p (c + 1)) := by
  unfold Row
  rw [heap_setCell_same w b c _ _ _ h, hv, arr_set]
  rw [arr_congr (upto p (c + 1)) (fun d => if d = c then p c else upto p c d) (fun d _ => upto_succ p c d)]
theorem Row.other {w : World} {b b' c : Nat} {p : Nat → Bool} {v : Value} (h : Row w b p) (hne : b ≠ b') : Row (w.setCell ⟨b', c, none⟩ v) b p :=
  (heap_setCell_other w ⟨b', c, none⟩ b v hne).trans h
theorem SetAt.stays {w w' : World} {B S : Nat} (h : SetAt w B S) (hb : Below w.heap.size w w') : SetAt w' B S := h.kept hb h.lt
theorem SetAt.other {w : World} {b b' c S : Nat} {v : Value} (h : SetAt w b S) (hne : b ≠ b') : SetAt (w.setCell ⟨b', c, none⟩ v) b S := by
  have e : ∀ j, (w.setCell ⟨b', c, none⟩ v).cell? ⟨b, j, none⟩ = w.cell? ⟨b, j, none⟩ := fun j => World.cell?_of_block (heap_setCell_other w ⟨b', c, none⟩ b v hne)
  exact ⟨(e 0).trans h.c0, (e 1).trans h.c1, (e 2).trans h.c2, (e 3).trans h.c3⟩
/-- What the walk keeps: two sets, six arrays of answers (two of them whole, four up to c), what was there, the library's table. -/
structure Tl (w0 : World) (n1 n2 A B : Nat) (p4 : Nat → Bool) (c : Nat) (w : World) : Prop where
  sA : SetAt w w0.heap.size A
  sB : SetAt w (w0.heap.size + 1) B
  rx : Row w n1 A.testBit
  ry : Row w n2 B.testBit
  r1 : Row w (n2 + 1) (upto (fun d => A.testBit d && B.testBit d) c)
  r2 : Row w (n2 + 1 + 1) (upto (fun d => A.testBit d || B.testBit d) c)
  r3 : Row w (n2 + 1 + 1 + 1) (upto (fun d => !A.testBit d) c)
  r4 : Row w (n2 + 1 + 1 + 1 + 1) (upto p4 c)
  old : Below w0.heap.size w0 w
  tab : Tab w
  pos : 0 < w0.heap.size
  o1 : w0.heap.size + 1 < n1
  o2 : n1 < n2
theorem Tl.call {w0 w w' : World} {n1 n2 A B c : Nat} {p4 : Nat → Bool} (k : Tl w0 n1 n2 A B p4 c w) (hb : Below w.heap.size w w') : Tl w0 n1 n2 A B p4 c w' :=
  ⟨k.sA.stays hb, k.sB.stays hb, k.rx.stay hb, k.ry.stay hb, k.r1.stay hb, k.r2.stay hb, k.r3.stay hb, k.r4.stay hb, k.old.trans (hb.mono k.old.size), k.tab.below hb (Nat.lt_of_lt_of_le k.pos k.old.size), k.pos, k.o1, k.o2⟩
theorem Row.new (w : World) (p q : Nat → Bool) (h : ∀ c, c < 256 → p c = q c) : Row (w.alloc (.cells (arr p) 35)) w.heap.size q := by
  rw [arr_congr p q h]
  exact heap_alloc_new w _
theorem Row.alloc {w : World} {b : Nat} {p : Nat → Bool} (h : Row w b p) (o : Obj) : Row (w.alloc o) b p := h.stay ((Below.refl _ _).alloc (Nat.le_refl _) _)
theorem Tl.start {w0 w : World} {n1 A B : Nat} (p4 : Nat → Bool) (sA : SetAt w w0.heap.size A) (sB : SetAt w (w0.heap.size + 1) B) (rx : Row w n1 A.testBit) (old : Below w0.heap.size w0 w) (tab : Tab w0) (pos : 0 < w0.heap.size)
    (o1 : w0.heap.size + 1 < n1) (o2 : n1 < w.heap.size) :
    Tl w0 n1 w.heap.size A B p4 0 (((((w.alloc (.cells (arr B.testBit) 35)).alloc (.cells (arr fun _ => false) 35)).alloc (.cells (arr fun _ => false) 35)).alloc (.cells (arr fun _ => false) 35)).alloc (.cells (arr fun _ => false) 35)) := by
  have hz : ∀ p : Nat → Bool, ∀ c, c < 256 → false = upto p 0 c := fun p c _ => (upto_zero p c).symm
  have hold : Below w0.heap.size w0 (((((w.alloc (.cells (arr B.testBit) 35)).alloc (.cells (arr fun _ => false) 35)).alloc (.cells (arr fun _ => false) 35)).alloc (.cells (arr fun _ => false) 35)).alloc (.cells (arr fun _ => false) 35)) := by
    have := old.size
    exact ((((old.alloc this _).alloc (by simp; omega) _).alloc (by simp; omega) _).alloc (by simp; omega) _).alloc (by simp; omega) _
  refine ⟨((((sA.alloc _).alloc _).alloc _).alloc _).alloc _, ((((sB.alloc _).alloc _).alloc _).alloc _).alloc _, ((((rx.alloc _).alloc _).alloc _).alloc _).alloc _,
    ((((Row.new w B.testBit B.testBit fun _ _ => rfl).alloc _).alloc _).alloc _).alloc _, ?_, ?_, ?_, ?_, hold, tab.below hold pos, pos, o1, o2⟩
  · have h := (((Row.new (w.alloc (.cells (arr B.testBit) 35)) (fun _ => false) _ (hz fun d => A.testBit d && B.testBit d)).alloc (.cells (arr fun _ => false) 35)).alloc (.cells (arr fun _ => false) 35)).alloc (.cells (arr fun _ => false) 35)
    simpa using h
  · have h := ((Row.new ((w.alloc (.cells (arr B.testBit) 35)).alloc (.cells (arr fun _ => false) 35)) (fun _ => false) _ (hz fun d => A.testBit d || B.testBit d)).alloc (.cells (arr fun _ => false) 35)).alloc (.cells (arr fun _ => false) 35)
    simpa using h
  · have h := (Row.new (((w.alloc (.cells (arr B.testBit) 35)).alloc (.cells (arr fun _ => false) 35)).alloc (.cells (arr fun _ => false) 35)) (fun _ => false) _ (hz fun d => !A.testBit d)).alloc (.cells (arr fun _ => false) 35)
    simpa using h
  · have h := Row.new ((((w.alloc (.cells (arr B.testBit) 35)).alloc (.cells (arr fun _ => false) 35)).alloc (.cells (arr fun _ => false) 35)).alloc (.cells (arr fun _ => false) 35)) (fun _ => false) _ (hz p4)
    simpa using h
/-- The round's four stores. -/
theorem Tl.round {w0 w : World} {n1 n2 A B c : Nat} {p4 : Nat → Bool} (k : Tl w0 n1 n2 A B p4 c w) {v1 v2 v3 v4 : Bool} (h1 : v1 = (A.testBit c && B.testBit c)) (h2 : v2 = (A.testBit c || B.testBit c)) (h3 : v3 = !A.testBit c) (h4 : v4 = p4 c) :
    Tl w0 n1 n2 A B p4 (c + 1) ((((w.setCell ⟨n2 + 1, c, none⟩ (.bool v1)).setCell ⟨n2 + 1 + 1, c, none⟩ (.bool v2)).setCell ⟨n2 + 1 + 1 + 1, c, none⟩ (.bool v3)).setCell ⟨n2 + 1 + 1 + 1 + 1, c, none⟩ (.bool v4)) := by
  have o1 := k.o1
  have o2 := k.o2
  have hp := k.pos
  refine ⟨?_, ?_, ?_, ?_, ?_, ?_, ?_, ?_, ?_, ?_, k.pos, k.o1, k.o2⟩
  · exact (((k.sA.other (by omega)).other (by omega)).other (by omega)).other (by omega)
  · exact (((k.sB.other (by omega)).other (by omega)).other (by omega)).other (by omega)
  · exact (((k.rx.other (by omega)).other (by omega)).other (by omega)).other (by omega)
  · exact (((k.ry.other (by omega)).other (by omega)).other (by omega)).other (by omega)
  · exact (((k.r1.set (p := fun d => A.testBit d && B.testBit d) h1).other (by omega)).other (by omega)).other (by omega)
  · exact (((k.r2.other (by omega)).set (p := fun d => A.testBit d || B.testBit d) h2).other (by omega)).other (by omega)
  · exact (((k.r3.other (by omega)).other (by omega)).set (p := fun d => !A.testBit d) h3).other (by omega)
  · exact (((k.r4.other (by omega)).other (by omega)).other (by omega)).set h4
  · exact (((k.old.setCell (by simp; omega) _).setCell (by simp; omega) _).setCell (by simp; omega) _).setCell (by simp; omega) _
  · intro j hj
    have e : ∀ (w : World) (b : Nat) (v : Value), 0 ≠ b → (w.setCell ⟨b, c, none⟩ v).cell? ⟨0, j, none⟩ = w.cell? ⟨0, j, none⟩ := fun w b v hne => World.cell?_of_block (heap_setCell_other w ⟨b, c, none⟩ _ v hne)
    rw [e _ _ _ (by omega), e _ _ _ (by omega), e _ _ _ (by omega), e _ _ _ (by omega)]
    exact k.tab j hj
end Go.Proofs.YtioghbhcdofnnaaDoor
