/- A set that lies in a block. -/
import Derived.Test.YtlbaecjmfgahgaaDoorSets
import Derived.Test.YtlbaecjmfgahgaaDoorKit
namespace Go.Proofs.YtlbaecjmfgahgaaDoor
open Go.RowKit Sets
/-- A set lies in block B. -/
structure SetAt (w : World) (B S : Nat) : Prop where
  c0 : w.cell? ⟨B, 0, none⟩ = some (.int .u64 (wd S 0))
  c1 : w.cell? ⟨B, 1, none⟩ = some (.int .u64 (wd S 1))
  c2 : w.cell? ⟨B, 2, none⟩ = some (.int .u64 (wd S 2))
  c3 : w.cell? ⟨B, 3, none⟩ = some (.int .u64 (wd S 3))
theorem SetAt.new (w : World) (S : Nat) (t : TypeId) : SetAt (w.alloc (.cells #[.int .u64 (wd S 0), .int .u64 (wd S 1), .int .u64 (wd S 2), .int .u64 (wd S 3)] t)) w.heap.size S :=
  ⟨by simp, by simp, by simp, by simp⟩
theorem SetAt.lt {w : World} {B S : Nat} (h : SetAt w B S) : B < w.heap.size := World.block_lt_of_cell? _ _ h.c0
theorem SetAt.kept {w w' : World} {A B S : Nat} (h : SetAt w B S) (hb : Below A w w') (hA : B < A) : SetAt w' B S :=
  ⟨(hb.cell hA).trans h.c0, (hb.cell hA).trans h.c1, (hb.cell hA).trans h.c2, (hb.cell hA).trans h.c3⟩
theorem SetAt.stay {w w' : World} {B S : Nat} (h : SetAt w B S) (hb : Below w.heap.size w w') : SetAt w' B S := h.kept hb h.lt
end Go.Proofs.YtlbaecjmfgahgaaDoor
