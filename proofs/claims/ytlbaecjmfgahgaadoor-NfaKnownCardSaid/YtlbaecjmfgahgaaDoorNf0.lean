/- A machine as a value: its slices, and what lies in them. -/
import Derived.Test.YtlbaecjmfgahgaaDoorNfM
import Derived.Test.YtlbaecjmfgahgaaDoorOct4
import Derived.Test.YtlbaecjmfgahgaaDoorMix
import Derived.Test.YtlbaecjmfgahgaaDoorSetA
import Derived.Deep.WholeRow
import Derived.Deep.MidRow
import Derived.Deep.OwnRows
namespace Go.Proofs.YtlbaecjmfgahgaaDoor
open Go.RowKit Sets Nf
namespace Nf
def i64 (a : Int) : Prop := -9223372036854775808 ≤ a ∧ a ≤ 9223372036854775807
/-- the cells of a spot -/
def sp5 (s : Nat × Nat) : List Value := [.int .u64 (wd s.1 0), .int .u64 (wd s.1 1), .int .u64 (wd s.1 2), .int .u64 (wd s.1 3), .int .u8 s.2]
theorem sp5_len (s : Nat × Nat) : (sp5 s).length = 5 := rfl
theorem sp5_ne (s : Nat × Nat) : sp5 s ≠ [] := by unfold sp5; simp
/-- Where the four slices lie. -/
structure Ma where
  sa : Option Addr
  sc : Nat
  fa : Option Addr
  fc : Nat
  oa : Option Addr
  oc : Nat
  la : Option Addr
  lc : Nat
def mv (x : Ma) (m : Mc) : Value := .agg #[.slice x.sa m.sp.length x.sc, .slice x.fa m.fi.length x.fc, .slice x.oa m.fo.length x.oc, .slice x.la m.la.length x.lc, .bool m.em]
def NumsIn (w : World) (a : Option Addr) (l : List Int) : Prop := ∀ i, i < l.length → ∃ b o, a = some ⟨b, o, none⟩ ∧ w.cell? ⟨b, o + i, none⟩ = some (.int .i64 (l.getD i 0))
def SpotsIn (w : World) (a : Option Addr) (L : List (Nat × Nat)) : Prop := ∀ i, i < L.length → ∃ b o, a = some ⟨b, o, none⟩ ∧ w.rangeAt b (o + i * 5) (sp5 (L.getD i (0, 0)))
def BoolsIn (w : World) (a : Option Addr) (l : List Bool) : Prop := ∀ i, i < l.length → ∃ b o, a = some ⟨b, o, none⟩ ∧ w.cell? ⟨b, o + i, none⟩ = some (.bool (l.getD i false))
def ListsIn (w : World) (a : Option Addr) (L : List (List Int)) : Prop := ∀ i, i < L.length → ∃ b o x c, a = some ⟨b, o, none⟩ ∧ w.cell? ⟨b, o + i, none⟩ = some (.slice x (L.getD i []).length c) ∧ NumsIn w x (L.getD i [])
structure MAt (w : World) (x : Ma) (m : Mc) : Prop where
  sp : SpotsIn w x.sa m.sp
  fi : NumsIn w x.fa m.fi
  fo : ListsIn w x.oa m.fo
  la : BoolsIn w x.la m.la
/-- Its numbers are such of the machine, its lists not too long. -/
structure Fine (m : Mc) : Prop where
  sp : m.sp.length ≤ 1000
  fi : m.fi.length ≤ 1000
  fo : m.fo.length ≤ 1000
  la : m.la.length ≤ 1000
  each : ∀ l ∈ m.fo, l.length ≤ 1000 ∧ ∀ k ∈ l, i64 k
  fiN : ∀ k ∈ m.fi, i64 k
  set : ∀ s ∈ m.sp, s.1 < 2 ^ 256 ∧ s.2 < 256
theorem NumsIn.kept {w w' : World} {a : Option Addr} {l : List Int} (h : NumsIn w a l) (hb : Below w.heap.size w w') : NumsIn w' a l := fun i hi => by
  obtain ⟨b, o, e, hc⟩ := h i hi
  exact ⟨b, o, e, (hb.cell (World.block_lt_of_cell? _ _ hc)).trans hc⟩
theorem BoolsIn.kept {w w' : World} {a : Option Addr} {l : List Bool} (h : BoolsIn w a l) (hb : Below w.heap.size w w') : BoolsIn w' a l := fun i hi => by
  obtain ⟨b, o, e, hc⟩ := h i hi
  exact ⟨b, o, e, (hb.cell (World.block_lt_of_cell? _ _ hc)).trans hc⟩
theorem SpotsIn.kept {w w' : World} {a : Option Addr} {l : List (Nat × Nat)} (h : SpotsIn w a l) (hb : Below w.heap.size w w') : SpotsIn w' a l := fun i hi => by
  obtain ⟨b, o, e, hc⟩ := h i hi
  exact ⟨b, o, e, fun j v hv => (hb.cell (World.block_lt_of_cell? _ _ (hc j v hv))).trans (hc j v hv)⟩
theorem ListsIn.kept {w w' : World} {a : Option Addr} {l : List (List Int)} (h : ListsIn w a l) (hb : Below w.heap.size w w') : ListsIn w' a l := fun i hi => by
  obtain ⟨b, o, x, c, e, hc, hn⟩ := h i hi
  exact ⟨b, o, x, c, e, (hb.cell (World.block_lt_of_cell? _ _ hc)).trans hc, hn.kept hb⟩
theorem MAt.kept {w w' : World} {x : Ma} {m : Mc} (h : MAt w x m) (hb : Below w.heap.size w w') : MAt w' x m := ⟨h.sp.kept hb, h.fi.kept hb, h.fo.kept hb, h.la.kept hb⟩
theorem sizeSpot (s : Nat × Nat) : (Tryd.prog.info? 41).map (·.size) = some (sp5 s).length := by rw [sp5_len]; kernel_rfl
theorem oneSpot (s : Nat × Nat) : (sp5 s).toArray.all (·.oneCell') = true := by
  rw [Array.all_eq_true_iff_forall_mem]
  intro v hv
  simp [sp5] at hv
  rcases hv with rfl | rfl | rfl | rfl | rfl <;> rfl
def zero5 : Array Value := #[.int .u64 0, .int .u64 0, .int .u64 0, .int .u64 0, .int .u8 0]
def row5 (s : Nat × Nat) : Array Value := #[.int .u64 (wd s.1 0), .int .u64 (wd s.1 1), .int .u64 (wd s.1 2), .int .u64 (wd s.1 3), .int .u8 s.2]
/-- a spot is loaded out of a row -/
theorem wpList_load_spot {ops : Array Oper} {rest : List Oper} {o : Oper} {a : Act} {w : World} {Q : Exit → Act → World → Prop} (hgd : o.guard = none) (x : Operand) (ho : o.op = .load 41 x)
    (b q : Nat) (X : Nat × Nat) (hx : a.eval x = .pointer (some ⟨b, q, none⟩)) (hc : w.rangeAt b q (sp5 X)) (h : wpList Tryd.prog ops Q rest (a.put o.dst (.agg (row5 X))) w) : wpList Tryd.prog ops Q (o :: rest) a w :=
  wpList_load_mid hgd 41 x ho b q hx (sp5 X) _ hc Tryd.underlying41 rfl (sizeSpot X) h
/-- and stored where a place for it was laid -/
theorem wpList_store_spot {ops : Array Oper} {rest : List Oper} {o : Oper} {a : Act} {w : World} {Q : Exit → Act → World → Prop} (hgd : o.guard = none) (x y : Operand)
    (ho : o.op = .store 41 x y) (X : Nat × Nat) (hx : a.eval x = .pointer (some ⟨w.heap.size, 0, none⟩)) (hy : a.eval y = .agg (row5 X))
    (h : wpList Tryd.prog ops Q rest (a.put o.dst undef) (w.alloc (.cells (row5 X) 41))) : wpList Tryd.prog ops Q (o :: rest) a (w.alloc (.cells zero5 41)) := by
  refine wpList_store_row hgd 41 x y ho w.heap.size (row5 X) hx hy 41 zero5 (heap_alloc_new w _) (sizeSpot X) rfl (oneSpot X) ?_
  rw [World.setRow_alloc_new]
  exact h
/-- the cells of a machine -/
def mc (x : Ma) (m : Mc) : Array Value := #[.slice x.sa m.sp.length x.sc, .slice x.fa m.fi.length x.fc, .slice x.oa m.fo.length x.oc, .slice x.la m.la.length x.lc, .bool m.em]
theorem mv_eq (x : Ma) (m : Mc) : mv x m = .agg (mc x m) := rfl
/-- A machine lies in block B. -/
structure BoxM (w : World) (B : Nat) (x : Ma) (m : Mc) : Prop where
  row : w.heap[B]? = some (.cells (mc x m) 27 (0, 0))
theorem BoxM.new (w : World) (x : Ma) (m : Mc) : BoxM (w.alloc (.cells (mc x m) 27)) w.heap.size x m := ⟨heap_alloc_new w _⟩
theorem BoxM.lt {w : World} {B : Nat} {x : Ma} {m : Mc} (h : BoxM w B x m) : B < w.heap.size := (Array.getElem?_eq_some_iff.1 h.row).1
theorem BoxM.kept {w w' : World} {A B : Nat} {x : Ma} {m : Mc} (h : BoxM w B x m) (hb : Below A w w') (hA : B < A) : BoxM w' B x m := ⟨by rw [hb.block _ hA]; exact h.row⟩
theorem BoxM.cell {w : World} {B : Nat} {x : Ma} {m : Mc} (h : BoxM w B x m) (q : Nat) (v : Value) (hv : (mc x m)[q]? = some v) : w.cell? ⟨B, q, none⟩ = some v := by
  rw [cell_of_row w B q _ _ _ h.row]; exact hv
theorem BoxM.c0 {w : World} {B : Nat} {x : Ma} {m : Mc} (h : BoxM w B x m) : w.cell? ⟨B, 0, none⟩ = some (.slice x.sa m.sp.length x.sc) := h.cell 0 _ rfl
theorem BoxM.c1 {w : World} {B : Nat} {x : Ma} {m : Mc} (h : BoxM w B x m) : w.cell? ⟨B, 1, none⟩ = some (.slice x.fa m.fi.length x.fc) := h.cell 1 _ rfl
theorem BoxM.c2 {w : World} {B : Nat} {x : Ma} {m : Mc} (h : BoxM w B x m) : w.cell? ⟨B, 2, none⟩ = some (.slice x.oa m.fo.length x.oc) := h.cell 2 _ rfl
theorem BoxM.c3 {w : World} {B : Nat} {x : Ma} {m : Mc} (h : BoxM w B x m) : w.cell? ⟨B, 3, none⟩ = some (.slice x.la m.la.length x.lc) := h.cell 3 _ rfl
theorem BoxM.c4 {w : World} {B : Nat} {x : Ma} {m : Mc} (h : BoxM w B x m) : w.cell? ⟨B, 4, none⟩ = some (.bool m.em) := h.cell 4 _ rfl
theorem sizeMach (x : Ma) (m : Mc) : (Tryd.prog.info? 27).map (·.size) = some (mc x m).size := by
  show _ = some 5
  kernel_rfl
theorem oneMach (x : Ma) (m : Mc) : (mc x m).all (·.oneCell') = true := by simp [mc, Value.oneCell']
/-- a machine is loaded out of its block -/
theorem wpList_load_mach {ops : Array Oper} {rest : List Oper} {o : Oper} {a : Act} {w : World} {Q : Exit → Act → World → Prop} (hgd : o.guard = none) (X : Operand) (ho : o.op = .load 27 X)
    (B : Nat) (x : Ma) (m : Mc) (hx : a.eval X = .pointer (some ⟨B, 0, none⟩)) (hc : BoxM w B x m) (h : wpList Tryd.prog ops Q rest (a.put o.dst (.agg (mc x m))) w) : wpList Tryd.prog ops Q (o :: rest) a w :=
  wpList_load_row hgd 27 X ho B hx 27 (mc x m) (0, 0) _ hc.row Tryd.underlying27 rfl (sizeMach x m) h
end Nf
end Go.Proofs.YtlbaecjmfgahgaaDoor
