/- Several texts in one. -/
import Derived.Test.YtplkhgmjcljjhaaDoorPq00
import Derived.Test.YtplkhgmjcljjhaaDoorPq02
import Derived.Test.YtplkhgmjcljjhaaDoorPq05
import Derived.Deep.WholeRow
import Derived.Deep.MidRow
import Derived.Deep.OwnRows
import Derived.WalkKit
import Derived.Deep.Cut
import Derived.Deep.CutRange
import Derived.StillTailTactics
namespace Go.Proofs.YtplkhgmjcljjhaaDoor
open Go.RowKit Sets Nf
namespace Nf
def i64 (a : Int) : Prop := -9223372036854775808 ≤ a ∧ a ≤ 9223372036854775807
/-- the cells of a spot -/
def sp5 (s : Nat × Nat) : List Value := [.int .u64 (wd s.1 0), .int .u64 (wd s.1 1), .int .u64 (wd s.1 2), .int .u64 (wd s.1 3), .int .u8 s.2]
theorem sp5_len (s : Nat × Nat) : (sp5 s).length = 5 := rfl
theorem sp5_ne (s : Nat × Nat) : sp5 s ≠ [] := by unfold sp5; simp
/-- Where the four slices lie. -/
structure Ma where
  sa : Option Addr
  sc : Nat
  fa : Option Addr
  fc : Nat
  oa : Option Addr
  oc : Nat
  la : Option Addr
  lc : Nat
def mv (x : Ma) (m : Mc) : Value := .agg #[.slice x.sa m.sp.length x.sc, .slice x.fa m.fi.length x.fc, .slice x.oa m.fo.length x.oc, .slice x.la m.la.length x.lc, .bool m.em]
def NumsIn (w : World) (a : Option Addr) (l : List Int) : Prop := ∀ i, i < l.length → ∃ b o, a = some ⟨b, o, none⟩ ∧ w.cell? ⟨b, o + i, none⟩ = some (.int .i64 (l.getD i 0))
def SpotsIn (w : World) (a : Option Addr) (L : List (Nat × Nat)) : Prop := ∀ i, i < L.length → ∃ b o, a = some ⟨b, o, none⟩ ∧ w.rangeAt b (o + i * 5) (sp5 (L.getD i (0, 0)))
def BoolsIn (w : World) (a : Option Addr) (l : List Bool) : Prop := ∀ i, i < l.length → ∃ b o, a = some ⟨b, o, none⟩ ∧ w.cell? ⟨b, o + i, none⟩ = some (.bool (l.getD i false))
def ListsIn (w : World) (a : Option Addr) (L : List (List Int)) : Prop := ∀ i, i < L.length → ∃ b o x c, a = some ⟨b, o, none⟩ ∧ w.cell? ⟨b, o + i, none⟩ = some (.slice x (L.getD i []).length c) ∧ NumsIn w x (L.getD i [])
structure MAt (w : World) (x : Ma) (m : Mc) : Prop where
  sp : SpotsIn w x.sa m.sp
  fi : NumsIn w x.fa m.fi
  fo : ListsIn w x.oa m.fo
  la : BoolsIn w x.la m.la
/-- Its numbers are such of the machine, its lists not too long. -/
structure Fine (m : Mc) : Prop where
  sp : m.sp.length ≤ 1000
  fi : m.fi.length ≤ 1000
  fo : m.fo.length ≤ 1000
  la : m.la.length ≤ 1000
  each : ∀ l ∈ m.fo, l.length ≤ 1000 ∧ ∀ k ∈ l, i64 k
  fiN : ∀ k ∈ m.fi, i64 k
  set : ∀ s ∈ m.sp, s.1 < 2 ^ 256 ∧ s.2 < 256
theorem NumsIn.kept {w w' : World} {a : Option Addr} {l : List Int} (h : NumsIn w a l) (hb : Below w.heap.size w w') : NumsIn w' a l := fun i hi => by
  obtain ⟨b, o, e, hc⟩ := h i hi
  exact ⟨b, o, e, (hb.cell (World.block_lt_of_cell? _ _ hc)).trans hc⟩
theorem BoolsIn.kept {w w' : World} {a : Option Addr} {l : List Bool} (h : BoolsIn w a l) (hb : Below w.heap.size w w') : BoolsIn w' a l := fun i hi => by
  obtain ⟨b, o, e, hc⟩ := h i hi
  exact ⟨b, o, e, (hb.cell (World.block_lt_of_cell? _ _ hc)).trans hc⟩
theorem SpotsIn.kept {w w' : World} {a : Option Addr} {l : List (Nat × Nat)} (h : SpotsIn w a l) (hb : Below w.heap.size w w') : SpotsIn w' a l := fun i hi => by
  obtain ⟨b, o, e, hc⟩ := h i hi
  exact ⟨b, o, e, fun j v hv => (hb.cell (World.block_lt_of_cell? _ _ (hc j v hv))).trans (hc j v hv)⟩
theorem ListsIn.kept {w w' : World} {a : Option Addr} {l : List (List Int)} (h : ListsIn w a l) (hb : Below w.heap.size w w') : ListsIn w' a l := fun i hi => by
  obtain ⟨b, o, x, c, e, hc, hn⟩ := h i hi
  exact ⟨b, o, x, c, e, (hb.cell (World.block_lt_of_cell? _ _ hc)).trans hc, hn.kept hb⟩
theorem MAt.kept {w w' : World} {x : Ma} {m : Mc} (h : MAt w x m) (hb : Below w.heap.size w w') : MAt w' x m := ⟨h.sp.kept hb, h.fi.kept hb, h.fo.kept hb, h.la.kept hb⟩
theorem sizeSpot (s : Nat × Nat) : (Tryd.prog.info? 86).map (·.size) = some (sp5 s).length := by rw [sp5_len]; kernel_rfl
theorem oneSpot (s : Nat × Nat) : (sp5 s).toArray.all (·.oneCell') = true := by
  rw [Array.all_eq_true_iff_forall_mem]
  intro v hv
  simp [sp5] at hv
  rcases hv with rfl | rfl | rfl | rfl | rfl <;> rfl
def zero5 : Array Value := #[.int .u64 0, .int .u64 0, .int .u64 0, .int .u64 0, .int .u8 0]
def row5 (s : Nat × Nat) : Array Value := #[.int .u64 (wd s.1 0), .int .u64 (wd s.1 1), .int .u64 (wd s.1 2), .int .u64 (wd s.1 3), .int .u8 s.2]
/-- a spot is loaded out of a row -/
theorem wpList_load_spot {ops : Array Oper} {rest : List Oper} {o : Oper} {a : Act} {w : World} {Q : Exit → Act → World → Prop} (hgd : o.guard = none) (x : Operand) (ho : o.op = .load 86 x)
    (b q : Nat) (X : Nat × Nat) (hx : a.eval x = .pointer (some ⟨b, q, none⟩)) (hc : w.rangeAt b q (sp5 X)) (h : wpList Tryd.prog ops Q rest (a.put o.dst (.agg (row5 X))) w) : wpList Tryd.prog ops Q (o :: rest) a w :=
  wpList_load_mid hgd 86 x ho b q hx (sp5 X) _ hc Tryd.underlying86 rfl (sizeSpot X) h
/-- and stored where a place for it was laid -/
theorem wpList_store_spot {ops : Array Oper} {rest : List Oper} {o : Oper} {a : Act} {w : World} {Q : Exit → Act → World → Prop} (hgd : o.guard = none) (x y : Operand)
    (ho : o.op = .store 86 x y) (X : Nat × Nat) (hx : a.eval x = .pointer (some ⟨w.heap.size, 0, none⟩)) (hy : a.eval y = .agg (row5 X))
    (h : wpList Tryd.prog ops Q rest (a.put o.dst undef) (w.alloc (.cells (row5 X) 86))) : wpList Tryd.prog ops Q (o :: rest) a (w.alloc (.cells zero5 86)) := by
  refine wpList_store_row hgd 86 x y ho w.heap.size (row5 X) hx hy 86 zero5 (heap_alloc_new w _) (sizeSpot X) rfl (oneSpot X) ?_
  rw [World.setRow_alloc_new]
  exact h
/-- the cells of a machine -/
def mc (x : Ma) (m : Mc) : Array Value := #[.slice x.sa m.sp.length x.sc, .slice x.fa m.fi.length x.fc, .slice x.oa m.fo.length x.oc, .slice x.la m.la.length x.lc, .bool m.em]
theorem mv_eq (x : Ma) (m : Mc) : mv x m = .agg (mc x m) := rfl
/-- A machine lies in block B. -/
structure BoxM (w : World) (B : Nat) (x : Ma) (m : Mc) : Prop where
  row : w.heap[B]? = some (.cells (mc x m) 46 (0, 0))
theorem BoxM.new (w : World) (x : Ma) (m : Mc) : BoxM (w.alloc (.cells (mc x m) 46)) w.heap.size x m := ⟨heap_alloc_new w _⟩
theorem BoxM.lt {w : World} {B : Nat} {x : Ma} {m : Mc} (h : BoxM w B x m) : B < w.heap.size := (Array.getElem?_eq_some_iff.1 h.row).1
theorem BoxM.kept {w w' : World} {A B : Nat} {x : Ma} {m : Mc} (h : BoxM w B x m) (hb : Below A w w') (hA : B < A) : BoxM w' B x m := ⟨by rw [hb.block _ hA]; exact h.row⟩
theorem BoxM.cell {w : World} {B : Nat} {x : Ma} {m : Mc} (h : BoxM w B x m) (q : Nat) (v : Value) (hv : (mc x m)[q]? = some v) : w.cell? ⟨B, q, none⟩ = some v := by
  rw [cell_of_row w B q _ _ _ h.row]; exact hv
theorem BoxM.c0 {w : World} {B : Nat} {x : Ma} {m : Mc} (h : BoxM w B x m) : w.cell? ⟨B, 0, none⟩ = some (.slice x.sa m.sp.length x.sc) := h.cell 0 _ rfl
theorem BoxM.c1 {w : World} {B : Nat} {x : Ma} {m : Mc} (h : BoxM w B x m) : w.cell? ⟨B, 1, none⟩ = some (.slice x.fa m.fi.length x.fc) := h.cell 1 _ rfl
theorem BoxM.c2 {w : World} {B : Nat} {x : Ma} {m : Mc} (h : BoxM w B x m) : w.cell? ⟨B, 2, none⟩ = some (.slice x.oa m.fo.length x.oc) := h.cell 2 _ rfl
theorem BoxM.c3 {w : World} {B : Nat} {x : Ma} {m : Mc} (h : BoxM w B x m) : w.cell? ⟨B, 3, none⟩ = some (.slice x.la m.la.length x.lc) := h.cell 3 _ rfl
theorem BoxM.c4 {w : World} {B : Nat} {x : Ma} {m : Mc} (h : BoxM w B x m) : w.cell? ⟨B, 4, none⟩ = some (.bool m.em) := h.cell 4 _ rfl
theorem sizeMach (x : Ma) (m : Mc) : (Tryd.prog.info? 46).map (·.size) = some (mc x m).size := by
  show _ = some 5
  kernel_rfl
theorem oneMach (x : Ma) (m : Mc) : (mc x m).all (·.oneCell') = true := by simp [mc, Value.oneCell']
/-- a machine is loaded out of its block -/
theorem wpList_load_mach {ops : Array Oper} {rest : List Oper} {o : Oper} {a : Act} {w : World} {Q : Exit → Act → World → Prop} (hgd : o.guard = none) (X : Operand) (ho : o.op = .load 46 X)
    (B : Nat) (x : Ma) (m : Mc) (hx : a.eval X = .pointer (some ⟨B, 0, none⟩)) (hc : BoxM w B x m) (h : wpList Tryd.prog ops Q rest (a.put o.dst (.agg (mc x m))) w) : wpList Tryd.prog ops Q (o :: rest) a w :=
  wpList_load_row hgd 46 X ho B hx 46 (mc x m) (0, 0) _ hc.row Tryd.underlying46 rfl (sizeMach x m) h
end Nf
end Go.Proofs.YtplkhgmjcljjhaaDoor
namespace Go.Proofs.YtplkhgmjcljjhaaDoor
open Go.RowKit
/-- nothing that was there has turned but block B -/
structure But (B : Nat) (w w' : World) : Prop where
  os : w'.os = w.os
  tape : w'.tape = w.tape
  output : w'.output = w.output
  size : w.heap.size ≤ w'.heap.size
  block : ∀ k, k < w.heap.size → k ≠ B → w'.heap[k]? = w.heap[k]?
theorem But.refl (B : Nat) (w : World) : But B w w := ⟨rfl, rfl, rfl, Nat.le_refl _, fun _ _ _ => rfl⟩
theorem But.trans {B : Nat} {a b c : World} (h : But B a b) (k : But B b c) : But B a c :=
  ⟨k.os.trans h.os, k.tape.trans h.tape, k.output.trans h.output, Nat.le_trans h.size k.size, fun i hi hn => (k.block i (Nat.lt_of_lt_of_le hi h.size) hn).trans (h.block i hi hn)⟩
theorem But.of_below {B : Nat} {w w' : World} (h : Below w.heap.size w w') : But B w w' := ⟨h.os, h.tape, h.output, h.size, fun k hk _ => h.block k hk⟩
theorem But.alloc (B : Nat) (w : World) (o : Obj) : But B w (w.alloc o) := .of_below ((Below.refl _ w).alloc (Nat.le_refl _) o)
theorem But.set (B : Nat) (w : World) (i : Nat) (v : Value) : But B w (w.setCell ⟨B, i, none⟩ v) :=
  ⟨rfl, rfl, rfl, by simp, fun k _ hn => Below.heap_setCell w ⟨B, i, none⟩ v k hn⟩
theorem But.drew {B : Nat} {w w' : World} (h : But B w w') : But B w w'.drew := ⟨h.os, h.tape, h.output, h.size, h.block⟩
theorem But.below {A B : Nat} {W w w' : World} (h : Below A W w) (k : But B w w') (hA : A ≤ B) (hw : A ≤ w.heap.size) : Below A W w' :=
  h.trans ⟨k.os, k.tape, k.output, k.size, fun i hi => k.block i (by omega) (by omega)⟩
theorem But.cell {B : Nat} {w w' : World} (h : But B w w') {p : Addr} {v : Value} (hp : w.cell? p = some v) (hn : p.block ≠ B) : w'.cell? p = some v :=
  (World.cell?_of_block (w := w) (h.block p.block (World.block_lt_of_cell? w p hp) hn)).trans hp
end Go.Proofs.YtplkhgmjcljjhaaDoor
namespace Go.Proofs.YtplkhgmjcljjhaaDoor
open Go.RowKit Sets Nf
namespace Nf
theorem meas9 {j n : Nat} (h : j < n) : ((n : Int) - ((j + 1 : Nat) : Int)).toNat < ((n : Int) - (j : Int)).toNat := by omega
def setC (S : Nat) : Array Value := #[.int .u64 (wd S 0), .int .u64 (wd S 1), .int .u64 (wd S 2), .int .u64 (wd S 3)]
/-- A set lies in block B, and nothing else. -/
structure SetB (w : World) (B S : Nat) : Prop where
  row : w.heap[B]? = some (.cells (setC S) 66 (0, 0))
theorem SetB.lt {w : World} {B S : Nat} (h : SetB w B S) : B < w.heap.size := (Array.getElem?_eq_some_iff.1 h.row).1
theorem SetB.new (w : World) (S : Nat) : SetB (w.alloc (.cells (setC S) 66)) w.heap.size S := ⟨heap_alloc_new w _⟩
theorem zeroC : #[Value.int .u64 0, .int .u64 0, .int .u64 0, .int .u64 0] = setC 0 := by unfold setC; rw [wd_zero, wd_zero, wd_zero, wd_zero]; rfl
theorem SetB.of {w w' : World} {B S : Nat} (h : SetB w B S) (e : w'.heap[B]? = w.heap[B]?) : SetB w' B S := ⟨e.trans h.row⟩
theorem SetB.kept {w w' : World} {A B S : Nat} (h : SetB w B S) (hb : Below A w w') (hA : B < A) : SetB w' B S := h.of (hb.block _ hA)
theorem SetB.stay {w w' : World} {B S : Nat} (h : SetB w B S) (hb : Below w.heap.size w w') : SetB w' B S := h.kept hb h.lt
theorem SetB.but {w w' : World} {A B S : Nat} (h : SetB w B S) (hb : But A w w') (hA : B ≠ A) : SetB w' B S := h.of (hb.block _ h.lt hA)
theorem SetB.cell {w : World} {B S : Nat} (h : SetB w B S) {q : Nat} (hq : q < 4) : w.cell? ⟨B, q, none⟩ = some (.int .u64 (wd S q)) := by
  rw [cell_of_row w B q _ _ _ h.row]
  have : q = 0 ∨ q = 1 ∨ q = 2 ∨ q = 3 := by omega
  rcases this with rfl | rfl | rfl | rfl <;> rfl
theorem SetB.frozen {w : World} {B S : Nat} (h : SetB w B S) (q : Nat) : w.frozen? ⟨B, q, none⟩ = false := by
  unfold World.frozen?
  simp [h.row]
theorem setC_or (S k : Nat) (hk : k < 256) (q : Nat) (hq : k / 64 = q) : (setC S).setIfInBounds q (.int .u64 (wd (S ||| 2 ^ k) q)) = setC (S ||| 2 ^ k) := by
  have : q = 0 ∨ q = 1 ∨ q = 2 ∨ q = 3 := by omega
  unfold setC
  rcases this with rfl | rfl | rfl | rfl
  · rw [wd_keep _ k 1 (by omega), wd_keep _ k 2 (by omega), wd_keep _ k 3 (by omega)]; rfl
  · rw [wd_keep _ k 0 (by omega), wd_keep _ k 2 (by omega), wd_keep _ k 3 (by omega)]; rfl
  · rw [wd_keep _ k 0 (by omega), wd_keep _ k 1 (by omega), wd_keep _ k 3 (by omega)]; rfl
  · rw [wd_keep _ k 0 (by omega), wd_keep _ k 1 (by omega), wd_keep _ k 2 (by omega)]; rfl
theorem SetB.or {w : World} {B S k q : Nat} (h : SetB w B S) (hk : k < 256) (hq : k / 64 = q) : SetB (w.setCell ⟨B, q, none⟩ (.int .u64 (wd (S ||| 2 ^ k) q))) B (S ||| 2 ^ k) :=
  ⟨by rw [heap_setCell_same _ _ _ _ _ _ h.row, setC_or S k hk q hq]⟩
theorem sizeSet (S : Nat) : (Tryd.prog.info? 66).map (·.size) = some (setC S).size := by
  show _ = some 4
  kernel_rfl
theorem oneSet (S : Nat) : (setC S).all (·.oneCell') = true := by simp [setC, Value.oneCell']
theorem shl_one (k : Nat) : IntKind.u64.wrap (2 ^ ((k : Int) % 64).toNat) = (bitN k : Int) := by
  have := bitN_lt k
  have e : ((k : Int) % 64).toNat = k % 64 := by omega
  unfold bitN at *
  rw [e, IntKind.wrap_u64]
  have h2 : ((2 ^ (k % 64) : Nat) : Int) < 18446744073709551616 := by omega
  rw [Int.natCast_pow] at *
  exact Int.emod_eq_of_lt (Int.le_of_lt (Int.pow_pos (by decide))) h2
theorem quiet_load_mid {C : World → Prop} {a : Act} {K : Act → Prop} {o : Oper} (ty : TypeId) (x : Operand) (ho : o.op = .load ty x) (b q : Nat) (hx : a.eval x = .pointer (some ⟨b, q, none⟩)) (cs : List Value) (d : TypeDesc)
    (hc : ∀ w, C w → w.rangeAt b q cs) (hu : Tryd.prog.underlying ty = some d) (hd : d.isRow = true) (hi : (Tryd.prog.info? ty).map (·.size) = some cs.length) (h : K (a.put o.dst (.agg cs.toArray))) : o.quiet Tryd.prog a C K := by
  refine ⟨.agg cs.toArray, fun w hw => ?_, h⟩
  unfold Oper.quietAt execOp
  simp only [ho, hx, run_loadAt_mid w b q ty cs d (hc w hw) hu hd hi, Sem.run_bind, Sem.run_pure, Result.andThen_ok]
  exact ⟨rfl, rfl⟩
theorem spot_set {w : World} {b o : Nat} {s : Nat × Nat} (h : w.rangeAt b o (sp5 s)) : w.rangeAt b o (setC s.1).toList := by
  intro j v hv
  have hj : j < 4 := by have := (List.getElem?_eq_some_iff.1 hv).1; simpa [setC] using this
  refine h j v ?_
  rw [← hv]
  have : j = 0 ∨ j = 1 ∨ j = 2 ∨ j = 3 := by omega
  rcases this with rfl | rfl | rfl | rfl <;> rfl
theorem range_below {w w' : World} {b o : Nat} {l : List Value} (h : w.rangeAt b o l) (hb : Below w.heap.size w w') : w'.rangeAt b o l := fun j v hv => (hb.cell (World.block_lt_of_cell? _ _ (h j v hv))).trans (h j v hv)
theorem sizeSetL (S : Nat) : (Tryd.prog.info? 66).map (·.size) = some (setC S).toList.length := by
  show _ = some 4
  kernel_rfl
/-- a set is loaded out of its block -/
theorem wpList_load_set {ops : Array Oper} {rest : List Oper} {o : Oper} {a : Act} {w : World} {Q : Exit → Act → World → Prop} (hgd : o.guard = none) (X : Operand) (ho : o.op = .load 66 X)
    (B S : Nat) (hx : a.eval X = .pointer (some ⟨B, 0, none⟩)) (hc : SetB w B S) (h : wpList Tryd.prog ops Q rest (a.put o.dst (.agg (setC S))) w) : wpList Tryd.prog ops Q (o :: rest) a w :=
  wpList_load_row hgd 66 X ho B hx 66 (setC S) (0, 0) _ hc.row Tryd.underlying66 rfl (sizeSet S) h
/-- and stored into one -/
theorem wpList_store_set {ops : Array Oper} {rest : List Oper} {o : Oper} {a : Act} {w : World} {Q : Exit → Act → World → Prop} (hgd : o.guard = none) (X Y : Operand) (ho : o.op = .store 66 X Y)
    (B S T : Nat) (hx : a.eval X = .pointer (some ⟨B, 0, none⟩)) (hy : a.eval Y = .agg (setC T)) (hc : SetB w B S) (h : wpList Tryd.prog ops Q rest (a.put o.dst undef) (w.setRow B (setC T))) : wpList Tryd.prog ops Q (o :: rest) a w :=
  wpList_store_row hgd 66 X Y ho B (setC T) hx hy 66 (setC S) hc.row (sizeSet T) rfl (oneSet T) h
theorem SetB.put {w : World} {B S : Nat} (h : SetB w B S) (T : Nat) : SetB (w.setRow B (setC T)) B T := ⟨setRow_heap w _ _ _ _ _ h.row⟩
theorem But.setRow (B : Nat) (w : World) (cs : Array Value) : But B w (w.setRow B cs) := ⟨rfl, rfl, rfl, by simp, fun k _ hn => setRow_other _ _ _ _ hn⟩
end Nf
end Go.Proofs.YtplkhgmjcljjhaaDoor
