/- Several texts in one. -/
import Derived.Test.YtdmnocjlmnkdhaaDoorPq19
import Derived.Test.YtdmnocjlmnkdhaaDoorPq21
namespace Go.Proofs.YtdmnocjlmnkdhaaDoor
open Go.RowKit Sets Cls
theorem words_eq {S T : Nat} (hS : S < 2 ^ 256) (hT : T < 2 ^ 256) : (((wd S 0 : Nat) : Int) == ((wd T 0 : Nat) : Int) && ((wd S 1 : Nat) : Int) == ((wd T 1 : Nat) : Int) && ((wd S 2 : Nat) : Int) == ((wd T 2 : Nat) : Int) && ((wd S 3 : Nat) : Int) == ((wd T 3 : Nat) : Int)) = decide (S = T) := by
  rw [Bool.eq_iff_iff]
  simp only [Bool.and_eq_true, beq_iff_eq, decide_eq_true_iff]
  constructor
  · rintro ⟨⟨⟨h0, h1⟩, h2⟩, h3⟩
    refine ext_words hS hT (fun i hi => ?_)
    have : i = 0 ∨ i = 1 ∨ i = 2 ∨ i = 3 := by omega
    rcases this with rfl | rfl | rfl | rfl <;> omega
  · rintro rfl; exact ⟨⟨⟨rfl, rfl⟩, rfl⟩, rfl⟩
theorem setEq {S T : Nat} (hS : S < 2 ^ 256) (hT : T < 2 ^ 256) (w : World) :
    (Op.equalIn 10000 41 (.agg #[.int .u64 (wd S 0), .int .u64 (wd S 1), .int .u64 (wd S 2), .int .u64 (wd S 3)]) (.agg #[.int .u64 (wd T 0), .int .u64 (wd T 1), .int .u64 (wd T 2), .int .u64 (wd T 3)])).run Tryd.prog w = .ok (decide (S = T)) w := by
  rw [eqSet, words_eq hS hT]
theorem setEq0 {S : Nat} (hS : S < 2 ^ 256) (w : World) :
    (Op.equalIn 10000 41 (.agg #[.int .u64 (wd S 0), .int .u64 (wd S 1), .int .u64 (wd S 2), .int .u64 (wd S 3)]) (.agg #[.int .u64 0, .int .u64 0, .int .u64 0, .int .u64 0])).run Tryd.prog w = .ok (decide (S = 0)) w := by
  have h := setEq hS (show 0 < 2 ^ 256 from by decide) w
  simp only [wd_zero] at h
  exact h
theorem setEq_is {S T : Nat} (hS : S < 2 ^ 256) (hT : T < 2 ^ 256) (b : Bool) (h : decide (S = T) = b) (w : World) :
    (Op.equalIn 10000 41 (.agg #[.int .u64 (wd S 0), .int .u64 (wd S 1), .int .u64 (wd S 2), .int .u64 (wd S 3)]) (.agg #[.int .u64 (wd T 0), .int .u64 (wd T 1), .int .u64 (wd T 2), .int .u64 (wd T 3)])).run Tryd.prog w = .ok b w := by
  rw [setEq hS hT, h]
theorem setEq0_is {S : Nat} (hS : S < 2 ^ 256) (b : Bool) (h : decide (S = 0) = b) (w : World) :
    (Op.equalIn 10000 41 (.agg #[.int .u64 (wd S 0), .int .u64 (wd S 1), .int .u64 (wd S 2), .int .u64 (wd S 3)]) (.agg #[.int .u64 0, .int .u64 0, .int .u64 0, .int .u64 0])).run Tryd.prog w = .ok b w := by
  rw [setEq0 hS, h]
theorem and_lt {S T : Nat} (hS : S < 2 ^ 256) : S &&& T < 2 ^ 256 := Nat.lt_of_le_of_lt Nat.and_le_left hS
theorem new_set {w w5 : World} (T : Nat) (t : TypeId) (hb : Below (w.alloc (.cells #[.int .u64 (wd T 0), .int .u64 (wd T 1), .int .u64 (wd T 2), .int .u64 (wd T 3)] t)).heap.size (w.alloc (.cells #[.int .u64 (wd T 0), .int .u64 (wd T 1), .int .u64 (wd T 2), .int .u64 (wd T 3)] t)) w5) :
    (w5.cell? ⟨w.heap.size, 0, none⟩ = some (.int .u64 (wd T 0)) ∧ w5.cell? ⟨w.heap.size, 1, none⟩ = some (.int .u64 (wd T 1)) ∧ w5.cell? ⟨w.heap.size, 2, none⟩ = some (.int .u64 (wd T 2)) ∧ w5.cell? ⟨w.heap.size, 3, none⟩ = some (.int .u64 (wd T 3))) ∧ w.heap.size < w5.heap.size ∧ Below w.heap.size w w5 := by
  have hs := hb.size
  refine ⟨⟨(hb.cell (by simp)).trans (by simp), (hb.cell (by simp)).trans (by simp), (hb.cell (by simp)).trans (by simp), (hb.cell (by simp)).trans (by simp)⟩, by simp at hs; omega, ((Below.refl _ _).alloc (Nat.le_refl _) _).trans (hb.mono (by simp))⟩
/-- Class j has bytes that are in S, and bytes that are not. -/
def splitB (of : Nat → Nat) (S j : Nat) : Bool := !decide (clsSet of 256 j &&& S = 0) && !decide (clsSet of 256 j &&& S = clsSet of 256 j)
def splitsB (of : Nat → Nat) (n S : Nat) : Bool := (List.range n).any (splitB of S)
end Go.Proofs.YtdmnocjlmnkdhaaDoor
namespace Go.Proofs.YtdmnocjlmnkdhaaDoor
open Go.RowKit Sets Nf
namespace Df
def SetsAt (w : World) (a : Option Addr) (L : List Nat) : Prop := ∀ i, i < L.length → ∃ b o, a = some ⟨b, o, none⟩ ∧ w.rangeAt b (o + i * 4) (setC (L.getD i 0)).toList
theorem SetsAt.kept {w w' : World} {a : Option Addr} {L : List Nat} (h : SetsAt w a L) (hb : Below w.heap.size w w') : SetsAt w' a L := fun i hi => by
  obtain ⟨b, o, e, hc⟩ := h i hi
  exact ⟨b, o, e, range_below hc hb⟩
/-- A reader as a value. -/
structure Rd where
  fi : Nat
  G : List Nat
  H : List Nat
  la : Nat
  em : Bool
structure Rx where
  a : Option Addr
  gc : Nat
  b : Option Addr
  hc : Nat
def rdC (x : Rx) (r : Rd) : Array Value := #[.int .u64 (wd r.fi 0), .int .u64 (wd r.fi 1), .int .u64 (wd r.fi 2), .int .u64 (wd r.fi 3), .slice x.a r.G.length x.gc, .slice x.b r.H.length x.hc, .int .u64 (wd r.la 0), .int .u64 (wd r.la 1), .int .u64 (wd r.la 2), .int .u64 (wd r.la 3), .bool r.em]
structure RAt (w : World) (x : Rx) (r : Rd) : Prop where
  g : SetsAt w x.a r.G
  h : SetsAt w x.b r.H
theorem RAt.kept {w w' : World} {x : Rx} {r : Rd} (h : RAt w x r) (hb : Below w.heap.size w w') : RAt w' x r := ⟨h.g.kept hb, h.h.kept hb⟩
theorem oneRd (x : Rx) (r : Rd) : (rdC x r).all (·.oneCell') = true := by simp [rdC, Value.oneCell']
/-- A state of a machine: its spots, and whether anything was read. -/
def rC (s : Nat × Bool) : Array Value := #[.int .u64 (wd s.1 0), .int .u64 (wd s.1 1), .int .u64 (wd s.1 2), .int .u64 (wd s.1 3), .bool s.2]
theorem oneRuns (s : Nat × Bool) : (rC s).all (·.oneCell') = true := by simp [rC, Value.oneCell']
theorem zeroR : #[Value.int .u64 0, .int .u64 0, .int .u64 0, .int .u64 0, .bool false] = rC (0, false) := by unfold rC; simp only [wd_zero]; rfl
/-- What comes behind a byte of class c, and what is final. -/
def nextS (r : Rd) (s : Nat × Bool) : Nat := if s.2 then bh r.G s.1 else r.fi
def intoS (r : Rd) (s : Nat × Bool) (c : Nat) : Nat × Bool := (nextS r s &&& r.H.getD c 0, true)
def finS (r : Rd) (s : Nat × Bool) : Bool := if s.2 then decide (s.1 &&& r.la ≠ 0) else r.em
theorem wpList_load_setm {ops : Array Oper} {rest : List Oper} {o : Oper} {a : Act} {w : World} {Q : Exit → Act → World → Prop} (hgd : o.guard = none) (x : Operand) (ho : o.op = .load 41 x)
    (b q S : Nat) (hx : a.eval x = .pointer (some ⟨b, q, none⟩)) (hc : w.rangeAt b q (setC S).toList) (h : wpList Tryd.prog ops Q rest (a.put o.dst (.agg (setC S))) w) : wpList Tryd.prog ops Q (o :: rest) a w :=
  wpList_load_mid hgd 41 x ho b q hx (setC S).toList _ hc Tryd.underlying41 rfl (sizeSetL S) h
theorem wpList_lay_set2 {ops : Array Oper} {rest : List Oper} {o : Oper} {a : Act} {w : World} {Q : Exit → Act → World → Prop} (hgd : o.guard = none) (x y : Operand)
    (ho : o.op = .store 41 x y) (S T : Nat) (hx : a.eval x = .pointer (some ⟨w.heap.size, 0, none⟩)) (hy : a.eval y = .agg (setC T))
    (h : wpList Tryd.prog ops Q rest (a.put o.dst undef) (w.alloc (.cells (setC T) 41))) : wpList Tryd.prog ops Q (o :: rest) a (w.alloc (.cells (setC S) 41)) := by
  refine wpList_store_row hgd 41 x y ho w.heap.size (setC T) hx hy 41 (setC S) (heap_alloc_new w _) (sizeSet T) rfl (oneSet T) ?_
  rw [World.setRow_alloc_new]
  exact h
end Df
end Go.Proofs.YtdmnocjlmnkdhaaDoor
