/- Several texts in one. -/
import Derived.Test.YtlbaecjmfgahgaaDoorPsB
import Derived.Test.YtlbaecjmfgahgaaDoorNfQ
import Derived.Test.YtlbaecjmfgahgaaDoorNfT
import Derived.Test.YtlbaecjmfgahgaaDoorOct4
import Derived.Maps.AppendAt
namespace Go.Proofs.YtlbaecjmfgahgaaDoor
open Go.RowKit Sets Cls
theorem words_eq {S T : Nat} (hS : S < 2 ^ 256) (hT : T < 2 ^ 256) : (((wd S 0 : Nat) : Int) == ((wd T 0 : Nat) : Int) && ((wd S 1 : Nat) : Int) == ((wd T 1 : Nat) : Int) && ((wd S 2 : Nat) : Int) == ((wd T 2 : Nat) : Int) && ((wd S 3 : Nat) : Int) == ((wd T 3 : Nat) : Int)) = decide (S = T) := by
  rw [Bool.eq_iff_iff]
  simp only [Bool.and_eq_true, beq_iff_eq, decide_eq_true_iff]
  constructor
  · rintro ⟨⟨⟨h0, h1⟩, h2⟩, h3⟩
    refine ext_words hS hT (fun i hi => ?_)
    have : i = 0 ∨ i = 1 ∨ i = 2 ∨ i = 3 := by omega
    rcases this with rfl | rfl | rfl | rfl <;> omega
  · rintro rfl; exact ⟨⟨⟨rfl, rfl⟩, rfl⟩, rfl⟩
theorem setEq {S T : Nat} (hS : S < 2 ^ 256) (hT : T < 2 ^ 256) (w : World) :
    (Op.equalIn 10000 39 (.agg #[.int .u64 (wd S 0), .int .u64 (wd S 1), .int .u64 (wd S 2), .int .u64 (wd S 3)]) (.agg #[.int .u64 (wd T 0), .int .u64 (wd T 1), .int .u64 (wd T 2), .int .u64 (wd T 3)])).run Tryd.prog w = .ok (decide (S = T)) w := by
  rw [eqSet, words_eq hS hT]
theorem setEq0 {S : Nat} (hS : S < 2 ^ 256) (w : World) :
    (Op.equalIn 10000 39 (.agg #[.int .u64 (wd S 0), .int .u64 (wd S 1), .int .u64 (wd S 2), .int .u64 (wd S 3)]) (.agg #[.int .u64 0, .int .u64 0, .int .u64 0, .int .u64 0])).run Tryd.prog w = .ok (decide (S = 0)) w := by
  have h := setEq hS (show 0 < 2 ^ 256 from by decide) w
  simp only [wd_zero] at h
  exact h
theorem setEq_is {S T : Nat} (hS : S < 2 ^ 256) (hT : T < 2 ^ 256) (b : Bool) (h : decide (S = T) = b) (w : World) :
    (Op.equalIn 10000 39 (.agg #[.int .u64 (wd S 0), .int .u64 (wd S 1), .int .u64 (wd S 2), .int .u64 (wd S 3)]) (.agg #[.int .u64 (wd T 0), .int .u64 (wd T 1), .int .u64 (wd T 2), .int .u64 (wd T 3)])).run Tryd.prog w = .ok b w := by
  rw [setEq hS hT, h]
theorem setEq0_is {S : Nat} (hS : S < 2 ^ 256) (b : Bool) (h : decide (S = 0) = b) (w : World) :
    (Op.equalIn 10000 39 (.agg #[.int .u64 (wd S 0), .int .u64 (wd S 1), .int .u64 (wd S 2), .int .u64 (wd S 3)]) (.agg #[.int .u64 0, .int .u64 0, .int .u64 0, .int .u64 0])).run Tryd.prog w = .ok b w := by
  rw [setEq0 hS, h]
theorem and_lt {S T : Nat} (hS : S < 2 ^ 256) : S &&& T < 2 ^ 256 := Nat.lt_of_le_of_lt Nat.and_le_left hS
theorem new_set {w w5 : World} (T : Nat) (t : TypeId) (hb : Below (w.alloc (.cells #[.int .u64 (wd T 0), .int .u64 (wd T 1), .int .u64 (wd T 2), .int .u64 (wd T 3)] t)).heap.size (w.alloc (.cells #[.int .u64 (wd T 0), .int .u64 (wd T 1), .int .u64 (wd T 2), .int .u64 (wd T 3)] t)) w5) :
    (w5.cell? ⟨w.heap.size, 0, none⟩ = some (.int .u64 (wd T 0)) ∧ w5.cell? ⟨w.heap.size, 1, none⟩ = some (.int .u64 (wd T 1)) ∧ w5.cell? ⟨w.heap.size, 2, none⟩ = some (.int .u64 (wd T 2)) ∧ w5.cell? ⟨w.heap.size, 3, none⟩ = some (.int .u64 (wd T 3))) ∧ w.heap.size < w5.heap.size ∧ Below w.heap.size w w5 := by
  have hs := hb.size
  refine ⟨⟨(hb.cell (by simp)).trans (by simp), (hb.cell (by simp)).trans (by simp), (hb.cell (by simp)).trans (by simp), (hb.cell (by simp)).trans (by simp)⟩, by simp at hs; omega, ((Below.refl _ _).alloc (Nat.le_refl _) _).trans (hb.mono (by simp))⟩
/-- Class j has bytes that are in S, and bytes that are not. -/
def splitB (of : Nat → Nat) (S j : Nat) : Bool := !decide (clsSet of 256 j &&& S = 0) && !decide (clsSet of 256 j &&& S = clsSet of 256 j)
def splitsB (of : Nat → Nat) (n S : Nat) : Bool := (List.range n).any (splitB of S)
end Go.Proofs.YtlbaecjmfgahgaaDoor
namespace Go.Proofs.YtlbaecjmfgahgaaDoor
open Go.RowKit Sets Nf
namespace Df
def SetsAt (w : World) (a : Option Addr) (L : List Nat) : Prop := ∀ i, i < L.length → ∃ b o, a = some ⟨b, o, none⟩ ∧ w.rangeAt b (o + i * 4) (setC (L.getD i 0)).toList
theorem SetsAt.kept {w w' : World} {a : Option Addr} {L : List Nat} (h : SetsAt w a L) (hb : Below w.heap.size w w') : SetsAt w' a L := fun i hi => by
  obtain ⟨b, o, e, hc⟩ := h i hi
  exact ⟨b, o, e, range_below hc hb⟩
/-- A reader as a value. -/
structure Rd where
  fi : Nat
  G : List Nat
  H : List Nat
  la : Nat
  em : Bool
structure Rx where
  a : Option Addr
  gc : Nat
  b : Option Addr
  hc : Nat
def rdC (x : Rx) (r : Rd) : Array Value := #[.int .u64 (wd r.fi 0), .int .u64 (wd r.fi 1), .int .u64 (wd r.fi 2), .int .u64 (wd r.fi 3), .slice x.a r.G.length x.gc, .slice x.b r.H.length x.hc, .int .u64 (wd r.la 0), .int .u64 (wd r.la 1), .int .u64 (wd r.la 2), .int .u64 (wd r.la 3), .bool r.em]
structure RAt (w : World) (x : Rx) (r : Rd) : Prop where
  g : SetsAt w x.a r.G
  h : SetsAt w x.b r.H
theorem RAt.kept {w w' : World} {x : Rx} {r : Rd} (h : RAt w x r) (hb : Below w.heap.size w w') : RAt w' x r := ⟨h.g.kept hb, h.h.kept hb⟩
theorem oneRd (x : Rx) (r : Rd) : (rdC x r).all (·.oneCell') = true := by simp [rdC, Value.oneCell']
/-- A state of a machine: its spots, and whether anything was read. -/
def rC (s : Nat × Bool) : Array Value := #[.int .u64 (wd s.1 0), .int .u64 (wd s.1 1), .int .u64 (wd s.1 2), .int .u64 (wd s.1 3), .bool s.2]
theorem oneRuns (s : Nat × Bool) : (rC s).all (·.oneCell') = true := by simp [rC, Value.oneCell']
theorem zeroR : #[Value.int .u64 0, .int .u64 0, .int .u64 0, .int .u64 0, .bool false] = rC (0, false) := by unfold rC; simp only [wd_zero]; rfl
/-- What comes behind a byte of class c, and what is final. -/
def nextS (r : Rd) (s : Nat × Bool) : Nat := if s.2 then bh r.G s.1 else r.fi
def intoS (r : Rd) (s : Nat × Bool) (c : Nat) : Nat × Bool := (nextS r s &&& r.H.getD c 0, true)
def finS (r : Rd) (s : Nat × Bool) : Bool := if s.2 then decide (s.1 &&& r.la ≠ 0) else r.em
theorem wpList_load_setm {ops : Array Oper} {rest : List Oper} {o : Oper} {a : Act} {w : World} {Q : Exit → Act → World → Prop} (hgd : o.guard = none) (x : Operand) (ho : o.op = .load 39 x)
    (b q S : Nat) (hx : a.eval x = .pointer (some ⟨b, q, none⟩)) (hc : w.rangeAt b q (setC S).toList) (h : wpList Tryd.prog ops Q rest (a.put o.dst (.agg (setC S))) w) : wpList Tryd.prog ops Q (o :: rest) a w :=
  wpList_load_mid hgd 39 x ho b q hx (setC S).toList _ hc Tryd.underlying39 rfl (sizeSetL S) h
theorem wpList_lay_set2 {ops : Array Oper} {rest : List Oper} {o : Oper} {a : Act} {w : World} {Q : Exit → Act → World → Prop} (hgd : o.guard = none) (x y : Operand)
    (ho : o.op = .store 39 x y) (S T : Nat) (hx : a.eval x = .pointer (some ⟨w.heap.size, 0, none⟩)) (hy : a.eval y = .agg (setC T))
    (h : wpList Tryd.prog ops Q rest (a.put o.dst undef) (w.alloc (.cells (setC T) 39))) : wpList Tryd.prog ops Q (o :: rest) a (w.alloc (.cells (setC S) 39)) := by
  refine wpList_store_row hgd 39 x y ho w.heap.size (setC T) hx hy 39 (setC S) (heap_alloc_new w _) (sizeSet T) rfl (oneSet T) ?_
  rw [World.setRow_alloc_new]
  exact h
end Df
end Go.Proofs.YtlbaecjmfgahgaaDoor
namespace Go.Proofs.YtlbaecjmfgahgaaDoor
open Go.RowKit Sets Nf
namespace Df
theorem foldl_snoc_get (G : List Nat) (l : List Nat) (j : Nat) (h : j < l.length) : (l.take (j + 1)).foldl (fun a k => a ||| G.getD k 0) 0 = (l.take j).foldl (fun a k => a ||| G.getD k 0) 0 ||| G.getD (l.getD j 0) 0 := by
  rw [List.take_succ_eq_append_getElem h, List.foldl_append, List.getD_eq_getElem?_getD (l := l), List.getElem?_eq_getElem h]; rfl
theorem set_u8 {w : World} {B S b o k : Nat} (h : SetB w B S) (hc : w.cell? ⟨b, o, none⟩ = some (.int .u8 k)) : b ≠ B := by
  intro e
  subst e
  rw [cell_of_row w b o _ _ _ h.row] at hc
  have ho : o < 4 := by have := (Array.getElem?_eq_some_iff.1 hc).1; simpa [setC] using this
  have : o = 0 ∨ o = 1 ∨ o = 2 ∨ o = 3 := by omega
  rcases this with rfl | rfl | rfl | rfl <;> simp [setC] at hc
def orTo (G l : List Nat) (j : Nat) : Nat := (l.take j).foldl (fun a k => a ||| G.getD k 0) 0
end Df
end Go.Proofs.YtlbaecjmfgahgaaDoor
namespace Go.Proofs.YtlbaecjmfgahgaaDoor
open Go.RowKit Sets Nf
namespace Df
/-- The cells of an automaton. -/
def dfC (of : Nat → Nat) (n : Int) (nv fv : Value) : Array Value := (ofL of ++ [Value.int .i64 n, nv, fv]).toArray
def nilS : Value := .slice none 0 0
theorem dfC_size (of : Nat → Nat) (n : Int) (nv fv : Value) : (dfC of n nv fv).size = 259 := by simp [dfC, ofL_length]
theorem dfC_get (of : Nat → Nat) (n : Int) (nv fv : Value) (c : Nat) (h : c < 256) : (dfC of n nv fv)[c]? = some (.int .u8 (of c)) := by
  unfold dfC
  rw [List.getElem?_toArray, List.getElem?_append_left (by rw [ofL_length]; exact h), ofL_get of c h]
theorem dfC_hi (of : Nat → Nat) (n : Int) (nv fv : Value) (c : Nat) : (dfC of n nv fv)[256 + c]? = [Value.int .i64 n, nv, fv][c]? := by
  unfold dfC
  rw [List.getElem?_toArray, List.getElem?_append_right (by rw [ofL_length]; omega), ofL_length, show 256 + c - 256 = c from by omega]
theorem dfC_n (of : Nat → Nat) (n : Int) (nv fv : Value) : (dfC of n nv fv)[256]? = some (.int .i64 n) := dfC_hi of n nv fv 0
theorem dfC_nv (of : Nat → Nat) (n : Int) (nv fv : Value) : (dfC of n nv fv)[257]? = some nv := dfC_hi of n nv fv 1
theorem dfC_fv (of : Nat → Nat) (n : Int) (nv fv : Value) : (dfC of n nv fv)[258]? = some fv := dfC_hi of n nv fv 2
theorem dfC_setN (of : Nat → Nat) (n : Int) (nv fv v : Value) : (dfC of n nv fv).setIfInBounds 257 v = dfC of n v fv := by
  unfold dfC
  rw [List.setIfInBounds_toArray, List.set_append_right _ _ (by rw [ofL_length]; omega), ofL_length]
  rfl
theorem dfC_setF (of : Nat → Nat) (n : Int) (nv fv v : Value) : (dfC of n nv fv).setIfInBounds 258 v = dfC of n nv v := by
  unfold dfC
  rw [List.setIfInBounds_toArray, List.set_append_right _ _ (by rw [ofL_length]; omega), ofL_length]
  rfl
theorem ofL_zero : ofL (fun _ => 0) = List.replicate 256 (Value.int .u8 0) := by unfold ofL; rw [List.map_const', List.length_range]; rfl
theorem oneDf (of : Nat → Nat) (n : Int) (a b : Option Addr) (k l c d : Nat) : (dfC of n (.slice a k c) (.slice b l d)).all (·.oneCell') = true := by
  rw [Array.all_eq_true_iff_forall_mem]
  intro v hv
  simp [dfC, ofL] at hv
  rcases hv with ⟨c, -, rfl⟩ | rfl | rfl | rfl <;> rfl
/-- The next states R in slices of their own, from B on; the final ones F too. -/
structure OwnD (B : Nat) (w : World) (R : List (List Int)) (F : List Bool) (nv fv : Value) (vs : List Value) : Prop where
  nx : w.ownsRow B 23 1 nv R.length vs
  len : vs.length = R.length
  each : ∀ i, i < R.length → OwnN B w (vs.getD i nilS) (R.getD i [])
  fl : w.ownsRow B 4 1 fv F.length (bL F)
theorem OwnD.nil (B : Nat) (w : World) : OwnD B w [] [] nilS nilS [] := ⟨World.ownsRow_nil _ _ _ _, rfl, fun _ hi => absurd hi (Nat.not_lt_zero _), World.ownsRow_nil _ _ _ _⟩
theorem OwnD.kept {B : Nat} {w w' : World} {R : List (List Int)} {F : List Bool} {nv fv : Value} {vs : List Value} (h : OwnD B w R F nv fv vs)
    (hk : ∀ (k : Nat) (cs : Array Value) (t : TypeId), w.heap[k]? = some (Obj.cells cs t (0, 0)) → t = 23 ∨ t = 3 ∨ t = 4 → w'.heap[k]? = w.heap[k]?) : OwnD B w' R F nv fv vs := by
  refine ⟨own_kept h.nx fun g hg => ?_, h.len, fun i hi => own_kept (h.each i hi) fun g hg => ?_, own_kept h.fl fun g hg => ?_⟩
  · obtain ⟨cs, hc⟩ := own_type h.nx hg; exact hk g cs _ hc (.inl rfl)
  · obtain ⟨cs, hc⟩ := own_type (h.each i hi) hg; exact hk g cs _ hc (.inr (.inl rfl))
  · obtain ⟨cs, hc⟩ := own_type h.fl hg; exact hk g cs _ hc (.inr (.inr rfl))
theorem OwnD.stay {B : Nat} {w w' : World} {R : List (List Int)} {F : List Bool} {nv fv : Value} {vs : List Value} (h : OwnD B w R F nv fv vs) (hb : Below w.heap.size w w') : OwnD B w' R F nv fv vs :=
  h.kept fun k _ _ hc _ => hb.block k (Array.getElem?_eq_some_iff.1 hc).1
/-- All below B stays, but for the purse's block. -/
structure BelP (p : Option (Nat × Nat)) (B : Nat) (w w' : World) : Prop where
  os : w'.os = w.os
  tape : w'.tape = w.tape
  output : w'.output = w.output
  size : w.heap.size ≤ w'.heap.size
  block : ∀ k, k < B → (∀ q, p = some q → q.1 ≠ k) → w'.heap[k]? = w.heap[k]?
theorem BelP.refl (p : Option (Nat × Nat)) (B : Nat) (w : World) : BelP p B w w := ⟨rfl, rfl, rfl, Nat.le_refl _, fun _ _ _ => rfl⟩
theorem BelP.trans {p : Option (Nat × Nat)} {B : Nat} {w w1 w2 : World} (h : BelP p B w w1) (k : BelP p B w1 w2) : BelP p B w w2 :=
  ⟨k.os.trans h.os, k.tape.trans h.tape, k.output.trans h.output, Nat.le_trans h.size k.size, fun i hi hn => (k.block i hi hn).trans (h.block i hi hn)⟩
theorem BelP.of_below {p : Option (Nat × Nat)} {B : Nat} {w w' : World} (h : Below B w w') : BelP p B w w' := ⟨h.os, h.tape, h.output, h.size, fun k hk _ => h.block k hk⟩
theorem BelP.below {B : Nat} {w w' : World} (h : BelP none B w w') : Below B w w' := ⟨h.os, h.tape, h.output, h.size, fun k hk => h.block k hk (fun q hq => by cases hq)⟩
/-- A row that grows class by class. -/
def rowCl {σ : Type} [DecidableEq σ] (f : Nat → σ) (L : List σ) (nc c : Nat) : List Int := (List.range nc).map fun d => if d < c then ((ix (puts f L c) (f d) : Nat) : Int) else 0
section
variable {σ : Type} [DecidableEq σ]
theorem rowCl_len (f : Nat → σ) (L : List σ) (nc c : Nat) : (rowCl f L nc c).length = nc := by unfold rowCl; simp
theorem rowCl_all (f : Nat → σ) (L : List σ) (nc : Nat) : rowCl f L nc nc = rowTo f L nc := by
  unfold rowCl rowTo
  exact List.map_congr_left fun d hd => if_pos (List.mem_range.1 hd)
theorem rowCl_zero (f : Nat → σ) (L : List σ) (nc : Nat) : rowCl f L nc 0 = List.replicate nc 0 := by
  unfold rowCl
  rw [List.map_congr_left (g := fun _ => (0 : Int)) (fun d _ => if_neg (Nat.not_lt_zero d)), List.map_const', List.length_range]
theorem rowCl_get (f : Nat → σ) (L : List σ) (nc c d : Nat) : (rowCl f L nc c)[d]? = if d < nc then some (if d < c then ((ix (puts f L c) (f d) : Nat) : Int) else 0) else none := by
  unfold rowCl
  rw [List.getElem?_map]
  by_cases h : d < nc
  · rw [List.getElem?_range h, if_pos h]; rfl
  · rw [if_neg h, List.getElem?_eq_none (by simp; omega)]; rfl
theorem rowCl_set (f : Nat → σ) (L : List σ) (nc c : Nat) (h : c < nc) : (rowCl f L nc c).set c ((ix (puts f L c) (f c) : Nat) : Int) = rowCl f L nc (c + 1) := by
  apply List.ext_getElem?
  intro i
  rw [List.getElem?_set, rowCl_len, rowCl_get, rowCl_get]
  by_cases e : c = i
  · subst e
    rw [if_pos rfl, if_pos h, if_pos h, if_pos (Nat.lt_succ_self c)]
    have : ix (puts f L (c + 1)) (f c) = ix (puts f L c) (f c) := ix_put _ _
    rw [this]
  · rw [if_neg e]
    by_cases hi : i < nc
    · rw [if_pos hi, if_pos hi]
      by_cases e2 : i < c
      · rw [if_pos e2, if_pos (by omega), ix_puts f L c i e2]
      · rw [if_neg e2, if_neg (by omega)]
    · rw [if_neg hi, if_neg hi]
end
theorem is64_set (l : List Int) (i : Nat) (k : Int) : (is64 l).set i (.int .i64 k) = is64 (l.set i k) := by unfold is64; rw [List.map_set]
theorem is64_zero (n : Nat) : is64 (List.replicate n 0) = (madeCells #[.int .i64 0] n).toList := by
  unfold is64
  rw [List.map_replicate]
  simp [madeCells, Nat.mod_one, List.map_const']
end Df
end Go.Proofs.YtlbaecjmfgahgaaDoor
namespace Go.Proofs.YtlbaecjmfgahgaaDoor
open Go.RowKit Sets
theorem u8s_snoc (D : List Nat) (c : Nat) : u8s (D ++ [c]) = u8s D ++ [.int .u8 c] := by unfold u8s; rw [List.map_append]; rfl
/-- What the call owns lies on while what lay below some world's end is kept. -/
theorem owns_below {w w' : World} {B e sz n : Nat} {v : Value} {xs : List Value} (h : w.ownsRow B e sz v n xs) (hb : Below w.heap.size w w') : w'.ownsRow B e sz v n xs := by
  obtain ⟨h1, h2⟩ := h
  refine ⟨h1, ?_⟩
  rcases h2 with h2 | ⟨g, cap, cur, h3, h4, h5, h6⟩
  · exact .inl h2
  · exact .inr ⟨g, cap, cur, h3, h4, by rw [hb.block _ (Array.getElem?_eq_some_iff.1 h5).1]; exact h5, h6⟩
theorem owns_slice {w : World} {B e sz n : Nat} {v : Value} {xs : List Value} (h : w.ownsRow B e sz v n xs) : ∃ a cap, v = .slice a n cap ∧ n ≤ cap := by
  rcases h.2 with ⟨h1, h2⟩ | ⟨g, cap, cur, h1, -, -, h2, -⟩
  · exact ⟨none, 0, by rw [h1, h2], by omega⟩
  · exact ⟨_, cap, h1, h2⟩
theorem wpList_append_u8 {ops : Array Oper} {rest : List Oper} {o : Oper} {a : Act} {w : World} {Q : Exit → Act → World → Prop} (hgd : o.guard = none) (s x : Operand)
    (ho : o.op = .call { callee := .builtin .append, args := #[s, x], argTypes := #[69, 69] }) (base : Nat) (v : Value) (D : List Nat) (c : Nat) (hs : a.eval s = v)
    (hown : w.ownsRow base 5 1 v D.length (u8s D)) (hx : a.eval x = .slice (some ⟨w.heap.size, 0, none⟩) 1 1) (hD : D.length + 1 ≤ 140737488355328) (hbase : base ≤ w.heap.size)
    (h : ∀ v' w', w'.ownsRow base 5 1 v' (D ++ [c]).length (u8s (D ++ [c])) → Below base w w' → wpList Tryd.prog ops Q rest (a.put o.dst v') w') :
    wpList Tryd.prog ops Q (o :: rest) a (w.alloc (.cells #[.int .u8 (c : Int)] 5)) := by
  obtain ⟨i0, hi, hz0, hz1, hz2⟩ := info_parts infoB
  refine wpList_append_own _ hgd s x 69 ho base 5 i0 (.int .u8 0) 1 1 Tryd.underlying69 hi hz0 hz1 hz2 rfl (by decide) v _ _ hs (hown.alloc _) ⟨w.heap.size, 0, none⟩ 1 1 [.int .u8 (c : Int)] hx rfl (cell_one_new _ _ _) ?_ ?_ ?_ ?_ ?_
  · intro u hu; simp at hu; subst hu; rfl
  · unfold maxLen; omega
  · omega
  · simp; omega
  · intro v' w' h1 h2 _
    refine h v' w' ?_ (((Below.refl _ _).alloc hbase _).grown h2 (by simp; omega) (fun j hj => (hown.lt j hj).1))
    rw [u8s_snoc, List.length_append]
    exact h1
end Go.Proofs.YtlbaecjmfgahgaaDoor
namespace Go.Proofs.YtlbaecjmfgahgaaDoor
open Go.RowKit Sets Cls
theorem owns_setsIn {w : World} {B : Nat} {v : Value} {L : List Nat} (h : w.ownsRow B 39 4 v L.length (setsL L)) (hm : L.length ≤ maxLen) : SetsIn w v L := by
  rcases h.2 with ⟨h1, h2⟩ | ⟨g, cap, cur, h1, -, h3, hnc, -, -, h4⟩
  · exact ⟨hm, none, 0, by rw [h1, h2], by omega, fun i hi => by omega⟩
  · refine ⟨hm, _, cap, h1, hnc, fun i hi => ⟨g, 0, rfl, fun q hq => ?_⟩⟩
    rw [Nat.zero_add, cell_of_row w g _ _ _ _ h3, ← Array.getElem?_toList]
    have := setsL_get L i q hi hq
    rw [← h4, List.getElem?_take_of_lt (by have := (List.getElem?_eq_some_iff.1 this).1; rw [h4, setsL_length] at this; omega)] at this
    exact this
theorem setsL_append (D L : List Nat) : setsL (D ++ L) = setsL D ++ setsL L := by unfold setsL; simp
theorem setsL_ones (L : List Nat) : ∀ u ∈ setsL L, u.oneCell' = true := by
  intro u hu
  unfold setsL at hu
  obtain ⟨S, -, hS⟩ := List.mem_flatMap.1 hu
  simp [set4] at hS
  rcases hS with rfl | rfl | rfl | rfl <;> rfl
theorem setsIn_cell {w : World} {ad : Addr} {cap : Nat} {L : List Nat} (h : SetsIn w (.slice (some ad) L.length cap) L) (j : Nat) (u : Value) (hj : (setsL L)[j]? = some u) : w.cell? (ad.add j) = some u := by
  obtain ⟨-, a, cap', e, -, hc⟩ := h
  cases e
  have hl := (List.getElem?_eq_some_iff.1 hj).1
  rw [setsL_length] at hl
  obtain ⟨b, o, e, hq⟩ := hc (j / 4) (by omega)
  cases e
  have h1 := hq (j % 4) (by omega)
  have h2 := setsL_get L (j / 4) (j % 4) (by omega) (by omega)
  rw [show j / 4 * 4 + j % 4 = j from by omega] at h2
  rw [Addr.add_lit, show o + j = o + j / 4 * 4 + j % 4 from by omega, h1, ← h2, hj]
theorem run_append_sets (w : World) (base : Nat) (ty : TypeId) (v x : Value) (D L : List Nat) (hown : w.ownsRow base 39 4 v D.length (setsL D)) (hin : SetsIn w x L) (hb : D.length + L.length ≤ 1000) (hbase : base ≤ w.heap.size) :
    ∃ v' w', (Builtin.append_ #[43, 43] ty #[v, x]).run Tryd.prog w = .ok v' w' ∧ w'.ownsRow base 39 4 v' (D ++ L).length (setsL (D ++ L)) ∧ Below base w w' := by
  obtain ⟨i0, hi, hz0, hz1, hz2⟩ := info_parts infoS
  have hin' := hin
  obtain ⟨-, a, cap, rfl, -, hc⟩ := hin'
  cases a with
  | some ad =>
    obtain ⟨v', w', hr, h1, h2, -⟩ := run_append_own (P := Tryd.prog) w base 43 ty 39 i0 _ 4 32 Tryd.underlying43 hi hz0 hz1 hz2 rfl (by decide) v D.length (setsL D) hown ad L.length cap (setsL L) (setsL_length L) (setsIn_cell hin) (setsL_ones L) (by unfold maxLen; omega) (by omega) hbase
    refine ⟨v', w', hr, ?_, (Below.refl _ _).grown h2 hbase (fun j hj => (hown.lt j hj).1)⟩
    rw [setsL_append, List.length_append]
    exact h1
  | none =>
    have hL : L = [] := by
      cases L with
      | nil => rfl
      | cons S L => obtain ⟨b, o, e, -⟩ := hc 0 (by simp); cases e
    subst hL
    refine ⟨v, w, ?_, by rw [List.append_nil]; exact hown, Below.refl _ _⟩
    obtain ⟨base', cap', rfl, hcap⟩ := owns_slice hown
    have hle : D.length + 0 ≤ cap' := hcap
    cases base' <;> simp [Builtin.append_, run_underlying Tryd.underlying43, sizeOf, typeInfo, hi, Builtin.lenOf, Builtin.firstCells, loadCells, hcap, storeCells]
theorem wp_append_sets {o : Oper} {a : Act} {w : World} {K : Act → World → Prop} {Q : Exit → Act → World → Prop} (s x : Operand)
    (ho : o.op = .call { callee := .builtin .append, args := #[s, x], argTypes := #[43, 43] }) (base : Nat) (D L : List Nat)
    (hown : w.ownsRow base 39 4 (a.eval s) D.length (setsL D)) (hin : SetsIn w (a.eval x) L) (hb : D.length + L.length ≤ 1000) (hbase : base ≤ w.heap.size)
    (h : ∀ v' w', w'.ownsRow base 39 4 v' (D ++ L).length (setsL (D ++ L)) → Below base w w' → K (a.put o.dst v') w') : o.wp Tryd.prog a w K Q := by
  obtain ⟨v', w', hr, h1, h2⟩ := run_append_sets w base o.type _ _ D L hown hin hb hbase
  unfold Oper.wp execOp
  simp only [ho, resolve, invoke, builtin, Sem.run_bind, Sem.run_pure, Result.andThen_ok, List.map_toArray, List.map_cons, List.map_nil, hr]
  exact h v' w' h1 h2
theorem wpList_append_sets {ops : Array Oper} {rest : List Oper} {o : Oper} {a : Act} {w : World} {Q : Exit → Act → World → Prop} (hgd : o.guard = none) (s x : Operand)
    (ho : o.op = .call { callee := .builtin .append, args := #[s, x], argTypes := #[43, 43] }) (base : Nat) (D L : List Nat)
    (hown : w.ownsRow base 39 4 (a.eval s) D.length (setsL D)) (hin : SetsIn w (a.eval x) L) (hb : D.length + L.length ≤ 1000) (hbase : base ≤ w.heap.size)
    (h : ∀ v' w', w'.ownsRow base 39 4 v' (D ++ L).length (setsL (D ++ L)) → Below base w w' → wpList Tryd.prog ops Q rest (a.put o.dst v') w') : wpList Tryd.prog ops Q (o :: rest) a w :=
  wpList_plain hgd fun _ hK => wp_append_sets s x ho base D L hown hin hb hbase fun v' w' h1 h2 => hK _ _ (h v' w' h1 h2)
theorem owns_none (w : World) (base : Nat) (hb : base ≤ w.heap.size) : (w.alloc (.cells #[] 39)).ownsRow base 39 4 (.slice (some ⟨w.heap.size, 0, none⟩) 0 0) 0 (setsL []) :=
  World.ownsRow_made w #[] 0 hb (by simp) (by simp)
end Go.Proofs.YtlbaecjmfgahgaaDoor
