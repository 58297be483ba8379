/- Several texts in one. -/
import Derived.Test.YtplkhgmjcljjhaaDoorPq06
import Derived.Laws.MakeOwn
import Derived.Test.YtplkhgmjcljjhaaDoorPq05
import Derived.OrdersIn
import Derived.RangeFuncCalls
import Derived.RangeFuncKeeps
import Derived.RangeFuncNested
import Derived.RangeFuncBound
import Derived.RangeFuncLeaves
import Derived.Shelf.Abstract
import Derived.Shelf.RegionOpen
import Derived.OwnWalkIn
import Derived.TacticsInMore
import Derived.LoopNIn
import Derived.LoopIn
namespace Go.Proofs.YtplkhgmjcljjhaaDoor
open Go.RowKit Sets Nf
namespace Nf
/-- Block g is a row of these sets. -/
def GsB (w : World) (g : Nat) (G : List Nat) : Prop := w.rowIs g 66 (4 * G.length) (fun j => .int .u64 (wd (G.getD (j / 4) 0) (j % 4)))
theorem GsB.lt {w : World} {g : Nat} {G : List Nat} (h : GsB w g G) : g < w.heap.size := World.rowIs.lt h
theorem GsB.of {w w' : World} {g : Nat} {G : List Nat} (h : GsB w g G) (e : w'.heap[g]? = w.heap[g]?) : GsB w' g G := World.rowIs.of_block h e
theorem GsB.kept {w w' : World} {A g : Nat} {G : List Nat} (h : GsB w g G) (hb : Below A w w') (hA : g < A) : GsB w' g G := h.of (hb.block _ hA)
theorem GsB.stay {w w' : World} {g : Nat} {G : List Nat} (h : GsB w g G) (hb : Below w.heap.size w w') : GsB w' g G := h.kept hb h.lt
theorem GsB.but {w w' : World} {A g : Nat} {G : List Nat} (h : GsB w g G) (hb : But A w w') (hA : g ≠ A) : GsB w' g G := h.of (hb.block _ h.lt hA)
theorem GsB.range {w : World} {g : Nat} {G : List Nat} (h : GsB w g G) {i : Nat} (hi : i < G.length) : w.rangeAt g (i * 4) (setC (G.getD i 0)).toList := by
  intro j v hv
  have hj : j < 4 := by have := (List.getElem?_eq_some_iff.1 hv).1; simpa [setC] using this
  rw [World.rowIs.cell h (by omega), show (i * 4 + j) / 4 = i from by omega, show (i * 4 + j) % 4 = j from by omega]
  rw [← hv]
  have : j = 0 ∨ j = 1 ∨ j = 2 ∨ j = 3 := by omega
  rcases this with rfl | rfl | rfl | rfl <;> rfl
theorem GsB.there {w : World} {g : Nat} {G : List Nat} (h : GsB w g G) {i : Nat} (hi : i < G.length) (T : Nat) : w.there g (i * 4) (setC T).size := by
  intro j hj
  have hj : j < 4 := hj
  refine ⟨?_, World.rowIs.frozen h _⟩
  rw [World.rowIs.cell h (by omega)]; rfl
theorem GsB.new (w : World) (n : Nat) : GsB (w.alloc (.cells (madeCells #[.int .u64 0, .int .u64 0, .int .u64 0, .int .u64 0] (n * 4)) 66)) w.heap.size (List.replicate n 0) := by
  have h := World.rowIs_alloc w (madeCells #[.int .u64 0, .int .u64 0, .int .u64 0, .int .u64 0] (n * 4)) 66 (fun j => .int .u64 (wd ((List.replicate n 0).getD (j / 4) 0) (j % 4))) (fun i hi => by
    rw [size_madeCells] at hi
    have h0 : (List.replicate n 0).getD (i / 4) 0 = 0 := by
      rw [List.getD_eq_getElem?_getD, List.getElem?_replicate]
      split <;> rfl
    rw [h0, wd_zero]
    have h1 : i % 4 = 0 ∨ i % 4 = 1 ∨ i % 4 = 2 ∨ i % 4 = 3 := by omega
    unfold madeCells
    rcases h1 with h1 | h1 | h1 | h1 <;> simp [hi, h1])
  rw [size_madeCells] at h
  unfold GsB
  rw [show 4 * (List.replicate n 0).length = n * 4 from by rw [List.length_replicate]; omega]
  exact h
theorem GsB.set {w : World} {g : Nat} {G : List Nat} (h : GsB w g G) {i : Nat} (hi : i < G.length) (T : Nat) : GsB (w.setCells g (i * 4) (setC T).toList) g (G.set i T) := by
  unfold GsB
  rw [List.length_set]
  refine World.rowIs.congr (World.rowIs.set (World.rowIs.set (World.rowIs.set (World.rowIs.set h (i * 4) (.int .u64 (wd T 0))) (i * 4 + 1) (.int .u64 (wd T 1))) (i * 4 + 1 + 1) (.int .u64 (wd T 2))) (i * 4 + 1 + 1 + 1) (.int .u64 (wd T 3))) ?_
  intro j hj
  have hget : (G.set i T).getD (j / 4) 0 = if j / 4 = i then T else G.getD (j / 4) 0 := by
    rw [List.getD_eq_getElem?_getD, List.getElem?_set]
    by_cases e : i = j / 4
    · rw [if_pos e, if_pos (by omega), if_pos e.symm]; rfl
    · rw [if_neg e, if_neg (fun x => e x.symm), List.getD_eq_getElem?_getD]
  rw [hget]
  by_cases e : j / 4 = i
  · rw [if_pos e]
    have h1 : j % 4 = 0 ∨ j % 4 = 1 ∨ j % 4 = 2 ∨ j % 4 = 3 := by omega
    rcases h1 with h1 | h1 | h1 | h1
    · rw [h1, if_neg (by omega), if_neg (by omega), if_neg (by omega), if_pos (by omega)]
    · rw [h1, if_neg (by omega), if_neg (by omega), if_pos (by omega)]
    · rw [h1, if_neg (by omega), if_pos (by omega)]
    · rw [h1, if_pos (by omega)]
  · rw [if_neg e, if_neg (by omega), if_neg (by omega), if_neg (by omega), if_neg (by omega)]
theorem But.cells4 (g o : Nat) (w : World) (T : Nat) : But g w (w.setCells g o (setC T).toList) :=
  (((But.set g w o _).trans (But.set g _ (o + 1) _)).trans (But.set g _ (o + 1 + 1) _)).trans (But.set g _ (o + 1 + 1 + 1) _)
theorem infoSet4 : (Tryd.prog.info? 66).map (fun i => (i.zero.map (·.cells), i.size, i.bytes)) = some (some #[.int .u64 0, .int .u64 0, .int .u64 0, .int .u64 0], 4, 32) := by kernel_rfl
theorem wpList_make_sets {w : World} {ops : Array Oper} {rest : List Oper} {o : Oper} {a : Act} {Q : Exit → Act → World → Prop}
    (hg : o.guard = none) (l c : Operand) (hop : o.op = Op.makeSlice 50 l c) (n : Nat) (hl : a.eval l = .int .i64 (n : Int)) (hc : a.eval c = .int .i64 (n : Int)) (hn : n ≤ 1000)
    (hK : wpList Tryd.prog ops Q rest (a.put o.dst (.slice (some ⟨w.heap.size, 0, none⟩) n n)) (w.alloc (.cells (madeCells #[.int .u64 0, .int .u64 0, .int .u64 0, .int .u64 0] (n * 4)) 66))) :
    wpList Tryd.prog ops Q (o :: rest) a w := by
  refine wpList_plain hg fun K hK' => ?_
  obtain ⟨i, hi, hzz⟩ := Option.map_eq_some_iff.1 infoSet4
  simp only [Prod.mk.injEq] at hzz
  obtain ⟨hz, hs, hb⟩ := hzz
  obtain ⟨z, hz1, hz2⟩ := Option.map_eq_some_iff.1 hz
  have hrun := run_make (P := Tryd.prog) w 50 66 i z Tryd.underlying50 hi hz1 .i64 .i64 n n (by omega) (Int.le_refl _) (by rw [hb]; omega) (by omega)
  simp only [Int.toNat_natCast, hs, hz2] at hrun
  unfold Oper.wp
  simp [execOp, hop, hl, hc, hrun, Result.andThen]
  exact hK' _ _ hK
theorem wpList_store_at {ops : Array Oper} {rest : List Oper} {o : Oper} {a : Act} {w : World} {Q : Exit → Act → World → Prop} (hgd : o.guard = none) (X Y : Operand) (ho : o.op = .store 66 X Y)
    (g j T : Nat) (hx : a.eval X = .pointer (some ⟨g, j, none⟩)) (hy : a.eval Y = .agg (setC T)) (ht : w.there g j (setC T).size) (h : wpList Tryd.prog ops Q rest (a.put o.dst undef) (w.setCells g j (setC T).toList)) : wpList Tryd.prog ops Q (o :: rest) a w :=
  wpList_store_mid hgd 66 X Y ho g j (setC T) hx hy ht (sizeSet T) (oneSet T) h
end Nf
end Go.Proofs.YtplkhgmjcljjhaaDoor
namespace Go.Proofs.YtplkhgmjcljjhaaDoor
open Go.RowKit
theorem rowsIn_wide {n : Nat} {P : Program} {row : String} {args : Array Value} {w : World} {R : Value → World → Prop} (h : Rows P row args w R) : RowsIn Fence.wide n P row args w R := by
  intro c cs _
  obtain ⟨v, w', r, s⟩ := h c cs
  exact ⟨v, w', r, stepsIn_wide.2 s⟩
theorem oper_round {l n : Nat} {P : Program} {o : Oper} {a : Act} {w : World} {K : Act → World → Prop} {Q : Exit → Act → World → Prop} (hd : ∀ c, o.op ≠ .defer c) (h : o.wp P a w K Q) : o.wpIn (Fence.wide.inRound l) n P a w K Q := by
  unfold Oper.wp at h
  unfold Oper.wpIn
  refine ⟨fun _ _ => trivial, ?_⟩
  rw [Oper.semAt_eq _ _ _ hd]
  generalize (execOp a.eval o).run P w = r at *
  cases r with
  | ok x w' =>
    cases x <;> simp only [Oper.upon, Oper.uponIn] at h ⊢
    case value u => exact h
    case skip => exact h
    case defer d => exact h
    case enter f args => exact ⟨fun h => (by cases h), (CallsIn.inRound l (callsIn_wide.2 h)).mono (fun e w2 hh => by cases e <;> exact hh)⟩
    case row r args => exact ⟨fun h => (by cases h), rowsIn_wide h⟩
  | halt x w' =>
    cases x <;> simp only [Oper.upon, Oper.uponIn] at h ⊢
    case panic u => exact h
theorem any_round {l n : Nat} {P : Program} {md : Region.Mode} {ops : Array Oper} {Q : Exit → Act → World → Prop} (hd : ∀ (i : Nat) (o : Oper) c, ops[i]? = some o → o.op ≠ .defer c) (hQ : ¬ LetsOut Q) :
    ∀ (fuel : Nat) (listed : Array Bool) (a : Act) (w : World), wpAny P md ops Q fuel listed a w → wpAnyIn (Fence.wide.inRound l) n P md ops Q fuel listed a w
  | 0, _, _, _, h => h
  | fuel + 1, listed, a, w, ⟨h0, h1⟩ => by
    refine ⟨h0, fun i hi => ?_⟩
    have := h1 i hi
    unfold wpOp at this
    unfold wpOpIn
    cases ho : ops[i]? with
    | none => simp only [ho] at this ⊢; exact any_round hd hQ fuel _ _ _ this
    | some o =>
      simp only [ho] at this ⊢
      by_cases hw : Region.wanted o (yielded ops a.tmps) = true
      · rw [if_pos hw] at this ⊢
        rcases this with h | ⟨_, h⟩
        · exact Oper.wpIn_mono (fun a w h => any_round hd hQ fuel _ _ _ h) (oper_round (fun c => hd i o c ho) h)
        · exact absurd h hQ
      · rw [if_neg hw] at this ⊢
        exact ⟨fun _ _ => trivial, any_round hd hQ fuel _ _ _ this⟩
theorem region_round {l n : Nat} {P : Program} {id : Nat} {ops : Array Oper} {Q : Exit → Act → World → Prop} {a : Act} {w : World} (hm : P.follows .mixedOrders = true) (hd : ∀ (i : Nat) (o : Oper) c, ops[i]? = some o → o.op ≠ .defer c) (hQ : ¬ LetsOut Q)
    (h : wpAny P .any ops Q ops.size (Array.replicate ops.size false) a w.drew) : (Code.region id ops true).wpIn (Fence.wide.inRound l) n P Q a w :=
  wpIn_region_any hm (any_round hd hQ _ _ _ _ h)
def noDefer (l : List Oper) : Bool := l.all fun o => match o.op with | .defer _ => false | _ => true
theorem noDefer_of {l : List Oper} (h : noDefer l = true) : ∀ (i : Nat) (o : Oper) c, l.toArray[i]? = some o → o.op ≠ .defer c := by
  intro i o c ho e
  rw [List.getElem?_toArray] at ho
  have := List.all_eq_true.1 h o (List.mem_of_getElem? ho)
  rw [e] at this
  cases this
theorem list_round {l n : Nat} {P : Program} {ops : Array Oper} {Q : Exit → Act → World → Prop} (hQ : ¬ LetsOut Q) :
    ∀ (L : List Oper) (a : Act) (w : World), noDefer L = true → wpList P ops Q L a w → wpListIn (Fence.wide.inRound l) n P ops Q L a w
  | [], _, _, _, h => h
  | o :: rest, a, w, hd, h => by
    unfold noDefer at hd
    rw [List.all_cons, Bool.and_eq_true] at hd
    have ho : ∀ c, o.op ≠ .defer c := fun c e => by have := hd.1; rw [e] at this; cases this
    unfold wpList at h
    unfold wpListIn
    by_cases hw : Region.wanted o (yielded ops a.tmps) = true
    · rw [if_pos hw] at h ⊢
      rcases h with h | ⟨_, h⟩
      · exact Oper.wpIn_mono (fun a w h => list_round hQ rest _ _ hd.2 h) (oper_round ho h)
      · exact absurd h hQ
    · rw [if_neg hw] at h ⊢
      exact ⟨fun _ _ => trivial, list_round hQ rest _ _ hd.2 h⟩
/-- A region without a draw, within a round: walked as anywhere. -/
theorem region_lit_round {k n : Nat} {P : Program} {id : Nat} {Q : Exit → Act → World → Prop} {a : Act} {w : World} {l : List Oper} (hd : noDefer l = true) (hQ : ¬ LetsOut Q) (h : wpList P l.toArray Q l a w) : (Code.region id l.toArray false).wpIn (Fence.wide.inRound k) n P Q a w :=
  wpIn_region_lit (list_round hQ _ _ _ hd h)
theorem region_mix_round {k n : Nat} {P : Program} {id : Nat} {Q : Exit → Act → World → Prop} {a : Act} {w : World} {l : List Oper} (plan : List (Bool × Nat)) (C : World → Prop) (hm : P.follows .mixedOrders = true) (hB : mixB .any l.toArray plan = true)
    (hd : noDefer l = true) (hQ : ¬ LetsOut Q) (hC : C w.drew) (h : wpMix P l.toArray (NoPanic Q) (fun a' w' => wpList P l.toArray (NoPanic Q) (l.drop plan.length) a' w') (planOps l plan) C a w.drew) : (Code.region id l.toArray true).wpIn (Fence.wide.inRound k) n P Q a w := by
  refine wpIn_mono (Q := NoPanic Q) ?_ (fun e a w h => by cases e <;> first | exact h | exact h.elim)
  simp only [mixB, Bool.and_eq_true, decide_eq_true_eq] at hB
  obtain ⟨⟨⟨⟨hsel, hn⟩, hs⟩, hc⟩, hlex⟩ := hB
  have hn' : plan.length < l.length := by simpa using hn
  have hdl : (l.drop plan.length).length = l.toArray.size - plan.length := by simp
  have inv0 : HeadInv .any l.toArray plan.length (Array.replicate l.toArray.size false) :=
    ⟨by simp, fun j oj _ hl => (by rw [getD_replicate_false] at hl; cases hl), fun t _ ht => getD_in (by simpa using ht) (getD_replicate_false _ _)⟩
  have H := wpAnyM_plan (md := .any) (P := P) (Q := NoPanic Q) hsel hs hc hn (fun _ _ _ _ _ h => h) plan C _ a w.drew inv0 hlex hC h
  refine region_round hm (noDefer_of hd) (fun ⟨a, w, h⟩ => hQ ⟨a, w, h⟩) ?_
  have := wpAny_of_M (Q := NoPanic Q) (g := l.toArray.size - plan.length) (fun listed a' w' hL => by
    have := wpAny_of_seq (md := .any) (Q' := NoPanic Q) (l.drop plan.length) plan.length listed a' w' (fun j => by simp [List.getElem?_drop]) (by rw [hdl]; exact hL.1) hL.2
    rwa [hdl] at this) _ _ _ _ _ H
  rw [show plan.length + (l.toArray.size - plan.length) = l.toArray.size by omega] at this
  exact this
end Go.Proofs.YtplkhgmjcljjhaaDoor
namespace Go.Proofs.YtplkhgmjcljjhaaDoor
open Go.RowKit Go.Shelf Sets Nf
attribute [local go_sem] Oper.semAt_some
namespace Nf
theorem sub_one (r : Nat) (h0 : r ≠ 0) (h : r < 18446744073709551616) : IntKind.u64.wrap ((r : Int) - 1) = ((r - 1 : Nat) : Int) := by
  rw [IntKind.wrap_u64]; omega
theorem tz_num (i r : Nat) (hi : i < 4) (h0 : r ≠ 0) (h : r < 18446744073709551616) : wrap64 ((i : Int) * 64) = ((i * 64 : Nat) : Int) ∧ wrap64 (((i * 64 : Nat) : Int) + (Lib.ctz 64 r : Nat)) = ((64 * i + Lib.ctz 64 r : Nat) : Int) := by
  obtain ⟨-, -, h3⟩ := ctz_bit r h0 h
  unfold wrap64
  constructor <;> omega
/-- a spot of S -/
abbrev In (S : Nat) := { k : Nat // S.testBit k = true ∧ k < 256 }
theorem keeps_but {B S : Nat} {w w' : World} (h : But B w w') (hs : SetB w B S) : KeepsOthers w w' :=
  ⟨h.size, fun k o hk ho => by
    by_cases e : k = B
    · subst e; rw [hs.row] at hk; cases hk; cases ho
    · exact (h.block k (Array.getElem?_eq_some_iff.1 hk).1 e).trans hk⟩
theorem keeps_below {w w' : World} (h : Below w.heap.size w w') : KeepsOthers w w' := ⟨h.size, fun k _ hk _ => (h.block k (Array.getElem?_eq_some_iff.1 hk).1).trans hk⟩
theorem SetB.grown {w w' : World} {row : Option Nat} {B S : Nat} (h : SetB w B S) (hg : w.grownBy w' row) (hne : some B ≠ row) : SetB w' B S := h.of (hg.block B h.lt hne)
theorem cell_grown {w w' : World} {row : Option Nat} {B i : Nat} {v : Value} (h : w.cell? ⟨B, i, none⟩ = some v) (hg : w.grownBy w' row) (hne : some B ≠ row) : w'.cell? ⟨B, i, none⟩ = some v :=
  (World.cell?_of_block (w := w) (hg.block B (World.block_lt_of_cell? _ _ h) hne)).trans h
end Nf
end Go.Proofs.YtplkhgmjcljjhaaDoor
