/- Several texts in one. -/
import Derived.Test.YtmjjkamndlefmaaDoorPq19
import Derived.Test.YtmjjkamndlefmaaDoorPq21
namespace Go.Proofs.YtmjjkamndlefmaaDoor
open Go.RowKit Sets Cls
theorem words_eq {S T : Nat} (hS : S < 2 ^ 256) (hT : T < 2 ^ 256) : (((wd S 0 : Nat) : Int) == ((wd T 0 : Nat) : Int) && ((wd S 1 : Nat) : Int) == ((wd T 1 : Nat) : Int) && ((wd S 2 : Nat) : Int) == ((wd T 2 : Nat) : Int) && ((wd S 3 : Nat) : Int) == ((wd T 3 : Nat) : Int)) = decide (S = T) := by
  rw [Bool.eq_iff_iff]
  simp only [Bool.and_eq_true, beq_iff_eq, decide_eq_true_iff]
  constructor
  · rintro ⟨⟨⟨h0, h1⟩, h2⟩, h3⟩
    refine ext_words hS hT (fun i hi => ?_)
    have : i = 0 ∨ i = 1 ∨ i = 2 ∨ i = 3 := by omega
    rcases this with rfl | rfl | rfl | rfl <;> omega
  · rintro rfl; exact ⟨⟨⟨rfl, rfl⟩, rfl⟩, rfl⟩
theorem setEq {S T : Nat} (hS : S < 2 ^ 256) (hT : T < 2 ^ 256) (w : World) :
    (Op.equalIn 10000 54 (.agg #[.int .u64 (wd S 0), .int .u64 (wd S 1), .int .u64 (wd S 2), .int .u64 (wd S 3)]) (.agg #[.int .u64 (wd T 0), .int .u64 (wd T 1), .int .u64 (wd T 2), .int .u64 (wd T 3)])).run Tryd.prog w = .ok (decide (S = T)) w := by
  rw [eqSet, words_eq hS hT]
theorem setEq0 {S : Nat} (hS : S < 2 ^ 256) (w : World) :
    (Op.equalIn 10000 54 (.agg #[.int .u64 (wd S 0), .int .u64 (wd S 1), .int .u64 (wd S 2), .int .u64 (wd S 3)]) (.agg #[.int .u64 0, .int .u64 0, .int .u64 0, .int .u64 0])).run Tryd.prog w = .ok (decide (S = 0)) w := by
  have h := setEq hS (show 0 < 2 ^ 256 from by decide) w
  simp only [wd_zero] at h
  exact h
theorem setEq_is {S T : Nat} (hS : S < 2 ^ 256) (hT : T < 2 ^ 256) (b : Bool) (h : decide (S = T) = b) (w : World) :
    (Op.equalIn 10000 54 (.agg #[.int .u64 (wd S 0), .int .u64 (wd S 1), .int .u64 (wd S 2), .int .u64 (wd S 3)]) (.agg #[.int .u64 (wd T 0), .int .u64 (wd T 1), .int .u64 (wd T 2), .int .u64 (wd T 3)])).run Tryd.prog w = .ok b w := by
  rw [setEq hS hT, h]
theorem setEq0_is {S : Nat} (hS : S < 2 ^ 256) (b : Bool) (h : decide (S = 0) = b) (w : World) :
    (Op.equalIn 10000 54 (.agg #[.int .u64 (wd S 0), .int .u64 (wd S 1), .int .u64 (wd S 2), .int .u64 (wd S 3)]) (.agg #[.int .u64 0, .int .u64 0, .int .u64 0, .int .u64 0])).run Tryd.prog w = .ok b w := by
  rw [setEq0 hS, h]
theorem and_lt {S T : Nat} (hS : S < 2 ^ 256) : S &&& T < 2 ^ 256 := Nat.lt_of_le_of_lt Nat.and_le_left hS
theorem new_set {w w5 : World} (T : Nat) (t : TypeId) (hb : Below (w.alloc (.cells #[.int .u64 (wd T 0), .int .u64 (wd T 1), .int .u64 (wd T 2), .int .u64 (wd T 3)] t)).heap.size (w.alloc (.cells #[.int .u64 (wd T 0), .int .u64 (wd T 1), .int .u64 (wd T 2), .int .u64 (wd T 3)] t)) w5) :
    (w5.cell? ⟨w.heap.size, 0, none⟩ = some (.int .u64 (wd T 0)) ∧ w5.cell? ⟨w.heap.size, 1, none⟩ = some (.int .u64 (wd T 1)) ∧ w5.cell? ⟨w.heap.size, 2, none⟩ = some (.int .u64 (wd T 2)) ∧ w5.cell? ⟨w.heap.size, 3, none⟩ = some (.int .u64 (wd T 3))) ∧ w.heap.size < w5.heap.size ∧ Below w.heap.size w w5 := by
  have hs := hb.size
  refine ⟨⟨(hb.cell (by simp)).trans (by simp), (hb.cell (by simp)).trans (by simp), (hb.cell (by simp)).trans (by simp), (hb.cell (by simp)).trans (by simp)⟩, by simp at hs; omega, ((Below.refl _ _).alloc (Nat.le_refl _) _).trans (hb.mono (by simp))⟩
/-- Class j has bytes that are in S, and bytes that are not. -/
def splitB (of : Nat → Nat) (S j : Nat) : Bool := !decide (clsSet of 256 j &&& S = 0) && !decide (clsSet of 256 j &&& S = clsSet of 256 j)
def splitsB (of : Nat → Nat) (n S : Nat) : Bool := (List.range n).any (splitB of S)
set_option maxHeartbeats 3200000 in
set_option maxRecDepth 100000 in
theorem splits_any (of : Nat → Nat) (n S : Nat) (w : World) (hn : n ≤ 256) (hof : ∀ c, c < 256 → of c < n) (hr : prightB of n = true) :
    Calls Tryd.prog 62 #[.agg (partC of n), .agg #[.int .u64 (wd S 0), .int .u64 (wd S 1), .int .u64 (wd S 2), .int .u64 (wd S 3)]] w fun e w' =>
      e = .returned (.bool (splitsB of n S)) ∧ Below w.heap.size w w' := by
  have hP : PartAt ((w.alloc (.cells (partC of n) 24)).alloc (.cells #[.int .u64 (wd S 0), .int .u64 (wd S 1), .int .u64 (wd S 2), .int .u64 (wd S 3)] 54)) w.heap.size of n := (PartAt.new w of n).alloc _
  go_enter Tryd.func62, Tryd.ntmps62
  go_wp2_with (refine wpList_load_row rfl 24 (.tmp 2) rfl w.heap.size rfl 24 (partC of n) (0, 0) _ hP Tryd.underlying24 rfl (sizeP of n) ?_)
  have hB0 : Below w.heap.size w ((w.alloc (.cells (partC of n) 24)).alloc (.cells #[.int .u64 (wd S 0), .int .u64 (wd S 1), .int .u64 (wd S 2), .int .u64 (wd S 3)] 54)) := ((Below.refl _ _).alloc (Nat.le_refl _) _).alloc (by simp) _
  have hs0 : ∀ q, q < 4 → ((w.alloc (.cells (partC of n) 24)).alloc (.cells #[.int .u64 (wd S 0), .int .u64 (wd S 1), .int .u64 (wd S 2), .int .u64 (wd S 3)] 54)).cell? ⟨w.heap.size + 1, q, none⟩ = some (.int .u64 (wd S q)) := by
    intro q hq
    have : q = 0 ∨ q = 1 ∨ q = 2 ∨ q = 3 := by omega
    rcases this with rfl | rfl | rfl | rfl <;> simp
  generalize (w.alloc (.cells (partC of n) 24)).alloc (.cells #[.int .u64 (wd S 0), .int .u64 (wd S 1), .int .u64 (wd S 2), .int .u64 (wd S 3)] 54) = W0 at *
  refine (sets_any of n _ hn hof hr).mono ?_
  rintro e w1 ⟨g, rfl, hgw, hS, hb⟩
  have hsl : w.heap.size + 1 < W0.heap.size := World.block_lt_of_cell? _ _ (hs0 0 (by decide))
  have hs1 : ∀ q, q < 4 → w1.cell? ⟨w.heap.size + 1, q, none⟩ = some (.int .u64 (wd S q)) := fun q hq => (hb.cell hsl).trans (hs0 q hq)
  have hB1 : Below w.heap.size w w1 := hB0.trans (hb.mono hB0.size)
  have hgl := hS.lt
  have hgs : w.heap.size + 1 < g := by omega
  clear hP hr hb hB0 hs0 hof
  go_wp2
  go_loopw [11] (fun i wr => ∃ j : Nat, i = .int .i64 j ∧ j ≤ n ∧ Hid (∀ i, i < j → splitB of S i = false) ∧ SetsRow wr g (clsSets of n 256) ∧ (∀ q, q < 4 → wr.cell? ⟨w.heap.size + 1, q, none⟩ = some (.int .u64 (wd S q))) ∧ Below w.heap.size w wr) (fun i _ => (n - intOf i).toNat)
  case atStart => exact ⟨0, rfl, by omega, Lib.hid (fun i hi => by omega), hS, hs1, hB1⟩
  case round =>
    obtain ⟨j, rfl, hj, HJ, hS, hs, hB⟩ := hrel
    have hgl2 := hS.lt
    by_cases hlt : j < n
    · have hcl := clsSets_length of n 256
      have hc0 := hS.cell j 0 (by omega) (by omega)
      have hc1 := hS.cell j 1 (by omega) (by omega)
      have hc2 := hS.cell j 2 (by omega) (by omega)
      have hc3 := hS.cell j 3 (by omega) (by omega)
      rw [clsSets_get of n 256 _ hlt] at hc0 hc1 hc2 hc3
      rw [Nat.add_zero] at hc0
      have s0 := hs 0 (by decide)
      have s1 := hs 1 (by decide)
      have s2 := hs 2 (by decide)
      have s3 := hs 3 (by decide)
      have hls : w.heap.size + 1 < wr.heap.size := World.block_lt_of_cell? _ _ s0
      have hls2 : ¬ w.heap.size + 1 = wr.heap.size := by omega
      have Hs := Lib.hid hs
      clear hcl hs
      have hT := clsSet_lt of j
      have HSP : Hid (splitB of S j = (!decide (clsSet of 256 j &&& S = 0) && !decide (clsSet of 256 j &&& S = clsSet of 256 j))) := Lib.hid rfl
      have HTS := Lib.hid (clsSets_get of n 256 j hlt)
      generalize clsSet of 256 j = T at *
      have hTS : T &&& S < 2 ^ 256 := and_lt hT
      have hfin : ∀ w5, Below wr.heap.size wr w5 → SetsRow w5 g (clsSets of n 256) ∧ (∀ q, q < 4 → w5.cell? ⟨w.heap.size + 1, q, none⟩ = some (.int .u64 (wd S q))) ∧ Below w.heap.size w w5 :=
        fun w5 hb => ⟨hS.kept hb hgl2, fun q hq => (hb.cell (p := ⟨w.heap.size + 1, q, none⟩) (by simp; omega)).trans (Hs.out q hq), hB.trans (hb.mono hB.size)⟩
      have HF := Lib.hid hfin
      clear hfin
      by_cases h1 : T &&& S = 0
      · have e1 := setEq0_is hTS true (decide_eq_true h1)
        have HN : Hid (splitB of S j = false) := Lib.hid (by rw [HSP.out, decide_eq_true h1]; rfl)
        clear h1
        go_wp2_with (go_at_call 52; refine (and_any _ _ _).mono ?_; rintro e w5 ⟨rfl, hb5⟩; obtain ⟨⟨t0, t1, t2, t3⟩, ht5, hb6⟩ := new_set _ _ hb5; clear hb5)
        obtain ⟨r1, r2, r3⟩ := HF.out _ (hb6.alloc (by omega) _)
        exact ⟨⟨j + 1, by go_num, by omega, Lib.hid (fun i hi => (Nat.lt_succ_iff_lt_or_eq.1 hi).elim (HJ.out i) (fun e => e ▸ HN.out)), r1, r2, r3⟩, by simp [intOf]; omega⟩
      · have e1 := setEq0_is hTS false (decide_eq_false h1)
        by_cases h2 : T &&& S = T
        · have e2 := setEq_is hTS hT true (decide_eq_true h2)
          have HN : Hid (splitB of S j = false) := Lib.hid (by rw [HSP.out, decide_eq_true h2]; simp)
          clear h1 h2
          go_wp2_with (go_at_call 52; refine (and_any _ _ _).mono ?_; rintro e w5 ⟨rfl, hb5⟩; obtain ⟨⟨t0, t1, t2, t3⟩, ht5, hb6⟩ := new_set _ _ hb5; clear hb5)
          obtain ⟨r1, r2, r3⟩ := HF.out _ (hb6.alloc (by omega) _)
          exact ⟨⟨j + 1, by go_num, by omega, Lib.hid (fun i hi => (Nat.lt_succ_iff_lt_or_eq.1 hi).elim (HJ.out i) (fun e => e ▸ HN.out)), r1, r2, r3⟩, by simp [intOf]; omega⟩
        · have e2 := setEq_is hTS hT false (decide_eq_false h2)
          have HN : Hid (splitB of S j = true) := Lib.hid (by rw [HSP.out, decide_eq_false h2, decide_eq_false h1]; rfl)
          clear h1 h2
          go_wp2_with (go_at_call 52; refine (and_any _ _ _).mono ?_; rintro e w5 ⟨rfl, hb5⟩; obtain ⟨⟨t0, t1, t2, t3⟩, ht5, hb6⟩ := new_set _ _ hb5; clear hb5)
          go_ret
          exact ⟨ret_bool (by unfold splitsB; rw [Eq.comm, List.any_eq_true]; exact ⟨j, by simpa using hlt, HN.out⟩), (HF.out _ (hb6.alloc (by omega) _)).2.2⟩
    · have : j = n := by omega
      subst this
      go_wp2
      go_ret
      exact ⟨ret_bool (by unfold splitsB; rw [Eq.comm, List.any_eq_false]; intro i hi; rw [HJ.out i (by simpa using hi)]; exact Bool.false_ne_true), hB⟩
end Go.Proofs.YtmjjkamndlefmaaDoor
namespace Go.Proofs.YtmjjkamndlefmaaDoor
open Go.RowKit Sets Nf
namespace Df
def SetsAt (w : World) (a : Option Addr) (L : List Nat) : Prop := ∀ i, i < L.length → ∃ b o, a = some ⟨b, o, none⟩ ∧ w.rangeAt b (o + i * 4) (setC (L.getD i 0)).toList
theorem SetsAt.kept {w w' : World} {a : Option Addr} {L : List Nat} (h : SetsAt w a L) (hb : Below w.heap.size w w') : SetsAt w' a L := fun i hi => by
  obtain ⟨b, o, e, hc⟩ := h i hi
  exact ⟨b, o, e, range_below hc hb⟩
/-- A reader as a value. -/
structure Rd where
  fi : Nat
  G : List Nat
  H : List Nat
  la : Nat
  em : Bool
structure Rx where
  a : Option Addr
  gc : Nat
  b : Option Addr
  hc : Nat
def rdC (x : Rx) (r : Rd) : Array Value := #[.int .u64 (wd r.fi 0), .int .u64 (wd r.fi 1), .int .u64 (wd r.fi 2), .int .u64 (wd r.fi 3), .slice x.a r.G.length x.gc, .slice x.b r.H.length x.hc, .int .u64 (wd r.la 0), .int .u64 (wd r.la 1), .int .u64 (wd r.la 2), .int .u64 (wd r.la 3), .bool r.em]
structure RAt (w : World) (x : Rx) (r : Rd) : Prop where
  g : SetsAt w x.a r.G
  h : SetsAt w x.b r.H
theorem RAt.kept {w w' : World} {x : Rx} {r : Rd} (h : RAt w x r) (hb : Below w.heap.size w w') : RAt w' x r := ⟨h.g.kept hb, h.h.kept hb⟩
/-- A reader lies in block B. -/
structure BoxR (w : World) (B : Nat) (x : Rx) (r : Rd) : Prop where
  row : w.heap[B]? = some (.cells (rdC x r) 82 (0, 0))
theorem BoxR.new (w : World) (x : Rx) (r : Rd) : BoxR (w.alloc (.cells (rdC x r) 82)) w.heap.size x r := ⟨heap_alloc_new w _⟩
theorem BoxR.lt {w : World} {B : Nat} {x : Rx} {r : Rd} (h : BoxR w B x r) : B < w.heap.size := (Array.getElem?_eq_some_iff.1 h.row).1
theorem BoxR.kept {w w' : World} {A B : Nat} {x : Rx} {r : Rd} (h : BoxR w B x r) (hb : Below A w w') (hA : B < A) : BoxR w' B x r := ⟨by rw [hb.block _ hA]; exact h.row⟩
theorem BoxR.stay {w w' : World} {B : Nat} {x : Rx} {r : Rd} (h : BoxR w B x r) (hb : Below w.heap.size w w') : BoxR w' B x r := h.kept hb h.lt
theorem BoxR.cell {w : World} {B : Nat} {x : Rx} {r : Rd} (h : BoxR w B x r) (q : Nat) (v : Value) (hv : (rdC x r)[q]? = some v) : w.cell? ⟨B, q, none⟩ = some v := by
  rw [cell_of_row w B q _ _ _ h.row]; exact hv
theorem BoxR.rfi {w : World} {B : Nat} {x : Rx} {r : Rd} (h : BoxR w B x r) : w.rangeAt B 0 (setC r.fi).toList := by
  intro j v hv
  have hj : j < 4 := by have := (List.getElem?_eq_some_iff.1 hv).1; simpa [setC] using this
  rw [Nat.zero_add]
  refine h.cell j v ?_
  rw [← hv]
  have : j = 0 ∨ j = 1 ∨ j = 2 ∨ j = 3 := by omega
  rcases this with rfl | rfl | rfl | rfl <;> rfl
theorem BoxR.rla {w : World} {B : Nat} {x : Rx} {r : Rd} (h : BoxR w B x r) : w.rangeAt B 6 (setC r.la).toList := by
  intro j v hv
  have hj : j < 4 := by have := (List.getElem?_eq_some_iff.1 hv).1; simpa [setC] using this
  refine h.cell (6 + j) v ?_
  rw [← hv]
  have : j = 0 ∨ j = 1 ∨ j = 2 ∨ j = 3 := by omega
  rcases this with rfl | rfl | rfl | rfl <;> rfl
theorem sizeRd (x : Rx) (r : Rd) : (Tryd.prog.info? 82).map (·.size) = some (rdC x r).size := by
  show _ = some 11
  kernel_rfl
theorem oneRd (x : Rx) (r : Rd) : (rdC x r).all (·.oneCell') = true := by simp [rdC, Value.oneCell']
theorem wpList_load_rd {ops : Array Oper} {rest : List Oper} {o : Oper} {a : Act} {w : World} {Q : Exit → Act → World → Prop} (hgd : o.guard = none) (X : Operand) (ho : o.op = .load 82 X)
    (B : Nat) (x : Rx) (r : Rd) (hx : a.eval X = .pointer (some ⟨B, 0, none⟩)) (hc : BoxR w B x r) (h : wpList Tryd.prog ops Q rest (a.put o.dst (.agg (rdC x r))) w) : wpList Tryd.prog ops Q (o :: rest) a w :=
  wpList_load_row hgd 82 X ho B hx 82 (rdC x r) (0, 0) _ hc.row Tryd.underlying82 rfl (sizeRd x r) h
/-- A state of a machine: its spots, and whether anything was read. -/
def rC (s : Nat × Bool) : Array Value := #[.int .u64 (wd s.1 0), .int .u64 (wd s.1 1), .int .u64 (wd s.1 2), .int .u64 (wd s.1 3), .bool s.2]
structure BoxS (w : World) (B : Nat) (s : Nat × Bool) : Prop where
  row : w.heap[B]? = some (.cells (rC s) 86 (0, 0))
theorem BoxS.new (w : World) (s : Nat × Bool) : BoxS (w.alloc (.cells (rC s) 86)) w.heap.size s := ⟨heap_alloc_new w _⟩
theorem BoxS.lt {w : World} {B : Nat} {s : Nat × Bool} (h : BoxS w B s) : B < w.heap.size := (Array.getElem?_eq_some_iff.1 h.row).1
theorem BoxS.of {w w' : World} {B : Nat} {s : Nat × Bool} (h : BoxS w B s) (e : w'.heap[B]? = w.heap[B]?) : BoxS w' B s := ⟨e.trans h.row⟩
theorem BoxS.kept {w w' : World} {A B : Nat} {s : Nat × Bool} (h : BoxS w B s) (hb : Below A w w') (hA : B < A) : BoxS w' B s := ⟨by rw [hb.block _ hA]; exact h.row⟩
theorem BoxS.stay {w w' : World} {B : Nat} {s : Nat × Bool} (h : BoxS w B s) (hb : Below w.heap.size w w') : BoxS w' B s := h.kept hb h.lt
theorem BoxS.set {w : World} {B : Nat} {s : Nat × Bool} (h : BoxS w B s) : w.rangeAt B 0 (setC s.1).toList := by
  intro j v hv
  have hj : j < 4 := by have := (List.getElem?_eq_some_iff.1 hv).1; simpa [setC] using this
  rw [Nat.zero_add, cell_of_row w B j _ _ _ h.row, ← hv]
  have : j = 0 ∨ j = 1 ∨ j = 2 ∨ j = 3 := by omega
  rcases this with rfl | rfl | rfl | rfl <;> rfl
theorem BoxS.c4 {w : World} {B : Nat} {s : Nat × Bool} (h : BoxS w B s) : w.cell? ⟨B, 4, none⟩ = some (.bool s.2) := by
  rw [cell_of_row w B 4 _ _ _ h.row]; rfl
theorem sizeRuns (s : Nat × Bool) : (Tryd.prog.info? 86).map (·.size) = some (rC s).size := by
  show _ = some 5
  kernel_rfl
theorem oneRuns (s : Nat × Bool) : (rC s).all (·.oneCell') = true := by simp [rC, Value.oneCell']
theorem wpList_load_runs {ops : Array Oper} {rest : List Oper} {o : Oper} {a : Act} {w : World} {Q : Exit → Act → World → Prop} (hgd : o.guard = none) (X : Operand) (ho : o.op = .load 86 X)
    (B : Nat) (s : Nat × Bool) (hx : a.eval X = .pointer (some ⟨B, 0, none⟩)) (hc : BoxS w B s) (h : wpList Tryd.prog ops Q rest (a.put o.dst (.agg (rC s))) w) : wpList Tryd.prog ops Q (o :: rest) a w :=
  wpList_load_row hgd 86 X ho B hx 86 (rC s) (0, 0) _ hc.row Tryd.underlying86 rfl (sizeRuns s) h
theorem wpList_store_runs {ops : Array Oper} {rest : List Oper} {o : Oper} {a : Act} {w : World} {Q : Exit → Act → World → Prop} (hgd : o.guard = none) (X Y : Operand) (ho : o.op = .store 86 X Y)
    (B : Nat) (s t : Nat × Bool) (hx : a.eval X = .pointer (some ⟨B, 0, none⟩)) (hy : a.eval Y = .agg (rC t)) (hc : BoxS w B s) (h : wpList Tryd.prog ops Q rest (a.put o.dst undef) (w.setRow B (rC t))) : wpList Tryd.prog ops Q (o :: rest) a w :=
  wpList_store_row hgd 86 X Y ho B (rC t) hx hy 86 (rC s) hc.row (sizeRuns t) rfl (oneRuns t) h
theorem BoxS.put {w : World} {B : Nat} {s : Nat × Bool} (h : BoxS w B s) (t : Nat × Bool) : BoxS (w.setRow B (rC t)) B t := ⟨setRow_heap w _ _ _ _ _ h.row⟩
theorem zeroR : #[Value.int .u64 0, .int .u64 0, .int .u64 0, .int .u64 0, .bool false] = rC (0, false) := by unfold rC; simp only [wd_zero]; rfl
/-- What comes behind a byte of class c, and what is final. -/
def nextS (r : Rd) (s : Nat × Bool) : Nat := if s.2 then bh r.G s.1 else r.fi
def intoS (r : Rd) (s : Nat × Bool) (c : Nat) : Nat × Bool := (nextS r s &&& r.H.getD c 0, true)
def finS (r : Rd) (s : Nat × Bool) : Bool := if s.2 then decide (s.1 &&& r.la ≠ 0) else r.em
theorem wpList_load_setm {ops : Array Oper} {rest : List Oper} {o : Oper} {a : Act} {w : World} {Q : Exit → Act → World → Prop} (hgd : o.guard = none) (x : Operand) (ho : o.op = .load 54 x)
    (b q S : Nat) (hx : a.eval x = .pointer (some ⟨b, q, none⟩)) (hc : w.rangeAt b q (setC S).toList) (h : wpList Tryd.prog ops Q rest (a.put o.dst (.agg (setC S))) w) : wpList Tryd.prog ops Q (o :: rest) a w :=
  wpList_load_mid hgd 54 x ho b q hx (setC S).toList _ hc Tryd.underlying54 rfl (sizeSetL S) h
theorem wpList_lay_set2 {ops : Array Oper} {rest : List Oper} {o : Oper} {a : Act} {w : World} {Q : Exit → Act → World → Prop} (hgd : o.guard = none) (x y : Operand)
    (ho : o.op = .store 54 x y) (S T : Nat) (hx : a.eval x = .pointer (some ⟨w.heap.size, 0, none⟩)) (hy : a.eval y = .agg (setC T))
    (h : wpList Tryd.prog ops Q rest (a.put o.dst undef) (w.alloc (.cells (setC T) 54))) : wpList Tryd.prog ops Q (o :: rest) a (w.alloc (.cells (setC S) 54)) := by
  refine wpList_store_row hgd 54 x y ho w.heap.size (setC T) hx hy 54 (setC S) (heap_alloc_new w _) (sizeSet T) rfl (oneSet T) ?_
  rw [World.setRow_alloc_new]
  exact h
set_option maxHeartbeats 3200000 in
set_option maxRecDepth 100000 in
theorem final_any (x : Rx) (r : Rd) (s : Nat × Bool) (w : World) (hs : s.1 < 2 ^ 256) :
    Calls Tryd.prog 42 #[.agg (rdC x r), .agg (rC s)] w fun e w' => e = .returned (.bool (finS r s)) ∧ Below w.heap.size w w' := by
  have HSB := Lib.hid hs
  clear hs
  go_enter Tryd.func42, Tryd.ntmps42
  go_upto_region 1 with fail
  have HR1 := Lib.hid ((BoxR.new w x r).stay ((Below.refl _ _).alloc (Nat.le_refl _) (.cells (rC s) 86)))
  have HS1 : Hid (BoxS ((w.alloc (.cells (rdC x r) 82)).alloc (.cells (rC s) 86)) (w.heap.size + 1) s) := Lib.hid (by have := BoxS.new (w.alloc (.cells (rdC x r) 82)) s; simpa using this)
  have HB1 : Hid (Below w.heap.size w ((w.alloc (.cells (rdC x r) 82)).alloc (.cells (rC s) 86))) := Lib.hid (((Below.refl _ _).alloc (Nat.le_refl _) _).alloc (by simp) _)
  generalize (w.alloc (.cells (rdC x r) 82)).alloc (.cells (rC s) 86) = w1 at *
  obtain ⟨b, hb⟩ : ∃ b, Hid (w.heap.size = b) := ⟨_, Lib.hid rfl⟩
  have HSZ : Hid (b ≤ w1.heap.size) := Lib.hid (by have := HB1.out.size; rw [hb.out] at this; exact this)
  rw [hb.out] at HR1 HS1 HB1 ⊢
  have c4 := HS1.out.c4
  have c10 := HR1.out.cell 10 (.bool r.em) rfl
  cases hr : s.2
  · rw [hr] at c4
    have HF : Hid (finS r s = r.em) := Lib.hid (by unfold finS; rw [hr]; rfl)
    clear hr
    go_wp2_with fail
    go_ret
    exact ⟨by rw [HF.out]; rfl, by rw [hb.out]; exact HB1.out⟩
  · rw [hr] at c4
    have HF : Hid (finS r s = decide (s.1 &&& r.la ≠ 0)) := Lib.hid (by unfold finS; rw [hr]; rfl)
    have HA := Lib.hid (and_any s.1 r.la w1)
    have HEQ := fun w => setEq0 (S := s.1 &&& r.la) (and_lt HSB.out) w
    clear hr
    go_wp2_with (first
      | (refine wpList_load_setm rfl _ rfl (b + 1) 0 s.1 rfl HS1.out.set ?_)
      | (refine wpList_load_setm rfl _ rfl b 6 r.la rfl HR1.out.rla ?_)
      | (go_at_call 52; refine HA.out.mono ?_; rintro e w2 ⟨rfl, hb2⟩; have HB2 := Lib.hid (HB1.out.trans (hb2.mono HSZ.out)); clear hb2))
    go_ret
    refine ⟨?_, by rw [hb.out]; exact HB2.out⟩
    rw [HF.out]
    first | rfl | simp
end Df
end Go.Proofs.YtmjjkamndlefmaaDoor
