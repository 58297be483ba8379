/- Several texts in one. -/
import Derived.Test.YtcgllipcnmlkbaaDoorPkE
import Derived.Test.YtcgllipcnmlkbaaDoorPkG
import Derived.Test.YtcgllipcnmlkbaaDoorPkD
import Derived.Test.YtcgllipcnmlkbaaDoorPkB
namespace Go.Proofs.YtcgllipcnmlkbaaDoor
open Go.RowKit Sets Tr
theorem flat_get {α : Type} (f : α → List Value) (k : Nat) (hf : ∀ x, (f x).length = k) (d : α) (N : List α) : ∀ (i j : Nat), i < N.length → j < k → (N.flatMap f)[i * k + j]? = (f (N.getD i d))[j]? := by
  induction N with
  | nil => intro i j hi; simp at hi
  | cons x N ih =>
    intro i j hi hj
    rw [List.flatMap_cons]
    cases i with
    | zero => rw [Nat.zero_mul, Nat.zero_add, List.getElem?_append_left (by rw [hf]; exact hj)]; rfl
    | succ i =>
      rw [List.getElem?_append_right (by rw [hf, Nat.succ_mul]; omega)]
      have e : (i + 1) * k + j - (f x).length = i * k + j := by rw [hf, Nat.succ_mul]; omega
      rw [e, ih i j (by simpa using hi) hj]
      simp
theorem nd9_len (x : Nd) : (nd9 x).length = 9 := rfl
theorem pt2_len (x : Int × Bool) : (pt2 x).length = 2 := rfl
theorem nodes_lit (w : World) (N : List Nd) (hN : ∀ x ∈ N, NdOk x) (hl : N.length ≤ 700) (cs : Array Value) (hcs : cs = (N.flatMap nd9).toArray) : NodesAt (w.alloc (.cells cs 96)) (.slice (some ⟨w.heap.size, 0, none⟩) N.length N.length) N := by
  subst hcs
  refine ⟨hN, hl, _, _, rfl, fun i hi => ⟨w.heap.size, 0, rfl, fun j v hv => ?_⟩⟩
  have hj : j < 9 := by have := (List.getElem?_eq_some_iff.1 hv).1; rwa [nd9_len] at this
  rw [World.cell?_alloc_new, List.getElem?_toArray, Nat.zero_add, flat_get nd9 9 nd9_len default N i j hi hj]
  exact hv
theorem parts_lit (w : World) (R : List (Int × Bool)) (hR : ∀ x ∈ R, I64 x.1) (hl : R.length ≤ 30) (cs : Array Value) (hcs : cs = (R.flatMap pt2).toArray) : PartsAt (w.alloc (.cells cs 78)) (.slice (some ⟨w.heap.size, 0, none⟩) R.length R.length) R := by
  subst hcs
  refine ⟨hR, hl, _, _, rfl, fun i hi => ⟨w.heap.size, 0, rfl, fun j v hv => ?_⟩⟩
  have hj : j < 2 := by have := (List.getElem?_eq_some_iff.1 hv).1; rwa [pt2_len] at this
  rw [World.cell?_alloc_new, List.getElem?_toArray, Nat.zero_add, flat_get pt2 2 pt2_len default R i j hi hj]
  exact hv
def someN : List Nd := [⟨2, ofN [97], 0, 0, 0, 0⟩, ⟨2, ofN [98], 0, 0, 0, 0⟩, ⟨3, 0, 0, 1, 0, 0⟩, ⟨1, 0, 0, 0, 0, 0⟩, ⟨4, 0, 2, 3, 0, 0⟩, ⟨2, full, 0, 0, 0, 0⟩, ⟨5, 0, 5, 0, 0, -1⟩]
def someR : List (Int × Bool) := [(4, false), (6, true)]
instance (x : Int) : Decidable (I64 x) := inferInstanceAs (Decidable (_ ∧ _))
def okN (x : Nd) : Bool := decide (x.k < 256) && decide (x.s < 2 ^ 256) && decide (I64 x.a) && decide (I64 x.b) && decide (I64 x.mn) && decide (I64 x.mx)
theorem okN_all {N : List Nd} (h : N.all okN = true) : ∀ x ∈ N, NdOk x := by
  intro x hx
  have := List.all_eq_true.1 h x hx
  simp only [okN, Bool.and_eq_true, decide_eq_true_eq] at this
  obtain ⟨⟨⟨⟨⟨h1, h2⟩, h3⟩, h4⟩, h5⟩, h6⟩ := this
  exact ⟨h1, h2, h3, h4, h5, h6⟩
theorem some_right : Right someN someR := by
  refine ⟨by decide, ?_, ?_, by decide, by decide +kernel, by decide +kernel⟩
  · decide +kernel
  · decide +kernel
def t4 : T := .two 4 (.two 2 (.leaf 0) (.leaf 1)) (.leaf 3)
def t6 : T := .one 6 (.leaf 5)
theorem is4 : Is someN t4 := by unfold t4; refine ⟨by decide, by decide, by decide, by decide, ⟨by decide, by decide, by decide, by decide, ⟨by decide, by decide⟩, ⟨by decide, by decide⟩⟩, ⟨by decide, by decide⟩⟩
theorem is6 : Is someN t6 := by unfold t6; refine ⟨by decide, by decide, by decide, ⟨by decide, by decide⟩⟩
theorem tr4 : tr someN 4 = t4 := tr_of is4
theorem tr6 : tr someN 6 = t6 := tr_of is6
theorem pr_some : prOf someN someR = [97, 98, 124, 40, 41, 38, 33, 46, 42] := by
  unfold prOf
  rw [rightB_true some_right, if_pos rfl]
  show prParts 0 [(abs someN (tr someN 4), false), (abs someN (tr someN 6), true)] = _
  rw [tr4, tr6]
  decide +kernel
theorem pl_some : plOf someN someR = 3 := by
  unfold plOf
  rw [rightB_true some_right, if_pos rfl]
  show min (([(pl someN (tr someN 4)), (pl someN (tr someN 6))] : List Nat).sum) cap = _
  rw [tr4, tr6]
  decide +kernel
theorem dp_some : dpOf someN someR = 3 := by
  unfold dpOf
  rw [rightB_true some_right, if_pos rfl]
  show ([((tr someN 4).dep), ((tr someN 6).dep)] : List Nat).foldl max 0 = _
  rw [tr4, tr6]
  decide +kernel
end Go.Proofs.YtcgllipcnmlkbaaDoor
namespace Go.Proofs.YtcgllipcnmlkbaaDoor
open Go.RowKit Sets Tr
def someC : Array Value := #[.int .u8 2, .int .u64 (wd (ofN [97]) 0), .int .u64 (wd (ofN [97]) 1), .int .u64 (wd (ofN [97]) 2), .int .u64 (wd (ofN [97]) 3), .int .i64 0, .int .i64 0, .int .i64 0, .int .i64 0, .int .u8 2, .int .u64 (wd (ofN [98]) 0), .int .u64 (wd (ofN [98]) 1), .int .u64 (wd (ofN [98]) 2), .int .u64 (wd (ofN [98]) 3), .int .i64 0, .int .i64 0, .int .i64 0, .int .i64 0, .int .u8 3, .int .u64 0, .int .u64 0, .int .u64 0, .int .u64 0, .int .i64 0, .int .i64 1, .int .i64 0, .int .i64 0, .int .u8 1, .int .u64 0, .int .u64 0, .int .u64 0, .int .u64 0, .int .i64 0, .int .i64 0, .int .i64 0, .int .i64 0, .int .u8 4, .int .u64 0, .int .u64 0, .int .u64 0, .int .u64 0, .int .i64 2, .int .i64 3, .int .i64 0, .int .i64 0, .int .u8 2, .int .u64 (wd (full) 0), .int .u64 (wd (full) 1), .int .u64 (wd (full) 2), .int .u64 (wd (full) 3), .int .i64 0, .int .i64 0, .int .i64 0, .int .i64 0, .int .u8 5, .int .u64 0, .int .u64 0, .int .u64 0, .int .u64 0, .int .i64 5, .int .i64 0, .int .i64 0, .int .i64 (-1)]
theorem someC_eq : someC = (someN.flatMap nd9).toArray := by
  simp [someC, someN, nd9, wd_zero]
def someD : Array Value := #[.int .i64 4, .bool false, .int .i64 6, .bool true]
theorem someD_eq : someD = (someR.flatMap pt2).toArray := rfl
def Trees (w0 : World) (N : List Nd) (R : List (Int × Bool)) (e : Ending) (w : World) : Prop := ∃ nv pv, e = .returned (.agg #[nv, pv]) ∧ NodesAt w nv N ∧ PartsAt w pv R ∧ Below w0.heap.size w0 w
theorem sizeTree : (Tryd.prog.info? 39).map (·.size) = some 2 := by kernel_rfl
theorem wpList_store_tree {ops : Array Oper} {rest : List Oper} {o : Oper} {a : Act} {w : World} {Q : Exit → Act → World → Prop} (hgd : o.guard = none) (x y : Operand)
    (ho : o.op = .store 39 x y) (g : Nat) (a1 a2 : Option Addr) (n1 c1 n2 c2 : Nat) (hx : a.eval x = .pointer (some ⟨g, 0, none⟩)) (hy : a.eval y = .agg #[.slice a1 n1 c1, .slice a2 n2 c2]) (u v : Value)
    (hg : w.heap[g]? = some (.cells #[u, v] 39 (0, 0)))
    (h : wpList Tryd.prog ops Q rest (a.put o.dst undef) (w.setRow g #[.slice a1 n1 c1, .slice a2 n2 c2])) : wpList Tryd.prog ops Q (o :: rest) a w :=
  wpList_store_row hgd 39 x y ho g #[.slice a1 n1 c1, .slice a2 n2 c2] hx hy 39 #[u, v] hg sizeTree rfl (by simp [Value.oneCell']) h
theorem nodes_keep {w w' : World} {b o n c : Nat} {N : List Nd} (h : NodesAt w (.slice (some ⟨b, o, none⟩) n c) N) (e : w'.heap[b]? = w.heap[b]?) : NodesAt w' (.slice (some ⟨b, o, none⟩) n c) N := by
  obtain ⟨h1, h2, a, cap, h3, h4⟩ := h
  refine ⟨h1, h2, a, cap, h3, fun i hi => ?_⟩
  obtain ⟨b', o', e1, hr⟩ := h4 i hi
  refine ⟨b', o', e1, fun j v hv => ?_⟩
  rw [← hr j v hv]
  cases h3
  cases e1
  exact World.cell?_of_block (w := w) e
theorem parts_keep {w w' : World} {b o n c : Nat} {N : List (Int × Bool)} (h : PartsAt w (.slice (some ⟨b, o, none⟩) n c) N) (e : w'.heap[b]? = w.heap[b]?) : PartsAt w' (.slice (some ⟨b, o, none⟩) n c) N := by
  obtain ⟨h1, h2, a, cap, h3, h4⟩ := h
  refine ⟨h1, h2, a, cap, h3, fun i hi => ?_⟩
  obtain ⟨b', o', e1, hr⟩ := h4 i hi
  refine ⟨b', o', e1, fun j v hv => ?_⟩
  rw [← hr j v hv]
  cases h3
  cases e1
  exact World.cell?_of_block (w := w) e
end Go.Proofs.YtcgllipcnmlkbaaDoor
namespace Go.Proofs.YtcgllipcnmlkbaaDoor
open Go.RowKit Sets Tr
theorem tab_lt {w : World} (h : Tab w) : 0 < w.heap.size := World.block_lt_of_cell? _ _ (h 0 (by decide))
theorem lit_some : strN (prOf someN someR) = ⟨#[97, 98, 124, 40, 41, 38, 33, 46, 42]⟩ := by rw [pr_some]; rfl
def greatB (n p : Nat) : Bool := decide (700 < n) || decide (30 < p)
set_option maxHeartbeats 1600000 in
set_option maxRecDepth 100000 in
theorem great_any (na pa : Option Addr) (n nc p pc : Nat) (w : World) : Calls Tryd.prog 20 #[.agg #[.slice na n nc, .slice pa p pc]] w fun e w' => e = .returned (.bool (greatB n p)) ∧ Below w.heap.size w w' := by
  have HB0 := Lib.hid ((Below.refl w.heap.size w).alloc (Nat.le_refl _) (.cells #[.slice na n nc, .slice pa p pc] 39))
  go_enter Tryd.func20, Tryd.ntmps20
  by_cases h1 : 700 < n
  · have d1 : decide ((700 : Int) < (n : Int)) = true := decide_eq_true (by omega)
    have e : greatB n p = true := by unfold greatB; rw [decide_eq_true h1]; rfl
    rw [e]
    clear e h1
    go_wp2_with fail
    go_ret
    exact ⟨rfl, HB0.out⟩
  · have d1 : decide ((700 : Int) < (n : Int)) = false := decide_eq_false (by omega)
    by_cases h2 : 30 < p
    · have d2 : decide ((30 : Int) < (p : Int)) = true := decide_eq_true (by omega)
      have e : greatB n p = true := by unfold greatB; rw [decide_eq_true h2, Bool.or_true]
      rw [e]
      clear e h1 h2
      go_wp2_with fail
      go_ret
      exact ⟨rfl, HB0.out⟩
    · have d2 : decide ((30 : Int) < (p : Int)) = false := decide_eq_false (by omega)
      have e : greatB n p = false := by unfold greatB; rw [decide_eq_false h1, decide_eq_false h2]; rfl
      rw [e]
      clear e h1 h2
      go_wp2_with fail
      go_ret
      exact ⟨rfl, HB0.out⟩
end Go.Proofs.YtcgllipcnmlkbaaDoor
namespace Go.Proofs.YtcgllipcnmlkbaaDoor
namespace Tr
open Sets
/-- A text that does not go on with what a piece could go on with. -/
def Stop (bad : List Nat) (r : List Nat) : Prop := ∀ c t, r = c :: t → c ∉ bad
/-- What may begin a piece is none of these. -/
def B0 : List Nat := [33, 38, 41, 42, 43, 63, 123, 124]
theorem hex_inj {a b : Nat} (ha : a < 16) (hb : b < 16) (h : hex a = hex b) : a = b := by unfold hex at h; split at h <;> split at h <;> omega
theorem mem_contains {m : List Nat} {c : Nat} : m.contains c = true ↔ c ∈ m := List.contains_iff_mem
/-- an escape read back -/
theorem esc_read {m : List Nat} (h92 : 92 ∈ m) (h120 : 120 ∉ m) {c d : Nat} (hc : c < 256) (hd : d < 256) {r s : List Nat} (h : esc m c ++ r = esc m d ++ s) : c = d ∧ r = s := by
  unfold esc at h
  by_cases h1 : m.contains c = true <;> by_cases h2 : m.contains d = true
  · rw [if_pos h1, if_pos h2] at h
    simp only [List.cons_append, List.nil_append, List.cons.injEq, true_and] at h
    exact h
  · rw [if_pos h1, if_neg h2] at h
    split at h
    · simp only [List.cons_append, List.nil_append, List.cons.injEq, true_and] at h
      exact absurd (h.1 ▸ mem_contains.1 h1) h120
    · simp only [List.cons_append, List.nil_append, List.cons.injEq] at h
      exact absurd (mem_contains.2 (h.1 ▸ h92)) h2
  · rw [if_neg h1, if_pos h2] at h
    split at h
    · simp only [List.cons_append, List.nil_append, List.cons.injEq, true_and] at h
      exact absurd (h.1 ▸ mem_contains.1 h2) h120
    · simp only [List.cons_append, List.nil_append, List.cons.injEq] at h
      exact absurd (mem_contains.2 (h.1.symm ▸ h92)) h1
  · rw [if_neg h1, if_neg h2] at h
    split at h <;> split at h <;> simp only [List.cons_append, List.nil_append, List.cons.injEq, true_and] at h
    · have e1 := hex_inj (by omega) (by omega) h.1
      have e2 := hex_inj (by omega) (by omega) h.2.1
      exact ⟨by omega, h.2.2⟩
    · exact absurd (mem_contains.2 (h.1 ▸ h92)) h2
    · exact absurd (mem_contains.2 (h.1.symm ▸ h92)) h1
    · exact h
theorem esc_head {m : List Nat} (c : Nat) : ∃ t a, esc m c = a :: t ∧ (a = 92 ∨ (a = c ∧ m.contains c = false ∧ 33 ≤ c)) := by
  unfold esc
  by_cases h1 : m.contains c = true
  · rw [if_pos h1]; exact ⟨_, _, rfl, .inl rfl⟩
  · rw [if_neg h1]
    split
    · exact ⟨_, _, rfl, .inl rfl⟩
    · exact ⟨_, _, rfl, .inr ⟨rfl, by simpa using h1, by omega⟩⟩
/-- The run ahead is a run. -/
theorem run_seq : ∀ (l : List Nat) (i : Nat), i < runLen l → l.getD i 0 = l.getD 0 0 + i := by
  intro l
  induction l with
  | nil => intro i hi; simp [runLen] at hi
  | cons a l ih =>
    intro i hi
    cases l with
    | nil => have : i = 0 := by simp [runLen] at hi; omega
             subst this; rfl
    | cons b r =>
      cases i with
      | zero => rfl
      | succ i =>
        unfold runLen at hi
        split at hi
        · rename_i hb
          have := ih i (by omega)
          simp only [List.getD_cons_succ, List.getD_cons_zero] at this ⊢
          omega
        · omega
theorem take_run (l : List Nat) : l.take (runLen l) = (List.range (runLen l)).map (l.getD 0 0 + ·) := by
  apply List.ext_getElem
  · have := runLen_le l; simp; omega
  · intro i h1 h2
    have hr := runLen_le l
    simp only [List.length_map, List.length_range] at h2
    have := run_seq l i h2
    rw [List.getD_eq_getElem?_getD, List.getElem?_eq_getElem (by omega), Option.getD_some] at this
    simp [this]
/-- What stands in brackets, read: the first byte, and how many. -/
theorem oneRun_eq (a n : Nat) (hn : 1 ≤ n) : oneRun ((List.range n).map (a + ·)) = esc inner a ++ ((if 2 < n then [45] else []) ++ (if 1 < n then esc inner (a + (n - 1)) else [])) := by
  unfold oneRun
  have h1 : ((List.range n).map (a + ·)).length = n := by simp
  rw [h1]
  have h2 : ((List.range n).map (a + ·)).getD 0 0 = a := by
    rw [List.getD_eq_getElem?_getD, List.getElem?_eq_getElem (by simp; omega)]; simp
  have h3 : ((List.range n).map (a + ·)).getD (n - 1) 0 = a + (n - 1) := by
    rw [List.getD_eq_getElem?_getD, List.getElem?_eq_getElem (by simp; omega)]; simp
  rw [h2, h3]
/-- Behind a run comes something else. -/
theorem run_next (l : List Nat) (h : runLen l < l.length) (h0 : l ≠ []) : l.getD (runLen l) 0 ≠ l.getD 0 0 + runLen l := by
  induction l with
  | nil => exact absurd rfl h0
  | cons a l ih =>
    cases l with
    | nil => simp [runLen] at h
    | cons b r =>
      unfold runLen at h ⊢
      split
      · rename_i hb
        rw [if_pos hb] at h
        have := ih (by simpa using h) (by simp)
        simp only [List.getD_cons_succ, List.getD_cons_zero] at this ⊢
        omega
      · rename_i hb
        simp only [List.getD_cons_succ, List.getD_cons_zero]
        exact hb
theorem mem92 : 92 ∈ inner := by decide
theorem nom120 : 120 ∉ inner := by decide
/-- what the items begin with, and what not -/
theorem runs_head (f : Nat) (L r : List Nat) : (∃ t, runs f L ++ 93 :: r = 93 :: t ∧ (L = [] ∨ f = 0)) ∨ ∃ a t, runs f L ++ 93 :: r = a :: t ∧ a ≠ 93 ∧ a ≠ 45 := by
  cases f with
  | zero => exact .inl ⟨r, rfl, .inr rfl⟩
  | succ f =>
    cases L with
    | nil => exact .inl ⟨r, rfl, .inl rfl⟩
    | cons x L =>
      right
      simp only [runs]
      rw [take_run, oneRun_eq _ _ (runLen_pos x L)]
      obtain ⟨t, a, e, h⟩ := esc_head (m := inner) ((x :: L).getD 0 0)
      rw [e]
      refine ⟨a, _, rfl, ?_, ?_⟩
      · rcases h with rfl | ⟨rfl, h2, -⟩
        · decide
        · intro e; rw [e] at h2; simp [inner] at h2
      · rcases h with rfl | ⟨rfl, h2, -⟩
        · decide
        · intro e; rw [e] at h2; simp [inner] at h2
theorem esc_inner_head (c : Nat) (r : List Nat) : ∃ a t, esc inner c ++ r = a :: t ∧ a ≠ 93 ∧ a ≠ 45 := by
  obtain ⟨t, a, e, h⟩ := esc_head (m := inner) c
  refine ⟨a, t ++ r, by rw [e]; rfl, ?_, ?_⟩
  · rcases h with rfl | ⟨rfl, h2, -⟩
    · decide
    · intro e; rw [e] at h2; simp [inner] at h2
  · rcases h with rfl | ⟨rfl, h2, -⟩
    · decide
    · intro e; rw [e] at h2; simp [inner] at h2
/-- the text behind a run's first byte -/
def tailRun (a n : Nat) (z : List Nat) : List Nat := (if 2 < n then [45] else []) ++ ((if 1 < n then esc inner (a + (n - 1)) else []) ++ z)
theorem runs_read : ∀ (f : Nat) (L M r s : List Nat), L.length ≤ f → M.length ≤ f → (∀ c ∈ L, c < 256) → (∀ c ∈ M, c < 256) → runs f L ++ 93 :: r = runs f M ++ 93 :: s → L = M ∧ r = s := by
  intro f
  induction f with
  | zero =>
    intro L M r s hL hM _ _ h
    have e1 : L = [] := List.eq_nil_of_length_eq_zero (by omega)
    have e2 : M = [] := List.eq_nil_of_length_eq_zero (by omega)
    subst e1 e2
    simp only [runs, List.nil_append, List.cons.injEq, true_and] at h
    exact ⟨rfl, h⟩
  | succ f ih =>
    intro L M r s hL hM bL bM h
    cases L with
    | nil =>
      cases M with
      | nil => simp only [runs, List.nil_append, List.cons.injEq, true_and] at h; exact ⟨rfl, h⟩
      | cons y M =>
        rcases runs_head (f + 1) (y :: M) s with ⟨t, e, h1 | h1⟩ | ⟨a, t, e, h1, h2⟩
        · cases h1
        · cases h1
        · rw [e] at h
          simp only [runs, List.nil_append, List.cons.injEq] at h
          exact absurd h.1.symm h1
    | cons x L =>
      cases M with
      | nil =>
        rcases runs_head (f + 1) (x :: L) r with ⟨t, e, h1 | h1⟩ | ⟨a, t, e, h1, h2⟩
        · cases h1
        · cases h1
        · rw [e] at h
          simp only [runs, List.nil_append, List.cons.injEq] at h
          exact absurd h.1 h1
      | cons y M =>
        have hn := runLen_pos x L
        have hm := runLen_pos y M
        have hnl := runLen_le (x :: L)
        have hml := runLen_le (y :: M)
        have gx : ∀ i, (x :: L).getD i 0 < 256 := getD_lt256 bL
        have gy : ∀ i, (y :: M).getD i 0 < 256 := getD_lt256 bM
        have sx := run_seq (x :: L)
        have sy := run_seq (y :: M)
        have tx := take_run (x :: L)
        have ty := take_run (y :: M)
        have nx := run_next (x :: L)
        have ny := run_next (y :: M)
        simp only [runs] at h
        rw [tx, ty, oneRun_eq _ _ hn, oneRun_eq _ _ hm] at h
        simp only [List.append_assoc] at h
        obtain ⟨ha, h⟩ := esc_read mem92 nom120 (gx 0) (gy 0) h
        generalize hN : runLen (x :: L) = n at *
        generalize hM' : runLen (y :: M) = m at *
        rw [← ha] at h ny sy ty
        have hxn := sx (n - 1) (by omega)
        have hym := sy (m - 1) (by omega)
        have bxn := gx (n - 1)
        have bym := gy (m - 1)
        generalize ha0 : (x :: L).getD 0 0 = a at *
        have key : n = m ∧ runs f ((x :: L).drop n) ++ 93 :: r = runs f ((y :: M).drop m) ++ 93 :: s := by
          have two : ∀ (p q : Nat) (U V : List Nat), 1 ≤ p → q = 1 → 1 < p → ¬ 2 < p → (∀ c, V.head? = some c → c ≠ a + 1 ∧ c < 256) → a + 1 < 256 → ∀ r s, esc inner (a + (p - 1)) ++ (runs f U ++ 93 :: r) ≠ runs f V ++ 93 :: s := by
            intro p q U V _ _ hp1 hp2 hV ha1 r s hh
            have hp : p = 2 := by omega
            subst hp
            obtain ⟨b, t, e, hb1, hb2⟩ := esc_inner_head (a + (2 - 1)) (runs f U ++ 93 :: r)
            cases V with
            | nil =>
              have e0 : runs f [] = [] := by cases f <;> rfl
              rw [e, e0] at hh
              simp only [List.nil_append, List.cons.injEq] at hh
              exact hb1 hh.1
            | cons v V =>
              cases f with
              | zero =>
                rw [e] at hh
                simp only [runs, List.nil_append, List.cons.injEq] at hh
                exact hb1 hh.1
              | succ f =>
                simp only [runs] at hh
                rw [take_run (v :: V), oneRun_eq _ _ (runLen_pos v V)] at hh
                simp only [List.append_assoc] at hh
                have hv := hV v rfl
                have := (esc_read mem92 nom120 (by omega) (by simpa using hv.2) hh).1
                simp only [List.getD_cons_zero] at this
                exact hv.1 this.symm
          by_cases h2n : 2 < n <;> by_cases h2m : 2 < m
          · rw [if_pos h2n, if_pos h2m, if_pos (by omega), if_pos (by omega)] at h
            simp only [List.cons_append, List.nil_append, List.cons.injEq, true_and] at h
            obtain ⟨e, h⟩ := esc_read mem92 nom120 (by omega) (by omega) h
            exact ⟨by omega, h⟩
          · exfalso
            rw [if_pos h2n, if_neg h2m, List.nil_append] at h
            by_cases h1m : 1 < m
            · rw [if_pos h1m] at h
              obtain ⟨b, t, e, hb1, hb2⟩ := esc_inner_head (a + (m - 1)) (runs f ((y :: M).drop m) ++ 93 :: s)
              rw [e] at h
              simp only [List.cons_append, List.cons.injEq] at h
              exact hb2 h.1.symm
            · rw [if_neg h1m, List.nil_append] at h
              rcases runs_head f ((y :: M).drop m) s with ⟨t, e, -⟩ | ⟨b, t, e, hb1, hb2⟩
              · rw [e] at h
                simp only [List.cons_append, List.cons.injEq] at h
                exact absurd h.1 (by decide)
              · rw [e] at h
                simp only [List.cons_append, List.cons.injEq] at h
                exact hb2 h.1.symm
          · exfalso
            rw [if_neg h2n, if_pos h2m, List.nil_append] at h
            by_cases h1n : 1 < n
            · rw [if_pos h1n] at h
              obtain ⟨b, t, e, hb1, hb2⟩ := esc_inner_head (a + (n - 1)) (runs f ((x :: L).drop n) ++ 93 :: r)
              rw [e] at h
              simp only [List.cons_append, List.cons.injEq] at h
              exact hb2 h.1
            · rw [if_neg h1n, List.nil_append] at h
              rcases runs_head f ((x :: L).drop n) r with ⟨t, e, -⟩ | ⟨b, t, e, hb1, hb2⟩
              · rw [e] at h
                simp only [List.cons_append, List.cons.injEq] at h
                exact absurd h.1 (by decide)
              · rw [e] at h
                simp only [List.cons_append, List.cons.injEq] at h
                exact hb2 h.1
          · rw [if_neg h2n, if_neg h2m, List.nil_append, List.nil_append] at h
            by_cases h1n : 1 < n <;> by_cases h1m : 1 < m
            · rw [if_pos h1n, if_pos h1m] at h
              have hnm : n = m := by omega
              subst hnm
              obtain ⟨e, h⟩ := esc_read mem92 nom120 (by omega) (by omega) h
              exact ⟨rfl, h⟩
            · exfalso
              rw [if_pos h1n, if_neg h1m, List.nil_append] at h
              refine two n m _ _ (by omega) (by omega) h1n h2n (fun c hc => ?_) (by omega) r s h
              have hlt : m < (y :: M).length := by
                rcases Nat.lt_or_ge m (y :: M).length with h | h
                · exact h
                · rw [List.drop_eq_nil_of_le h] at hc; cases hc
              rw [List.head?_drop, List.getElem?_eq_getElem hlt] at hc
              injection hc with hc
              have h3 := ny hlt (by simp)
              rw [List.getD_eq_getElem?_getD, List.getElem?_eq_getElem hlt, Option.getD_some, hc] at h3
              exact ⟨by omega, hc ▸ bM _ (List.getElem_mem hlt)⟩
            · exfalso
              rw [if_neg h1n, if_pos h1m, List.nil_append] at h
              refine two m n _ _ (by omega) (by omega) h1m h2m (fun c hc => ?_) (by omega) s r h.symm
              have hlt : n < (x :: L).length := by
                rcases Nat.lt_or_ge n (x :: L).length with h | h
                · exact h
                · rw [List.drop_eq_nil_of_le h] at hc; cases hc
              rw [List.head?_drop, List.getElem?_eq_getElem hlt] at hc
              injection hc with hc
              have h3 := nx hlt (by simp)
              rw [List.getD_eq_getElem?_getD, List.getElem?_eq_getElem hlt, Option.getD_some, hc] at h3
              exact ⟨by omega, hc ▸ bL _ (List.getElem_mem hlt)⟩
            · rw [if_neg h1n, if_neg h1m, List.nil_append, List.nil_append] at h
              exact ⟨by omega, h⟩
        obtain ⟨hnm, h2⟩ := key
        subst hnm
        obtain ⟨h3, h4⟩ := ih _ _ r s (by rw [List.length_drop]; simp only [List.length_cons] at *; omega) (by rw [List.length_drop]; simp only [List.length_cons] at *; omega) (fun c hc => bL c (List.mem_of_mem_drop hc)) (fun c hc => bM c (List.mem_of_mem_drop hc)) h2
        refine ⟨?_, h4⟩
        rw [← List.take_append_drop n (x :: L), ← List.take_append_drop n (y :: M), tx, ty, h3]
theorem listN_inj {S T : Nat} (hS : S < 2 ^ 256) (hT : T < 2 ^ 256) (h : listN S = listN T) : S = T := by
  rw [← ofN_listN S hS, ← ofN_listN T hT, h]
end Tr
end Go.Proofs.YtcgllipcnmlkbaaDoor
namespace Go.Proofs.YtcgllipcnmlkbaaDoor
namespace Tr
open Sets
theorem m92 : 92 ∈ marks := by decide
theorem m120 : 120 ∉ marks := by decide
theorem len_one {l : List Nat} (h : l.length = 1) : l = [l.getD 0 0] := by
  match l, h with
  | [a], _ => rfl
theorem set_head (S : Nat) : ∃ a t, setPr S = a :: t ∧ ((S = full ∧ a = 46) ∨ (S ≠ full ∧ (listN S).length = 1 ∧ (a = 92 ∨ a ∉ marks)) ∨ (S ≠ full ∧ (listN S).length ≠ 1 ∧ a = 91)) := by
  unfold setPr
  by_cases h : S = full
  · rw [if_pos h]; exact ⟨_, _, rfl, .inl ⟨h, rfl⟩⟩
  · rw [if_neg h]
    by_cases h1 : (listN S).length = 1
    · rw [if_pos h1]
      obtain ⟨t, a, e, ha⟩ := esc_head (m := marks) ((listN S).getD 0 0)
      refine ⟨a, t, e, .inr (.inl ⟨h, h1, ?_⟩)⟩
      rcases ha with ha | ⟨rfl, ha, -⟩
      · exact .inl ha
      · refine .inr (fun hm => ?_)
        rw [mem_contains.2 hm] at ha
        cases ha
    · rw [if_neg h1]; exact ⟨_, _, rfl, .inr (.inr ⟨h, h1, rfl⟩)⟩
theorem setPr_read {S T : Nat} (hS : S < 2 ^ 256) (hT : T < 2 ^ 256) {r s : List Nat} (h : setPr S ++ r = setPr T ++ s) : S = T ∧ r = s := by
  have bS : ∀ c ∈ listN S, c < 256 := fun c hc => ((mem_listN S c).1 hc).1
  have bT : ∀ c ∈ listN T, c < 256 := fun c hc => ((mem_listN T c).1 hc).1
  obtain ⟨a, t, e1, h1⟩ := set_head S
  obtain ⟨b, u, e2, h2⟩ := set_head T
  have hab : a = b := by
    rw [e1, e2] at h
    simp only [List.cons_append, List.cons.injEq] at h
    exact h.1
  rcases h1 with ⟨h1, ha⟩ | ⟨h1, h3, ha⟩ | ⟨h1, h3, ha⟩ <;> rcases h2 with ⟨h2, hb⟩ | ⟨h2, h4, hb⟩ | ⟨h2, h4, hb⟩
  · subst h1 h2
    exact ⟨rfl, List.append_cancel_left h⟩
  · exfalso; rw [← hab, ha] at hb; rcases hb with hb | hb <;> revert hb <;> decide
  · exfalso; rw [← hab, ha] at hb; revert hb; decide
  · exfalso; rw [hab, hb] at ha; rcases ha with ha | ha <;> revert ha <;> decide
  · unfold setPr at h
    rw [if_neg h1, if_neg h2, if_pos h3, if_pos h4] at h
    obtain ⟨e, h⟩ := esc_read m92 m120 (getD_lt256 bS 0) (getD_lt256 bT 0) h
    refine ⟨listN_inj hS hT ?_, h⟩
    rw [len_one h3, len_one h4, e]
  · exfalso; rw [hab, hb] at ha; rcases ha with ha | ha <;> revert ha <;> decide
  · exfalso; rw [← hab, ha] at hb; revert hb; decide
  · exfalso; rw [← hab, ha] at hb; rcases hb with hb | hb <;> revert hb <;> decide
  · unfold setPr at h
    rw [if_neg h1, if_neg h2, if_neg h3, if_neg h4] at h
    simp only [List.cons_append, List.append_assoc, List.cons.injEq, true_and] at h
    obtain ⟨e, h⟩ := runs_read 256 _ _ r s (by rw [listN_length]; exact cnt_le S) (by rw [listN_length]; exact cnt_le T) bS bT h
    exact ⟨listN_inj hS hT e, h⟩
def TH : List Nat := [42, 43, 63, 123]
theorem tm_head (m n : Int) : ∃ a t, tm m n = a :: t ∧ a ∈ TH := by
  unfold tm
  split
  · split <;> exact ⟨_, _, rfl, by decide⟩
  · split
    · exact ⟨_, _, rfl, by decide⟩
    · exact ⟨_, _, rfl, by decide⟩
theorem tm_read {m n m' n' : Int} (h1 : countable m n = true) (h2 : countable m' n' = true) {r s : List Nat} (h : tm m n ++ r = tm m' n' ++ s) : m = m' ∧ n = n' ∧ r = s := by
  unfold countable at h1 h2
  unfold tm at h
  by_cases a1 : n = -1 <;> by_cases b1 : n' = -1
  · rw [if_pos a1] at h1 h
    rw [if_pos b1] at h2 h
    have h1 := of_decide_eq_true h1
    have h2 := of_decide_eq_true h2
    subst a1 b1
    by_cases a2 : m = 0 <;> by_cases b2 : m' = 0
    · rw [if_pos a2, if_pos b2] at h; simp at h; exact ⟨by omega, rfl, h⟩
    · rw [if_pos a2, if_neg b2] at h; simp at h
    · rw [if_neg a2, if_pos b2] at h; simp at h
    · rw [if_neg a2, if_neg b2] at h; simp at h; exact ⟨by omega, rfl, h⟩
  · exfalso
    rw [if_pos a1, if_neg b1] at h
    split at h <;> split at h <;> simp at h
  · exfalso
    rw [if_neg a1, if_pos b1] at h
    by_cases b2 : m' = 0
    · rw [if_pos b2] at h
      split at h <;> simp at h
    · rw [if_neg b2] at h
      split at h <;> simp at h
  · rw [if_neg a1] at h1 h
    rw [if_neg b1] at h2 h
    have h1 := of_decide_eq_true h1
    have h2 := of_decide_eq_true h2
    by_cases a2 : m = 0 ∧ n = 1 <;> by_cases b2 : m' = 0 ∧ n' = 1
    · rw [if_pos a2, if_pos b2] at h; simp at h; exact ⟨by omega, by omega, h⟩
    · exfalso; rw [if_pos a2, if_neg b2] at h; simp at h
    · exfalso; rw [if_neg a2, if_pos b2] at h; simp at h
    · rw [if_neg a2, if_neg b2] at h
      unfold dig at h
      simp only [List.cons_append, List.cons.injEq, true_and, List.append_assoc] at h
      obtain ⟨e, h⟩ := h
      have em : m = m' := by omega
      by_cases a3 : n ≠ m <;> by_cases b3 : n' ≠ m'
      · rw [if_pos a3, if_pos b3] at h
        simp only [List.cons_append, List.nil_append, List.cons.injEq, true_and] at h
        exact ⟨em, by omega, h.2⟩
      · exfalso; rw [if_pos a3, if_neg b3] at h; simp at h
      · exfalso; rw [if_neg a3, if_pos b3] at h; simp at h
      · rw [if_neg a3, if_neg b3] at h
        simp only [List.nil_append, List.cons.injEq, true_and] at h
        exact ⟨em, by omega, h⟩
def X.sz : X → Nat
  | .emp => 1
  | .set _ => 1
  | .seq a b => a.sz + b.sz + 1
  | .alt a b => a.sz + b.sz + 1
  | .tim a _ _ => a.sz + 1
def atomP (z : X) : List Nat := wr (decide (2 < z.kd)) (prX z)
def pieceP (z : X) : List Nat := wr (z.kd == 4 || z.kd == 3) (prX z)
def brP (z : X) : List Nat := wr (z.kd == 4) (prX z)
def pcs : X → List X
  | .seq a b => pcs a ++ [b]
  | x => [x]
def brs : X → List X
  | .alt a b => brs a ++ [b]
  | x => [x]
theorem head_wr (c : Bool) {l : List Nat} (h : ∃ a t, l = a :: t ∧ a ∉ B0) : ∃ a t, wr c l = a :: t ∧ a ∉ B0 := by
  cases c
  · exact h
  · exact ⟨40, _, rfl, by decide⟩
theorem head_app {l m : List Nat} (h : ∃ a t, l = a :: t ∧ a ∉ B0) : ∃ a t, l ++ m = a :: t ∧ a ∉ B0 := by
  obtain ⟨a, t, rfl, ha⟩ := h
  exact ⟨a, t ++ m, rfl, ha⟩
theorem b0_marks {a : Nat} (h : a ∉ marks) : a ∉ B0 := fun hb => h (by
  unfold B0 at hb
  unfold marks
  simp only [List.mem_cons, List.not_mem_nil, or_false] at hb ⊢
  rcases hb with h | h | h | h | h | h | h | h <;> simp [h])
theorem head_set (s : Nat) : ∃ a t, setPr s = a :: t ∧ a ∉ B0 := by
  obtain ⟨a, t, e, h⟩ := set_head s
  refine ⟨a, t, e, ?_⟩
  rcases h with ⟨-, rfl⟩ | ⟨-, -, rfl | h⟩ | ⟨-, -, rfl⟩
  · decide
  · decide
  · exact b0_marks h
  · decide
theorem head_prX : ∀ x : X, ∃ a t, prX x = a :: t ∧ a ∉ B0 := by
  intro x
  induction x with
  | emp => exact ⟨40, [41], rfl, by decide⟩
  | set s => exact head_set s
  | seq a b iha ihb => exact head_app (head_wr _ iha)
  | alt a b iha ihb => exact head_app iha
  | tim a m n ih => exact head_app (head_wr _ ih)
theorem head_ne40 (s : Nat) : ∃ a t, setPr s = a :: t ∧ a ≠ 40 := by
  obtain ⟨a, t, e, h⟩ := set_head s
  refine ⟨a, t, e, ?_⟩
  rcases h with ⟨-, rfl⟩ | ⟨-, -, rfl | h⟩ | ⟨-, -, rfl⟩
  · decide
  · decide
  · intro e; rw [e] at h; exact h (by decide)
  · decide
theorem brP_pcs : ∀ x : X, brP x = (pcs x).flatMap pieceP := by
  intro x
  induction x with
  | seq a b iha ihb =>
    simp only [pcs, List.flatMap_append, ← iha, List.flatMap_cons, List.flatMap_nil, List.append_nil]
    rfl
  | emp => simp [pcs, brP, pieceP, X.kd, wr]
  | set s => simp [pcs, brP, pieceP, X.kd, wr]
  | alt a b => simp [pcs, brP, pieceP, X.kd, wr]
  | tim a m n => simp [pcs, brP, pieceP, X.kd, wr]
theorem prX_brs : ∀ x : X, ∃ h t, brs x = h :: t ∧ prX x = brP h ++ t.flatMap (fun b => 124 :: brP b) := by
  intro x
  induction x with
  | alt a b iha ihb =>
    obtain ⟨h, t, e1, e2⟩ := iha
    refine ⟨h, t ++ [b], by simp [brs, e1], ?_⟩
    simp only [prX, e2, List.flatMap_append, List.flatMap_cons, List.flatMap_nil, List.append_nil, List.append_assoc]
    rfl
  | emp => exact ⟨_, [], rfl, by simp [brP, X.kd, wr]⟩
  | set s => exact ⟨_, [], rfl, by simp [brP, X.kd, wr]⟩
  | seq a b => exact ⟨_, [], rfl, by simp [brP, X.kd, wr]⟩
  | tim a m n => exact ⟨_, [], rfl, by simp [brP, X.kd, wr]⟩
theorem pcs_back : ∀ x : X, ∃ h t, pcs x = h :: t ∧ x = t.foldl X.seq h := by
  intro x
  induction x with
  | seq a b iha ihb =>
    obtain ⟨h, t, e1, e2⟩ := iha
    refine ⟨h, t ++ [b], by simp [pcs, e1], ?_⟩
    rw [List.foldl_append, ← e2]; rfl
  | emp => exact ⟨_, [], rfl, rfl⟩
  | set s => exact ⟨_, [], rfl, rfl⟩
  | alt a b => exact ⟨_, [], rfl, rfl⟩
  | tim a m n => exact ⟨_, [], rfl, rfl⟩
theorem brs_back : ∀ x : X, ∃ h t, brs x = h :: t ∧ x = t.foldl X.alt h := by
  intro x
  induction x with
  | alt a b iha ihb =>
    obtain ⟨h, t, e1, e2⟩ := iha
    refine ⟨h, t ++ [b], by simp [brs, e1], ?_⟩
    rw [List.foldl_append, ← e2]; rfl
  | emp => exact ⟨_, [], rfl, rfl⟩
  | set s => exact ⟨_, [], rfl, rfl⟩
  | seq a b => exact ⟨_, [], rfl, rfl⟩
  | tim a m n => exact ⟨_, [], rfl, rfl⟩
theorem pcs_inj {x y : X} (h : pcs x = pcs y) : x = y := by
  obtain ⟨a, t, e1, e2⟩ := pcs_back x
  obtain ⟨b, u, e3, e4⟩ := pcs_back y
  rw [e1, e3] at h
  injection h with h1 h2
  rw [e2, e4, h1, h2]
theorem brs_inj {x y : X} (h : brs x = brs y) : x = y := by
  obtain ⟨a, t, e1, e2⟩ := brs_back x
  obtain ⟨b, u, e3, e4⟩ := brs_back y
  rw [e1, e3] at h
  injection h with h1 h2
  rw [e2, e4, h1, h2]
theorem X.sz_pos (x : X) : 1 ≤ x.sz := by cases x <;> simp [X.sz]
theorem pcs_ok : ∀ x : X, OkX x → ∀ p ∈ pcs x, OkX p ∧ p.sz ≤ x.sz ∧ ((p.kd = 3 ∨ p.kd = 4) → p.sz < x.sz ∨ x.kd = 4) := by
  intro x
  induction x with
  | seq a b iha ihb =>
    intro ho p hp
    have hb := X.sz_pos b
    rcases List.mem_append.1 hp with hp | hp
    · obtain ⟨h1, h2, h3⟩ := iha ho.1 p hp
      simp only [X.sz]
      exact ⟨h1, by omega, fun _ => .inl (by omega)⟩
    · rw [List.mem_singleton.1 hp]
      simp only [X.sz]
      exact ⟨ho.2, by omega, fun _ => .inl (by omega)⟩
  | emp => intro ho p hp; rw [List.mem_singleton.1 hp]; exact ⟨ho, Nat.le_refl _, fun h => by simp [X.kd] at h⟩
  | set s => intro ho p hp; rw [List.mem_singleton.1 hp]; exact ⟨ho, Nat.le_refl _, fun h => by simp [X.kd] at h⟩
  | alt a b => intro ho p hp; rw [List.mem_singleton.1 hp]; exact ⟨ho, Nat.le_refl _, fun h => .inr rfl⟩
  | tim a m n => intro ho p hp; rw [List.mem_singleton.1 hp]; exact ⟨ho, Nat.le_refl _, fun h => by simp [X.kd] at h⟩
theorem brs_ok : ∀ x : X, OkX x → ∀ p ∈ brs x, OkX p ∧ p.sz ≤ x.sz ∧ (p.kd = 4 → p.sz < x.sz) := by
  intro x
  induction x with
  | alt a b iha ihb =>
    intro ho p hp
    have hb := X.sz_pos b
    have ha := X.sz_pos a
    rcases List.mem_append.1 hp with hp | hp
    · obtain ⟨h1, h2, h3⟩ := iha ho.1 p hp
      simp only [X.sz]
      exact ⟨h1, by omega, fun _ => by omega⟩
    · rw [List.mem_singleton.1 hp]
      simp only [X.sz]
      exact ⟨ho.2, by omega, fun _ => by omega⟩
  | emp => intro ho p hp; rw [List.mem_singleton.1 hp]; exact ⟨ho, Nat.le_refl _, fun h => by simp [X.kd] at h⟩
  | set s => intro ho p hp; rw [List.mem_singleton.1 hp]; exact ⟨ho, Nat.le_refl _, fun h => by simp [X.kd] at h⟩
  | seq a b => intro ho p hp; rw [List.mem_singleton.1 hp]; exact ⟨ho, Nat.le_refl _, fun h => by simp [X.kd] at h⟩
  | tim a m n => intro ho p hp; rw [List.mem_singleton.1 hp]; exact ⟨ho, Nat.le_refl _, fun h => by simp [X.kd] at h⟩
end Tr
end Go.Proofs.YtcgllipcnmlkbaaDoor
namespace Go.Proofs.YtcgllipcnmlkbaaDoor
namespace Tr
open Sets
/-- nothing, or one of these -/
def Hd (l : List Nat) (r : List Nat) : Prop := r = [] ∨ ∃ a t, r = a :: t ∧ a ∈ l
/-- what is wrong of a text's head -/
def Nt (l : List Nat) (r : List Nat) : Prop := r = [] ∨ ∃ a t, r = a :: t ∧ a ∉ l
theorem Hd.nt {l m : List Nat} {r : List Nat} (h : Hd l r) (hl : ∀ a ∈ l, a ∉ m) : Nt m r := h.imp id (fun ⟨a, t, e, ha⟩ => ⟨a, t, e, hl a ha⟩)
theorem Hd.clash {l m : List Nat} {r : List Nat} (h : Hd l r) (hl : ∀ a ∈ l, a ∈ m) {a : Nat} {t : List Nat} (e : r = a :: t) : a ∈ m := by
  rcases h with h | ⟨b, u, h, hb⟩
  · rw [h] at e; cases e
  · rw [h] at e; injection e with e1 e2; exact e1 ▸ hl b hb
theorem nt_of_head {m : List Nat} {l r : List Nat} (h : ∃ a t, l = a :: t ∧ a ∉ B0) (hm : ∀ a ∈ m, a ∈ B0) : Nt m (l ++ r) := by
  obtain ⟨a, t, rfl, ha⟩ := h
  exact .inr ⟨a, t ++ r, rfl, fun h => ha (hm a h)⟩
theorem head_piece (x : X) : ∃ a t, pieceP x = a :: t ∧ a ∉ B0 := head_wr _ (head_prX x)
theorem head_br (x : X) : ∃ a t, brP x = a :: t ∧ a ∉ B0 := head_wr _ (head_prX x)
theorem th_b0 : ∀ a ∈ TH, a ∈ B0 := by decide
/-- x is read back from its print -/
def Top (x : X) : Prop := ∀ y r s, OkX y → Hd [41, 38] r → Hd [41, 38] s → prX x ++ r = prX y ++ s → x = y ∧ r = s
theorem atom_emp {y : X} {r s : List Nat} (hy : OkX y) (h : 40 :: 41 :: r = atomP y ++ s) : y = .emp ∧ r = s := by
  unfold atomP at h
  cases y with
  | emp => simp [X.kd, wr, prX] at h; exact ⟨rfl, h⟩
  | set t =>
    obtain ⟨a, u, e, ha⟩ := head_ne40 t
    have : prX (.set t) = setPr t := rfl
    simp [X.kd, wr, this, e] at h
    exact absurd h.1.symm ha
  | seq a b =>
    obtain ⟨c, u, e, hc⟩ := head_prX (.seq a b)
    simp [X.kd, wr, e] at h
    exact absurd (h.1 ▸ hc) (by decide)
  | alt a b =>
    obtain ⟨c, u, e, hc⟩ := head_prX (.alt a b)
    simp [X.kd, wr, e] at h
    exact absurd (h.1 ▸ hc) (by decide)
  | tim a m n =>
    obtain ⟨c, u, e, hc⟩ := head_prX (.tim a m n)
    simp [X.kd, wr, e] at h
    exact absurd (h.1 ▸ hc) (by decide)
theorem kd_cases (y : X) : y = .emp ∨ (∃ t, y = .set t) ∨ 2 < y.kd := by cases y <;> simp [X.kd]
theorem atom_read {z y : X} (hz : OkX z) (hy : OkX y) (hT : 2 < z.kd → Top z) {r s : List Nat} (h : atomP z ++ r = atomP y ++ s) : z = y ∧ r = s := by
  rcases kd_cases z with rfl | ⟨t, rfl⟩ | hk
  · have h' : 40 :: 41 :: r = atomP y ++ s := by rw [← h]; rfl
    have := atom_emp hy h'
    exact ⟨this.1.symm, this.2⟩
  · rcases kd_cases y with rfl | ⟨u, rfl⟩ | hk2
    · have h' : 40 :: 41 :: s = atomP (.set t) ++ r := by rw [h]; rfl
      have := atom_emp hz h'
      cases this.1
    · have h' : setPr t ++ r = setPr u ++ s := h
      obtain ⟨e, h'⟩ := setPr_read hz hy h'
      exact ⟨by rw [e], h'⟩
    · exfalso
      unfold atomP at h
      rw [decide_eq_true hk2] at h
      obtain ⟨a, u, e, ha⟩ := head_ne40 t
      have h' : setPr t ++ r = wr true (prX y) ++ s := h
      rw [e] at h'
      simp [wr] at h'
      exact ha h'.1
  · rcases kd_cases y with rfl | ⟨u, rfl⟩ | hk2
    · have h' : 40 :: 41 :: s = atomP z ++ r := by rw [h]; rfl
      have := atom_emp hz h'
      rw [this.1] at hk
      exact absurd hk (by decide)
    · exfalso
      unfold atomP at h
      rw [decide_eq_true hk] at h
      obtain ⟨a, v, e, ha⟩ := head_ne40 u
      have h' : wr true (prX z) ++ r = setPr u ++ s := h
      rw [e] at h'
      simp [wr] at h'
      exact ha h'.1.symm
    · unfold atomP at h
      rw [decide_eq_true hk, decide_eq_true hk2] at h
      simp only [wr, if_true, List.cons_append, List.append_assoc, List.cons.injEq, true_and, List.nil_append] at h
      have := hT hk y (41 :: r) (41 :: s) hy (.inr ⟨41, r, rfl, by decide⟩) (.inr ⟨41, s, rfl, by decide⟩) h
      exact ⟨this.1, by simpa using this.2⟩
/-- May p stand as a piece of what is no greater than n? -/
def PO (n : Nat) (p : X) : Prop := OkX p ∧ (p.kd ≤ 2 ∨ (p.kd = 5 ∧ p.sz ≤ n) ∨ p.sz < n)
theorem piece_tim (a : X) (m n : Int) : pieceP (.tim a m n) = atomP a ++ tm m n := rfl
theorem piece_other {z : X} (h : z.kd ≠ 5) : pieceP z = atomP z := by
  cases z <;> first | rfl | exact absurd rfl h
theorem tim_or (z : X) : (∃ a m n, z = .tim a m n) ∨ z.kd ≠ 5 := by cases z <;> simp [X.kd]
theorem piece_read {n : Nat} (H : ∀ z, z.sz < n → OkX z → Top z) {p q : X} (hp : PO n p) (hq : OkX q) {r s : List Nat} (hr : Nt TH r) (hs : Nt TH s) (h : pieceP p ++ r = pieceP q ++ s) : p = q ∧ r = s := by
  have clash : ∀ (m n : Int) (u v : List Nat), Nt TH v → tm m n ++ u = v → False := by
    intro m n u v hv e
    obtain ⟨a, t, e2, ha⟩ := tm_head m n
    rcases hv with h | ⟨b, w, h, hb⟩
    · rw [e2, h] at e; cases e
    · rw [e2, h] at e; simp at e; exact hb (e.1 ▸ ha)
  obtain ⟨ho, hc⟩ := hp
  rcases tim_or p with ⟨a, m, k, rfl⟩ | hp5 <;> rcases tim_or q with ⟨b, m', k', rfl⟩ | hq5
  · rw [piece_tim, piece_tim, List.append_assoc, List.append_assoc] at h
    have hsz : a.sz < n := by
      rcases hc with hc | hc | hc
      · simp [X.kd] at hc
      · have := hc.2; simp only [X.sz] at this; omega
      · simp only [X.sz] at hc; omega
    obtain ⟨e, h⟩ := atom_read ho.1 hq.1 (fun _ => H a hsz ho.1) h
    obtain ⟨e1, e2, h⟩ := tm_read ho.2 hq.2 h
    exact ⟨by rw [e, e1, e2], h⟩
  · exfalso
    rw [piece_tim, piece_other hq5, List.append_assoc] at h
    have hsz : a.sz < n := by
      rcases hc with hc | hc | hc
      · simp [X.kd] at hc
      · have := hc.2; simp only [X.sz] at this; omega
      · simp only [X.sz] at hc; omega
    obtain ⟨e, h⟩ := atom_read ho.1 hq (fun _ => H a hsz ho.1) h
    exact clash m k r s hs h
  · exfalso
    rw [piece_tim, piece_other hp5, List.append_assoc] at h
    obtain ⟨e, h⟩ := atom_read ho hq.1 (fun hk => by
      rcases hc with hc | hc | hc
      · omega
      · exact absurd hc.1 hp5
      · exact H p hc ho) h
    exact clash m' k' s r hr h.symm
  · rw [piece_other hp5, piece_other hq5] at h
    exact atom_read ho hq (fun hk => by
      rcases hc with hc | hc | hc
      · omega
      · exact absurd hc.1 hp5
      · exact H p hc ho) h
theorem pieces_read {n : Nat} (H : ∀ z, z.sz < n → OkX z → Top z) : ∀ (ps qs : List X) (r s : List Nat), (∀ p ∈ ps, PO n p) → (∀ q ∈ qs, OkX q) → Hd [41, 38, 124] r → Hd [41, 38, 124] s →
    ps.flatMap pieceP ++ r = qs.flatMap pieceP ++ s → ps = qs ∧ r = s := by
  have hb : ∀ a ∈ [41, 38, 124], a ∈ B0 := by decide
  have ht : ∀ a ∈ [41, 38, 124], a ∉ TH := by decide
  intro ps
  induction ps with
  | nil =>
    intro qs r s _ hq hr _ h
    cases qs with
    | nil => exact ⟨rfl, h⟩
    | cons q qs =>
      exfalso
      obtain ⟨a, t, e, ha⟩ := head_piece q
      rw [List.flatMap_cons, e] at h
      exact ha (hr.clash hb (by simpa using h))
  | cons p ps ih =>
    intro qs r s hp hq hr hs h
    cases qs with
    | nil =>
      exfalso
      obtain ⟨a, t, e, ha⟩ := head_piece p
      rw [List.flatMap_cons, e] at h
      exact ha (hs.clash hb (by simpa using h.symm))
    | cons q qs =>
      rw [List.flatMap_cons, List.flatMap_cons, List.append_assoc, List.append_assoc] at h
      have nt : ∀ (l : List X) (u : List Nat), Hd [41, 38, 124] u → Nt TH (l.flatMap pieceP ++ u) := by
        intro l u hu
        cases l with
        | nil => exact hu.nt ht
        | cons z l =>
          rw [List.flatMap_cons, List.append_assoc]
          exact nt_of_head (head_piece z) th_b0
      obtain ⟨e, h⟩ := piece_read H (hp p (by simp)) (hq q (by simp)) (nt ps r hr) (nt qs s hs) h
      obtain ⟨e2, h⟩ := ih qs r s (fun z hz => hp z (by simp [hz])) (fun z hz => hq z (by simp [hz])) hr hs h
      exact ⟨by rw [e, e2], h⟩
theorem br_read {n : Nat} (H : ∀ z, z.sz < n → OkX z → Top z) {b c : X} (hb : OkX b) (hbs : b.sz ≤ n) (hb4 : b.kd = 4 → b.sz < n) (hc : OkX c) {r s : List Nat} (hr : Hd [41, 38, 124] r) (hs : Hd [41, 38, 124] s)
    (h : brP b ++ r = brP c ++ s) : b = c ∧ r = s := by
  rw [brP_pcs, brP_pcs] at h
  obtain ⟨e, h⟩ := pieces_read H (pcs b) (pcs c) r s (fun p hp => by
    obtain ⟨h1, h2, h3⟩ := pcs_ok b hb p hp
    refine ⟨h1, ?_⟩
    have hk : p.kd ≤ 2 ∨ p.kd = 3 ∨ p.kd = 4 ∨ p.kd = 5 := by cases p <;> simp [X.kd]
    rcases hk with hk | hk | hk | hk
    · exact .inl hk
    · rcases h3 (.inl hk) with h | h
      · exact .inr (.inr (by omega))
      · have := hb4 h; exact .inr (.inr (by omega))
    · rcases h3 (.inr hk) with h | h
      · exact .inr (.inr (by omega))
      · have := hb4 h; exact .inr (.inr (by omega))
    · exact .inr (.inl ⟨hk, by omega⟩)) (fun q hq => (pcs_ok c hc q hq).1) hr hs h
  exact ⟨pcs_inj e, h⟩
theorem brs_read {n : Nat} (H : ∀ z, z.sz < n → OkX z → Top z) : ∀ (bs cs : List X) (r s : List Nat), (∀ b ∈ bs, OkX b ∧ b.sz ≤ n ∧ (b.kd = 4 → b.sz < n)) → (∀ c ∈ cs, OkX c) → Hd [41, 38] r → Hd [41, 38] s →
    bs.flatMap (fun b => 124 :: brP b) ++ r = cs.flatMap (fun b => 124 :: brP b) ++ s → bs = cs ∧ r = s := by
  have hx : ∀ a ∈ [41, 38], a ∈ [41, 38, 124] := by decide
  have up : ∀ u, Hd [41, 38] u → Hd [41, 38, 124] u := fun u h => h.imp id (fun ⟨a, t, e, ha⟩ => ⟨a, t, e, hx a ha⟩)
  have hd : ∀ (l : List X) (u : List Nat), Hd [41, 38] u → Hd [41, 38, 124] (l.flatMap (fun b => 124 :: brP b) ++ u) := by
    intro l u hu
    cases l with
    | nil => exact up u hu
    | cons z l => exact .inr ⟨124, _, rfl, by decide⟩
  intro bs
  induction bs with
  | nil =>
    intro cs r s _ _ hr _ h
    cases cs with
    | nil => exact ⟨rfl, h⟩
    | cons c cs =>
      exfalso
      have : (124 : Nat) ∈ [41, 38] := hr.clash (fun a h => h) (by simpa using h)
      revert this; decide
  | cons b bs ih =>
    intro cs r s hb hc hr hs h
    cases cs with
    | nil =>
      exfalso
      have : (124 : Nat) ∈ [41, 38] := hs.clash (fun a h => h) (by simpa using h.symm)
      revert this; decide
    | cons c cs =>
      rw [List.flatMap_cons, List.flatMap_cons, List.append_assoc, List.append_assoc] at h
      simp only [List.cons_append, List.cons.injEq, true_and] at h
      have hb1 := hb b (by simp)
      obtain ⟨e, h⟩ := br_read H hb1.1 hb1.2.1 hb1.2.2 (hc c (by simp)) (hd bs r hr) (hd cs s hs) h
      obtain ⟨e2, h⟩ := ih cs r s (fun z hz => hb z (by simp [hz])) (fun z hz => hc z (by simp [hz])) hr hs h
      exact ⟨by rw [e, e2], h⟩
theorem top_all : ∀ (n : Nat) (x : X), x.sz ≤ n → OkX x → Top x := by
  intro n
  induction n with
  | zero => intro x hx; have := X.sz_pos x; omega
  | succ n ih =>
    intro x hx ho y r s hy hr hs h
    have H : ∀ z, z.sz < x.sz → OkX z → Top z := fun z hz hz2 => ih z (by omega) hz2
    obtain ⟨a, t, e1, e2⟩ := prX_brs x
    obtain ⟨b, u, e3, e4⟩ := prX_brs y
    have okx := brs_ok x ho
    have oky := brs_ok y hy
    rw [e1] at okx
    rw [e3] at oky
    rw [e2, e4, List.append_assoc, List.append_assoc] at h
    have hx : ∀ a ∈ [41, 38], a ∈ [41, 38, 124] := by decide
    have hd : ∀ (l : List X) (u : List Nat), Hd [41, 38] u → Hd [41, 38, 124] (l.flatMap (fun b => 124 :: brP b) ++ u) := by
      intro l u hu
      cases l with
      | nil => exact hu.imp id (fun ⟨a, t, e, ha⟩ => ⟨a, t, e, hx a ha⟩)
      | cons z l => exact .inr ⟨124, _, rfl, by decide⟩
    have ha := okx a (by simp)
    obtain ⟨e, h⟩ := br_read H ha.1 ha.2.1 ha.2.2 (oky b (by simp)).1 (hd t r hr) (hd u s hs) h
    obtain ⟨e5, h⟩ := brs_read H t u r s (fun z hz => okx z (by simp [hz])) (fun z hz => (oky z (by simp [hz])).1) hr hs h
    refine ⟨brs_inj ?_, h⟩
    rw [e1, e3, e, e5]
theorem parts_read : ∀ (l m : List (X × Bool)) (i : Nat), (∀ p ∈ l, OkX p.1) → (∀ p ∈ m, OkX p.1) → prParts (i + 1) l = prParts (i + 1) m → l = m := by
  intro l
  induction l with
  | nil =>
    intro m i _ _ h
    cases m with
    | nil => rfl
    | cons q m => simp [prParts] at h
  | cons p l ih =>
    intro m i hl hm h
    cases m with
    | nil => simp [prParts] at h
    | cons q m =>
      simp only [prParts, if_pos (Nat.succ_pos i), List.cons_append, List.nil_append, List.cons.injEq, true_and] at h
      have hd : ∀ (k : Nat) (z : List (X × Bool)), Hd [41, 38] (prParts (k + 1) z) := by
        intro k z
        cases z with
        | nil => exact .inl rfl
        | cons z0 z => exact .inr ⟨38, _, by rw [prParts, if_pos (Nat.succ_pos k)]; rfl, by decide⟩
      have main : ∀ (a b : X × Bool), OkX a.1 → OkX b.1 → (if a.2 = true then [33] else []) ++ (prX a.1 ++ prParts (i + 1 + 1) l) = (if b.2 = true then [33] else []) ++ (prX b.1 ++ prParts (i + 1 + 1) m) → a = b ∧ prParts (i + 1 + 1) l = prParts (i + 1 + 1) m := by
        intro a b ha hb h
        obtain ⟨a1, a2⟩ := a
        obtain ⟨b1, b2⟩ := b
        cases a2 <;> cases b2
        · simp only [Bool.false_eq_true, if_false, List.nil_append] at h
          obtain ⟨e, h⟩ := top_all _ a1 (Nat.le_refl _) ha b1 _ _ hb (hd _ _) (hd _ _) h
          exact ⟨by rw [e], h⟩
        · exfalso
          obtain ⟨c, t, e, hc⟩ := head_prX a1
          simp [e] at h
          exact absurd (h.1 ▸ hc) (by decide)
        · exfalso
          obtain ⟨c, t, e, hc⟩ := head_prX b1
          simp [e] at h
          exact absurd (h.1 ▸ hc) (by decide)
        · simp only [if_true, List.cons_append, List.nil_append, List.cons.injEq, true_and] at h
          obtain ⟨e, h⟩ := top_all _ a1 (Nat.le_refl _) ha b1 _ _ hb (hd _ _) (hd _ _) h
          exact ⟨by rw [e], h⟩
      obtain ⟨e, h⟩ := main p q (hl p (by simp)) (hm q (by simp)) h
      rw [e, ih m (i + 1) (fun z hz => hl z (by simp [hz])) (fun z hz => hm z (by simp [hz])) h]
theorem prParts_pos : ∀ (l : List (X × Bool)) (i : Nat), prParts (i + 1) l = prParts 1 l := by
  intro l
  induction l with
  | nil => intro i; rfl
  | cons p l ih =>
    intro i
    simp only [prParts, if_pos (Nat.succ_pos i), if_pos (Nat.succ_pos 0)]
    rw [ih (i + 1), ih (1)]
theorem prParts_one (p : X × Bool) (l : List (X × Bool)) : prParts 1 (p :: l) = 38 :: prParts 0 (p :: l) := by
  simp only [prParts, if_pos (Nat.succ_pos 0), Nat.lt_irrefl, if_false, List.nil_append, List.cons_append]
  rw [prParts_pos l 1]
/-- Two prints of right trees are one just if their parts are. -/
theorem print_inj {l m : List (X × Bool)} (hl : ∀ p ∈ l, OkX p.1) (hm : ∀ p ∈ m, OkX p.1) (hl1 : l ≠ []) (hm1 : m ≠ []) (h : prParts 0 l = prParts 0 m) : l = m := by
  refine parts_read l m 0 hl hm ?_
  cases l with
  | nil => exact absurd rfl hl1
  | cons p l =>
    cases m with
    | nil => exact absurd rfl hm1
    | cons q m =>
      rw [prParts_one, prParts_one, h]
end Tr
end Go.Proofs.YtcgllipcnmlkbaaDoor
namespace Go.Proofs.YtcgllipcnmlkbaaDoor
namespace Tr
open Sets
/-- what is open, whether within [ ], whether the next byte is passed over -/
def scan : List Nat → Nat → Bool → Bool → Option (Nat × Bool)
  | [], o, b, _ => some (o, b)
  | _ :: r, o, b, true => scan r o b false
  | c :: r, o, b, false => if c = 92 then scan r o b true else if b then scan r o (decide (c ≠ 93)) false else if c = 91 then scan r o true false else if c = 40 then scan r (o + 1) b false else if c = 41 then (if o = 0 then none else scan r (o - 1) b false) else scan r o b false
/-- outside, l changes nothing -/
def Sg (l : List Nat) : Prop := ∀ o r, scan (l ++ r) o false false = scan r o false false
/-- within [ ], l changes nothing -/
def Si (l : List Nat) : Prop := ∀ o r, scan (l ++ r) o true false = scan r o true false
theorem Sg.nil : Sg [] := fun _ _ => rfl
theorem Si.nil : Si [] := fun _ _ => rfl
theorem Sg.append {l m : List Nat} (h : Sg l) (k : Sg m) : Sg (l ++ m) := fun o r => by rw [List.append_assoc, h, k]
theorem Si.append {l m : List Nat} (h : Si l) (k : Si m) : Si (l ++ m) := fun o r => by rw [List.append_assoc, h, k]
theorem Sg.cons {a : Nat} {l : List Nat} (h : Sg [a]) (k : Sg l) : Sg (a :: l) := Sg.append h k
theorem Si.cons {a : Nat} {l : List Nat} (h : Si [a]) (k : Si l) : Si (a :: l) := Si.append h k
theorem sg_one {a : Nat} (h : a ≠ 92 ∧ a ≠ 91 ∧ a ≠ 40 ∧ a ≠ 41) : Sg [a] := by
  intro o r
  simp [scan, h.1, h.2.1, h.2.2.1, h.2.2.2]
theorem si_one {a : Nat} (h : a ≠ 92 ∧ a ≠ 93) : Si [a] := by
  intro o r
  simp [scan, h.1, h.2]
theorem sg_skip (a : Nat) : Sg [92, a] := by intro o r; simp [scan]
theorem si_skip (a : Nat) : Si [92, a] := by intro o r; simp [scan]
theorem hex_ne (d : Nat) (h : d < 16) : hex d ≠ 92 ∧ hex d ≠ 91 ∧ hex d ≠ 40 ∧ hex d ≠ 41 ∧ hex d ≠ 93 := by unfold hex; split <;> omega
theorem esc_sg (c : Nat) (hc : c < 256) : Sg (esc marks c) := by
  have h1 := hex_ne (c / 16) (by omega)
  have h2 := hex_ne (c % 16) (by omega)
  unfold esc
  split
  · exact sg_skip c
  · rename_i hm
    split
    · exact Sg.append (sg_skip 120) ((sg_one ⟨h1.1, h1.2.1, h1.2.2.1, h1.2.2.2.1⟩).cons (sg_one ⟨h2.1, h2.2.1, h2.2.2.1, h2.2.2.2.1⟩))
    · refine sg_one ⟨?_, ?_, ?_, ?_⟩ <;> (intro e; rw [e] at hm; exact hm (by decide))
theorem esc_si (c : Nat) (hc : c < 256) : Si (esc inner c) := by
  have h1 := hex_ne (c / 16) (by omega)
  have h2 := hex_ne (c % 16) (by omega)
  unfold esc
  split
  · exact si_skip c
  · rename_i hm
    split
    · exact Si.append (si_skip 120) ((si_one ⟨h1.1, h1.2.2.2.2⟩).cons (si_one ⟨h2.1, h2.2.2.2.2⟩))
    · refine si_one ⟨?_, ?_⟩ <;> (intro e; rw [e] at hm; exact hm (by decide))
theorem oneRun_si (l : List Nat) (h : ∀ c ∈ l, c < 256) : Si (oneRun l) := by
  unfold oneRun
  refine (esc_si _ (getD_lt256 h _)).append (Si.append ?_ ?_)
  · split
    · exact si_one (by decide)
    · exact Si.nil
  · split
    · exact esc_si _ (getD_lt256 h _)
    · exact Si.nil
theorem runs_si : ∀ (f : Nat) (l : List Nat), (∀ c ∈ l, c < 256) → Si (runs f l) := by
  intro f
  induction f with
  | zero => intro l _; exact Si.nil
  | succ f ih =>
    intro l h
    cases l with
    | nil => exact Si.nil
    | cons a l => exact (oneRun_si _ (fun c hc => h c (List.mem_of_mem_take hc))).append (ih _ (fun c hc => h c (List.mem_of_mem_drop hc)))
theorem setPr_sg (s : Nat) : Sg (setPr s) := by
  have hl : ∀ c ∈ listN s, c < 256 := fun c hc => ((mem_listN s c).1 hc).1
  unfold setPr
  split
  · exact sg_one (by decide)
  · split
    · exact esc_sg _ (getD_lt256 hl _)
    · intro o r
      have := runs_si 256 (listN s) hl o (93 :: r)
      simp only [List.cons_append, List.append_assoc, List.nil_append]
      rw [scan, if_neg (by decide), if_neg (by decide), if_pos rfl, this]
      simp [scan]
theorem wr_sg (c : Bool) {l : List Nat} (h : Sg l) : Sg (wr c l) := by
  cases c
  · exact h
  · intro o r
    have := h (o + 1) (41 :: r)
    simp only [wr, if_true, List.cons_append, List.append_assoc, List.nil_append]
    rw [scan, if_neg (by decide), if_neg (by decide), if_neg (by decide), if_pos rfl, this]
    simp [scan]
theorem tm_sg (m n : Int) (h : countable m n = true) : Sg (tm m n) := by
  unfold countable at h
  unfold tm
  split
  · split <;> exact sg_one (by decide)
  · rename_i h1
    rw [if_neg h1] at h
    have h2 := of_decide_eq_true h
    split
    · exact sg_one (by decide)
    · refine (sg_one (by decide)).cons ((sg_one (by unfold dig; omega)).cons (Sg.append ?_ (sg_one (by decide))))
      split
      · exact (sg_one (by decide)).cons (sg_one (by unfold dig; omega))
      · exact Sg.nil
theorem prX_sg : ∀ x : X, OkX x → Sg (prX x) := by
  intro x
  induction x with
  | emp => intro _ o r; simp [prX, scan]
  | set s => intro _; exact setPr_sg s
  | seq a b iha ihb => intro h; exact (wr_sg _ (iha h.1)).append (wr_sg _ (ihb h.2))
  | alt a b iha ihb => intro h; exact (iha h.1).append ((sg_one (by decide)).cons (wr_sg _ (ihb h.2)))
  | tim a m n ih => intro h; exact (wr_sg _ (ih h.1)).append (tm_sg m n h.2)
theorem prParts_sg : ∀ (l : List (X × Bool)) (i : Nat), (∀ p ∈ l, OkX p.1) → Sg (prParts i l) := by
  intro l
  induction l with
  | nil => intro i _; exact Sg.nil
  | cons p l ih =>
    intro i h
    refine Sg.append ?_ (Sg.append ?_ ((prX_sg _ (h p (by simp))).append (ih _ (fun q hq => h q (by simp [hq])))))
    · split
      · exact sg_one (by decide)
      · exact Sg.nil
    · split
      · exact sg_one (by decide)
      · exact Sg.nil
theorem scan_all {l : List (X × Bool)} (h : ∀ p ∈ l, OkX p.1) : scan (prParts 0 l) 0 false false = some (0, false) := by
  have := prParts_sg l 0 h 0 []
  rw [List.append_nil] at this
  rw [this]; rfl
theorem prParts_ne {l : List (X × Bool)} (h : l ≠ []) : prParts 0 l ≠ [] := by
  cases l with
  | nil => exact absurd rfl h
  | cons p l =>
    obtain ⟨a, t, e, -⟩ := head_prX p.1
    simp [prParts, e]
end Tr
end Go.Proofs.YtcgllipcnmlkbaaDoor
namespace Go.Proofs.YtcgllipcnmlkbaaDoor
open Go.RowKit Sets Tr
theorem parts_ok {N : List Nd} {R : List (Int × Bool)} (h : Right N R) (hN : ∀ x ∈ N, NdOk x) : ∀ p ∈ parts N R, OkX p.1 := by
  intro p hp
  obtain ⟨q, hq, rfl⟩ := List.mem_map.1 hp
  have hq2 := h.rts q.1 (List.mem_map.2 ⟨q, hq, rfl⟩)
  obtain ⟨t, ht, hrt⟩ := is_of_low h.low q.1.toNat (by omega)
  show OkX (abs N (tr N q.1.toNat))
  rw [← hrt, tr_of ht]
  refine okX_abs h.snd (fun i hi => ?_) t ht
  exact (hN _ (by rw [List.getD_eq_getElem?_getD, List.getElem?_eq_getElem hi]; exact List.getElem_mem hi)).s
theorem parts_ne {N : List Nd} {R : List (Int × Bool)} (h : Right N R) : parts N R ≠ [] := by
  intro e
  have := congrArg List.length e
  have h1 := h.few.1
  unfold parts at this
  rw [List.length_map] at this
  simp at this
  rw [this] at h1
  simp at h1
/-- What TreePlain asks of a print. -/
theorem pr_facts {N : List Nd} {R : List (Int × Bool)} (hN : ∀ x ∈ N, NdOk x) : (∀ c ∈ prOf N R, 33 ≤ c ∧ c ≤ 126) ∧ scan (prOf N R) 0 false false = some (0, false) ∧ ((prOf N R).isEmpty = !rightB N R) ∧ dpOf N R ≤ N.length ∧ plOf N R ≤ 1073741824 := by
  by_cases h : Right N R
  · have hb := rightB_true h
    have e : prOf N R = prParts 0 (parts N R) := by unfold prOf; rw [hb]; rfl
    have hok := parts_ok h hN
    rw [e, hb]
    refine ⟨prParts_plain _ 0 hok, scan_all hok, ?_, ?_, ?_⟩
    · have := prParts_ne (parts_ne h)
      cases hh : prParts 0 (parts N R) with
      | nil => exact absurd hh this
      | cons a t => rfl
    · unfold dpOf; rw [hb]; exact depth_le h
    · unfold plOf; rw [hb]; exact Nat.min_le_right _ _
  · have hb := rightB_false h
    have e : prOf N R = [] := by unfold prOf; rw [hb]; rfl
    rw [e, hb]
    refine ⟨fun c hc => (by cases hc), rfl, rfl, ?_, ?_⟩
    · unfold dpOf; rw [hb]; exact Nat.zero_le _
    · unfold plOf; rw [hb]; exact Nat.zero_le _
theorem size_strN (P : List Nat) : (strN P).size = P.length := by
  unfold strN
  show (List.toArray _).size = _
  simp
theorem index_strN (P : List Nat) (hP : ∀ c ∈ P, c < 256) (k : Nat) (h : k < P.length) (w : World) : (Instr.index 9 (.string (strN P)) (.int .i64 k)).run Tryd.prog w = .ok (.int .u8 (P.getD k 0 : Nat)) w := by
  rw [run_index_string w _ _ _ _ Tryd.underlying9, dif_pos ⟨by omega, by rw [size_strN]; omega⟩]
  congr 3
  have hc := hP (P.getD k 0) (by rw [List.getD_eq_getElem?_getD, List.getElem?_eq_getElem h]; exact List.getElem_mem h)
  rw [List.getD_eq_getElem?_getD, List.getElem?_eq_getElem h, Option.getD_some] at hc ⊢
  have e : ((strN P)[k]'(by rw [size_strN]; exact h)).toNat = P[k] := by
    show ((P.map UInt8.ofNat).toArray[k]'(by simpa using h)).toNat = _
    simp only [List.getElem_toArray, List.getElem_map, UInt8.toNat_ofNat']
    omega
  simp only [Int.toNat_natCast]
  omega
theorem scan_step (c : Nat) (r : List Nat) (o : Nat) (b : Bool) : scan (c :: r) o b false = if c = 92 then scan r o b true else if b then scan r o (decide (c ≠ 93)) false else if c = 91 then scan r o true false else if c = 40 then scan r (o + 1) b false else if c = 41 then (if o = 0 then none else scan r (o - 1) b false) else scan r o b false := rfl
theorem scan_skip (c : Nat) (r : List Nat) (o : Nat) (b : Bool) : scan (c :: r) o b true = scan r o b false := rfl
theorem isEmpty_strN (P : List Nat) : (strN P).toList.isEmpty = P.isEmpty := by
  rw [ByteArray.toList_eq]
  unfold strN
  cases P <;> rfl
def Uns (w : World) (na pa : Option Addr) (nc pc : Nat) (N : List Nd) (R : List (Int × Bool)) : Prop :=
  greatB N.length R.length = false → NodesAt w (.slice na N.length nc) N ∧ PartsAt w (.slice pa R.length pc) R
end Go.Proofs.YtcgllipcnmlkbaaDoor
