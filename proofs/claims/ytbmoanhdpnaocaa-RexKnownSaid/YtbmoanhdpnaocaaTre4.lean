/- Nodes and parts that came in. -/
import Derived.Test.YtbmoanhdpnaocaaTreR
import Derived.Test.YtbmoanhdpnaocaaMix
namespace Go.Proofs.Ytbmoanhdpnaocaa
open Go.RowKit Sets Tr
def NodesAt (w : World) (v : Value) (N : List Nd) : Prop :=
  (∀ x ∈ N, NdOk x) ∧ N.length ≤ 700 ∧ ∃ a cap, v = .slice a N.length cap ∧ ∀ i, i < N.length → ∃ b o, a = some ⟨b, o, none⟩ ∧ w.rangeAt b (o + i * 9) (nd9 (N.getD i default))
def pt2 (p : Int × Bool) : List Value := [.int .i64 p.1, .bool p.2]
def PartsAt (w : World) (v : Value) (R : List (Int × Bool)) : Prop :=
  (∀ x ∈ R, I64 x.1) ∧ R.length ≤ 30 ∧ ∃ a cap, v = .slice a R.length cap ∧ ∀ i, i < R.length → ∃ b o, a = some ⟨b, o, none⟩ ∧ w.rangeAt b (o + i * 2) (pt2 (R.getD i default))
theorem range_kept {w w' : World} {b o : Nat} {l : List Value} (h : w.rangeAt b o l) (hb : Below w.heap.size w w') : w'.rangeAt b o l := by
  intro j v hv
  exact (hb.cell (World.block_lt_of_cell? _ _ (h j v hv))).trans (h j v hv)
theorem nd9_ne (x : Nd) : nd9 x ≠ [] := by unfold nd9; simp
theorem pt2_ne (p : Int × Bool) : pt2 p ≠ [] := by unfold pt2; simp
theorem NodesAt.kept {w w' : World} {v : Value} {N : List Nd} (h : NodesAt w v N) (hb : Below w.heap.size w w') : NodesAt w' v N := by
  obtain ⟨h1, h2, a, cap, rfl, hc⟩ := h
  refine ⟨h1, h2, a, cap, rfl, fun i hi => ?_⟩
  obtain ⟨b, o, e, hr⟩ := hc i hi
  exact ⟨b, o, e, range_kept hr hb⟩
theorem PartsAt.kept {w w' : World} {v : Value} {R : List (Int × Bool)} (h : PartsAt w v R) (hb : Below w.heap.size w w') : PartsAt w' v R := by
  obtain ⟨h1, h2, a, cap, rfl, hc⟩ := h
  refine ⟨h1, h2, a, cap, rfl, fun i hi => ?_⟩
  obtain ⟨b, o, e, hr⟩ := hc i hi
  exact ⟨b, o, e, range_kept hr hb⟩
theorem range_lt {w : World} {b o : Nat} {l : List Value} (h : w.rangeAt b o l) (hl : l ≠ []) : b < w.heap.size := by
  cases l with
  | nil => exact absurd rfl hl
  | cons v l => exact World.block_lt_of_cell? _ _ (h 0 v rfl)
theorem NodesAt.at {w : World} {N : List Nd} {a : Option Addr} {n c : Nat} (h : NodesAt w (.slice a n c) N) {i : Nat} (hi : i < N.length) : ∃ b o, a = some ⟨b, o, none⟩ ∧ w.rangeAt b (o + i * 9) (nd9 (N.getD i default)) ∧ NdOk (N.getD i default) := by
  obtain ⟨h1, -, a', cap, e, hc⟩ := h
  cases e
  obtain ⟨b, o, e, hr⟩ := hc i hi
  exact ⟨b, o, e, hr, h1 _ (by rw [List.getD_eq_getElem?_getD, List.getElem?_eq_getElem hi]; exact List.getElem_mem hi)⟩
theorem PartsAt.at {w : World} {N : List (Int × Bool)} {a : Option Addr} {n c : Nat} (h : PartsAt w (.slice a n c) N) {i : Nat} (hi : i < N.length) : ∃ b o, a = some ⟨b, o, none⟩ ∧ w.rangeAt b (o + i * 2) (pt2 (N.getD i default)) ∧ I64 (N.getD i default).1 := by
  obtain ⟨h1, -, a', cap, e, hc⟩ := h
  cases e
  obtain ⟨b, o, e, hr⟩ := hc i hi
  exact ⟨b, o, e, hr, h1 _ (by rw [List.getD_eq_getElem?_getD, List.getElem?_eq_getElem hi]; exact List.getElem_mem hi)⟩
theorem oneNode (x : Nd) : (nd9 x).toArray.all (·.oneCell') = true := by
  rw [Array.all_eq_true_iff_forall_mem]
  intro v hv
  simp [nd9] at hv
  rcases hv with rfl | rfl | rfl | rfl | rfl | rfl | rfl | rfl | rfl <;> rfl
def zero9 : Array Value := #[.int .u8 0, .int .u64 0, .int .u64 0, .int .u64 0, .int .u64 0, .int .i64 0, .int .i64 0, .int .i64 0, .int .i64 0]
/-- a node is stored where it was laid -/
theorem wpList_store_node {ops : Array Oper} {rest : List Oper} {o : Oper} {a : Act} {w : World} {Q : Exit → Act → World → Prop} (hgd : o.guard = none) (x y : Operand)
    (ho : o.op = .store 36 x y) (X : Nd) (hx : a.eval x = .pointer (some ⟨w.heap.size, 0, none⟩)) (hy : a.eval y = .agg (nd9 X).toArray)
    (h : wpList Try.prog ops Q rest (a.put o.dst undef) (w.alloc (.cells (nd9 X).toArray 36))) : wpList Try.prog ops Q (o :: rest) a (w.alloc (.cells zero9 36)) := by
  refine wpList_store_row hgd 36 x y ho w.heap.size (nd9 X).toArray hx hy 36 zero9 (heap_alloc_new w _) (by rw [List.size_toArray]; exact sizeNode X) rfl (oneNode X) ?_
  rw [World.setRow_alloc_new]
  exact h
theorem wpList_load_node {ops : Array Oper} {rest : List Oper} {o : Oper} {a : Act} {w : World} {Q : Exit → Act → World → Prop} (hgd : o.guard = none) (x : Operand) (ho : o.op = .load 36 x)
    (b q : Nat) (X : Nd) (hx : a.eval x = .pointer (some ⟨b, q, none⟩)) (hc : w.rangeAt b q (nd9 X)) (h : wpList Try.prog ops Q rest (a.put o.dst (.agg (nd9 X).toArray)) w) : wpList Try.prog ops Q (o :: rest) a w :=
  wpList_load_mid hgd 36 x ho b q hx (nd9 X) _ hc Try.underlying36 rfl (sizeNode X) h
theorem quiet_load_node {C : World → Prop} {a : Act} {K : Act → Prop} {o : Oper} (x : Operand) (ho : o.op = .load 36 x) (g : Nat) (X : Nd) (hx : a.eval x = .pointer (some ⟨g, 0, none⟩)) (hg : ∀ w, C w → BoxAt w g X)
    (h : K (a.put o.dst (.agg (nd9 X).toArray))) : o.quiet Try.prog a C K :=
  quiet_load_row 36 x ho g hx 36 (nd9 X).toArray (0, 0) _ (fun w hw => (hg w hw).row) Try.underlying36 rfl (by rw [List.size_toArray]; exact sizeNode X) h
noncomputable def rightB (N : List Nd) (R : List (Int × Bool)) : Bool := @decide (Right N R) (Classical.propDecidable _)
theorem rightB_true {N : List Nd} {R : List (Int × Bool)} (h : Right N R) : rightB N R = true := @decide_eq_true _ (Classical.propDecidable _) h
theorem rightB_false {N : List Nd} {R : List (Int × Bool)} (h : ¬ Right N R) : rightB N R = false := @decide_eq_false _ (Classical.propDecidable _) h
theorem rightB_iff {N : List Nd} {R : List (Int × Bool)} : rightB N R = true ↔ Right N R := @decide_eq_true_iff _ (Classical.propDecidable _)
theorem infoBool : (Try.prog.info? 4).map (fun i => (i.zero, i.size, i.bytes)) = some (some (.bool false), 1, 1) := by kernel_rfl
end Go.Proofs.Ytbmoanhdpnaocaa
