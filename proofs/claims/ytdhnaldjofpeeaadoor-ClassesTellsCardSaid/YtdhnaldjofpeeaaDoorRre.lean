/- shibbolethref02.Refine. -/
import Derived.Test.YtdhnaldjofpeeaaDoorApt
import Derived.Test.YtdhnaldjofpeeaaDoorRef
namespace Go.Proofs.YtdhnaldjofpeeaaDoor
open Go.RowKit Sets Cls
/-- 256 numbers as an array's cells. -/
def arrI (f : Nat → Int) : Array Value := ((List.range 256).map fun c => Value.int .i64 (f c)).toArray
theorem arrI_size (f : Nat → Int) : (arrI f).size = 256 := by simp [arrI]
theorem arrI_get (f : Nat → Int) (c : Nat) (h : c < 256) : (arrI f)[c]? = some (.int .i64 (f c)) := by simp [arrI, h]
theorem arrI_congr (f g : Nat → Int) (h : ∀ c, c < 256 → f c = g c) : arrI f = arrI g := by
  unfold arrI
  congr 1
  apply List.map_congr_left
  intro c hc
  rw [h c (by simpa using hc)]
theorem arrI_set (f : Nat → Int) (c : Nat) (b : Int) : (arrI f).setIfInBounds c (.int .i64 b) = arrI (fun d => if d = c then b else f d) := by
  apply Array.ext
  · simp [arrI]
  · intro i h1 h2
    simp [arrI] at h2
    simp only [arrI, List.getElem_toArray, List.getElem_map, List.getElem_range]
    by_cases hi : c = i
    · subst hi; simp
    · have : ¬ i = c := fun e => hi e.symm
      simp [hi, this]
theorem arrI_one (f : Nat → Int) : (arrI f).all (·.oneCell') = true := by
  rw [Array.all_eq_true_iff_forall_mem]
  intro v hv
  simp [arrI] at hv
  obtain ⟨c, -, rfl⟩ := hv
  rfl
theorem zeroI (w : World) : (zeroValue 41).run Tryd.prog w = .ok (.agg (arrI fun _ => 0)) w := by
  rw [show arrI (fun _ => 0) = (List.replicate 256 (Value.int .i64 0)).toArray from by unfold arrI; rw [List.map_const', List.length_range]]
  kernel_rfl
theorem sizeI (f : Nat → Int) : (Tryd.prog.info? 41).map (·.size) = some (arrI f).size := by rw [arrI_size]; kernel_rfl
attribute [irreducible] arrI
/-- Block B holds 256 numbers. -/
def IntsAt (w : World) (B : Nat) (f : Nat → Int) : Prop := w.heap[B]? = some (.cells (arrI f) 41 (0, 0))
theorem IntsAt.lt {w : World} {B : Nat} {f : Nat → Int} (h : IntsAt w B f) : B < w.heap.size := (Array.getElem?_eq_some_iff.1 h).1
theorem IntsAt.kept {w w' : World} {A B : Nat} {f : Nat → Int} (h : IntsAt w B f) (hb : Below A w w') (hA : B < A) : IntsAt w' B f := by
  unfold IntsAt at *; rw [hb.block _ hA]; exact h
theorem IntsAt.cell {w : World} {B : Nat} {f : Nat → Int} (h : IntsAt w B f) (c : Nat) (hc : c < 256) : w.cell? ⟨B, c, none⟩ = some (.int .i64 (f c)) := (cell_of_row w B c _ _ _ h).trans (arrI_get f c hc)
theorem IntsAt.free {w : World} {B : Nat} {f : Nat → Int} (h : IntsAt w B f) (c : Nat) : w.frozen? ⟨B, c, none⟩ = false := frozen_of_row w B c _ _ h
theorem IntsAt.set {w : World} {B : Nat} {f : Nat → Int} (h : IntsAt w B f) (c : Nat) (b : Int) : IntsAt (w.setCell ⟨B, c, none⟩ (.int .i64 b)) B (fun d => if d = c then b else f d) := by
  unfold IntsAt at *
  rw [← arrI_set f c b]
  exact heap_setCell_same w B c _ _ _ h
theorem IntsAt.congr {w : World} {B : Nat} {f g : Nat → Int} (h : IntsAt w B f) (e : ∀ c, c < 256 → f c = g c) : IntsAt w B g := by
  unfold IntsAt at *; rw [← arrI_congr f g e]; exact h
def i64s (l : List Nat) : List Value := l.map fun (c : Nat) => Value.int .i64 c
theorem infoI : (Tryd.prog.info? 3).map (fun i => (i.zero, i.size, i.bytes)) = some (some (.int .i64 0), 1, 8) := by kernel_rfl
theorem infoT : (Tryd.prog.info? 57).map (fun i => (i.zero, i.size, i.bytes)) = some (some (.agg (arr fun _ => false)), 256, 256) := by
  rw [show arr (fun _ => false) = (List.replicate 256 (Value.bool false)).toArray from by unfold arr; rw [List.map_const', List.length_range]]
  kernel_rfl
theorem wpList_append_i64 {ops : Array Oper} {rest : List Oper} {o : Oper} {a : Act} {w : World} {Q : Exit → Act → World → Prop} (hgd : o.guard = none) (s x : Operand)
    (ho : o.op = .call { callee := .builtin .append, args := #[s, x], argTypes := #[59, 59] }) (base : Nat) (v : Value) (D : List Nat) (c : Nat) (hs : a.eval s = v)
    (hown : w.ownsRow base 3 1 v D.length (i64s D)) (hx : a.eval x = .slice (some ⟨w.heap.size, 0, none⟩) 1 1) (hD : D.length + 1 ≤ 17592186044416) (hbase : base ≤ w.heap.size)
    (h : ∀ v' w', w'.ownsRow base 3 1 v' (D ++ [c]).length (i64s (D ++ [c])) → w.grownBy w' v.ownBlock → wpList Tryd.prog ops Q rest (a.put o.dst v') w') :
    wpList Tryd.prog ops Q (o :: rest) a (w.alloc (.cells #[.int .i64 (c : Int)] 3)) := by
  obtain ⟨i0, hi, hz0, hz1, hz2⟩ := info_parts infoI
  refine wpList_append_own _ hgd s x 59 ho base 3 i0 (.int .i64 0) 1 8 Tryd.underlying59 hi hz0 hz1 hz2 rfl (by decide) v _ _ hs (hown.alloc _) ⟨w.heap.size, 0, none⟩ 1 1 [.int .i64 (c : Int)] hx rfl (cell_one_new _ _ _) ?_ ?_ ?_ ?_ ?_
  · intro u hu; simp at hu; subst hu; rfl
  · unfold maxLen; omega
  · omega
  · simp; omega
  · intro v' w' h1 h2 _
    refine h v' w' ?_ ?_
    · rw [show i64s (D ++ [c]) = i64s D ++ [.int .i64 (c : Int)] from by unfold i64s; rw [List.map_append]; rfl, List.length_append]
      exact h1
    · exact ⟨h2.os, h2.tape, h2.output, by have := h2.size; simp at this; omega, fun k hk hne => by rw [h2.block k (by simp; omega) hne]; exact Below.heap_alloc _ _ _ hk⟩
theorem wpList_append_row {ops : Array Oper} {rest : List Oper} {o : Oper} {a : Act} {w : World} {Q : Exit → Act → World → Prop} (hgd : o.guard = none) (s x : Operand)
    (ho : o.op = .call { callee := .builtin .append, args := #[s, x], argTypes := #[56, 56] }) (base : Nat) (v : Value) (L : List Nat) (S : Nat) (hs : a.eval s = v)
    (hown : w.ownsRow base 57 256 v L.length (boolsL L)) (hx : a.eval x = .slice (some ⟨w.heap.size, 0, none⟩) 1 1) (hD : L.length ≤ 1000) (hbase : base ≤ w.heap.size)
    (h : ∀ v' w', w'.ownsRow base 57 256 v' (L ++ [S]).length (boolsL (L ++ [S])) → Below base w w' → wpList Tryd.prog ops Q rest (a.put o.dst v') w') :
    wpList Tryd.prog ops Q (o :: rest) a (w.alloc (.cells (arr S.testBit) 57)) := by
  obtain ⟨i0, hi, hz0, hz1, hz2⟩ := info_parts infoT
  refine wpList_append_own _ hgd s x 56 ho base 57 i0 (.agg (arr fun _ => false)) 256 256 Tryd.underlying56 hi hz0 hz1 hz2 (arr_size _) (by decide) v _ _ hs (hown.alloc _) ⟨w.heap.size, 0, none⟩ 1 1 (arr S.testBit).toList hx (by rw [Array.length_toList, arr_size]) ?_ ?_ ?_ ?_ ?_ ?_
  · intro j u hj
    rw [Addr.add_lit, Nat.zero_add, cell_of_row _ _ _ _ _ _ (heap_alloc_new w _), ← Array.getElem?_toList]; exact hj
  · intro u hu
    exact (Array.all_eq_true_iff_forall_mem.1 (arr_one S.testBit)) u (by simpa using hu)
  · unfold maxLen; omega
  · omega
  · simp; omega
  · intro v' w' h1 h2 _
    refine h v' w' ?_ (((Below.refl _ _).alloc hbase _).grown h2 (by simp; omega) (fun j hj => (hown.lt j hj).1))
    rw [show boolsL (L ++ [S]) = boolsL L ++ (arr S.testBit).toList from by unfold boolsL; simp, List.length_append]
    exact h1
theorem fold_size (l : List (Value × Nat)) : ∀ (z : Array Value), (l.foldl (fun cs x => cs.setIfInBounds (0 + x.2) x.1) z).size = z.size := by
  induction l with
  | nil => intro z; rfl
  | cons x l ih => intro z; rw [List.foldl_cons, ih]; simp
theorem fold_get (l : List Value) : ∀ (k : Nat) (z : Array Value) (i : Nat), (((l.zipIdx k).foldl (fun cs x => cs.setIfInBounds (0 + x.2) x.1) z)[i]?) = if k ≤ i ∧ i < k + l.length ∧ i < z.size then l[i - k]? else z[i]? := by
  induction l with
  | nil => intro k z i; rw [if_neg (by simp; omega)]; rfl
  | cons x l ih =>
    intro k z i
    rw [List.zipIdx_cons, List.foldl_cons, ih, Array.size_setIfInBounds, Nat.zero_add]
    by_cases hi : i = k
    · subst hi
      rw [if_neg (by omega), Array.getElem?_setIfInBounds_self]
      by_cases hz : i < z.size
      · rw [if_pos hz, if_pos ⟨by omega, by simp, hz⟩, Nat.sub_self]; rfl
      · rw [if_neg hz, if_neg (by omega), Array.getElem?_eq_none (by omega)]
    · rw [Array.getElem?_setIfInBounds_ne (by omega)]
      by_cases h : k ≤ i ∧ i < k + (x :: l).length ∧ i < z.size
      · rw [if_pos h, if_pos (by simp at h; omega), show i - k = i - (k + 1) + 1 from by omega]; rfl
      · rw [if_neg h, if_neg (by simp at h; omega)]
theorem fill_whole (place : Nat → Option (Nat × Nat)) (z c : Array Value) (n : Nat) (hp : place 0 = some (0, n)) (hn : c.size = n) (hz : z.size = n) : Instr.fill place z [(0, .agg c)] = some c := by
  unfold Instr.fill
  rw [hp]
  show (if (decide (c.size ≠ n) || decide (0 + c.size > z.size)) = true then none else Instr.fill place _ []) = _
  rw [if_neg (by simp; omega)]
  unfold Instr.fill
  congr 1
  show (c.zipIdx.foldl (fun cs x => cs.setIfInBounds (0 + x.2) x.1) z) = c
  rw [← Array.foldl_toList, Array.toList_zipIdx]
  apply Array.ext_getElem?
  intro i
  rw [fold_get]
  by_cases h : i < n
  · rw [if_pos ⟨by omega, by rw [Array.length_toList]; omega, by omega⟩, Nat.sub_zero, Array.getElem?_toList]
  · rw [if_neg (by omega), Array.getElem?_eq_none (by omega), Array.getElem?_eq_none (by omega)]
theorem run_buildRow (p : Nat → Bool) (w : World) : (Instr.buildSlice 56 1 #[(0, .agg (arr p))]).run Tryd.prog w = .ok (.slice (some ⟨w.heap.size, 0, none⟩) 1 1) (w.alloc (.cells (arr p) 57)) := by
  have h1 : (underlying 56).run Tryd.prog w = .ok (.slice 57) w := by kernel_rfl
  have h2 : (sizeOf 57).run Tryd.prog w = .ok 256 w := by kernel_rfl
  have h3 : (zeroValue 57).run Tryd.prog w = .ok (.agg (List.replicate 256 (Value.bool false)).toArray) w := by kernel_rfl
  unfold Instr.buildSlice
  simp only [Sem.run_bind, h1, h2, Result.andThen_ok]
  rw [if_neg (by decide), if_neg (by decide)]
  simp only [Sem.run_bind, Sem.run_pure, h3, Result.andThen_ok]
  rw [fill_whole _ _ (arr p) 256 rfl (arr_size p) (by rw [Array.size_map, Array.size_range])]
  rfl
theorem wpList_buildRow {ops : Array Oper} {rest : List Oper} {o : Oper} {a : Act} {w : World} {Q : Exit → Act → World → Prop} (hgd : o.guard = none) (x : Operand)
    (ho : o.op = .buildSlice 56 1 #[(0, x)]) (p : Nat → Bool) (hx : a.eval x = .agg (arr p)) (h : wpList Tryd.prog ops Q rest (a.put o.dst (.slice (some ⟨w.heap.size, 0, none⟩) 1 1)) (w.alloc (.cells (arr p) 57))) : wpList Tryd.prog ops Q (o :: rest) a w := by
  refine wpList_plain hgd fun K hK => ?_
  unfold Oper.wp execOp
  simp only [ho]
  have e : (#[((0 : Nat), x)].map fun y : Nat × Operand => (y.1, a.eval y.2)) = #[(0, .agg (arr p))] := by simp [hx]
  rw [e]
  simp only [Sem.run_bind, Sem.run_pure, run_buildRow, Result.andThen_ok]
  exact hK _ _ h
end Go.Proofs.YtdhnaldjofpeeaaDoor
