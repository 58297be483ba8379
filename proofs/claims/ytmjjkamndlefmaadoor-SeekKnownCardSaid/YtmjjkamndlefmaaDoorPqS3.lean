/- Several texts in one. -/
import Derived.Test.YtmjjkamndlefmaaDoorPqS0
import Derived.Test.YtmjjkamndlefmaaDoorPq34
import Derived.Maps.RangeRun
namespace Go.Proofs.YtmjjkamndlefmaaDoor
open Go.RowKit Sets Nf Df
namespace Sk
abbrev LdT := Nat → ByteArray × Nat
def entF (T : LdT) : Nat → List Nat → List MapEntry
  | _, [] => []
  | i, k :: l => { key := .int .i64 k, val := .agg (ldC (T k)), born := i } :: entF T (i + 1) l
theorem entF_length (T : LdT) : ∀ (l : List Nat) (i : Nat), (entF T i l).length = l.length
  | [], _ => rfl
  | _ :: l, i => by simp [entF, entF_length T l (i + 1)]
theorem entF_snoc (T : LdT) (k : Nat) : ∀ (l : List Nat) (i : Nat), entF T i (l ++ [k]) = entF T i l ++ [{ key := .int .i64 k, val := .agg (ldC (T k)), born := i + l.length }]
  | [], i => by simp [entF]
  | a :: l, i => by
    simp only [List.cons_append, entF, entF_snoc T k l (i + 1), List.length_cons]
    rw [show i + 1 + l.length = i + (l.length + 1) from by omega]
theorem entF_congr {T T' : LdT} : ∀ (l : List Nat) (i : Nat), (∀ k ∈ l, T k = T' k) → entF T i l = entF T' i l
  | [], _, _ => rfl
  | k :: l, i, h => by
    simp only [entF]
    rw [h k (List.mem_cons_self ..), entF_congr l (i + 1) (fun x hx => h x (List.mem_cons_of_mem _ hx))]
theorem entF_get (T : LdT) : ∀ (l : List Nat) (i j : Nat), j < l.length → (entF T i l)[j]? = some { key := .int .i64 (l.getD j 0 : Nat), val := .agg (ldC (T (l.getD j 0))), born := i + j }
  | [], _, _, h => absurd h (Nat.not_lt_zero _)
  | k :: l, i, 0, _ => by simp [entF]
  | k :: l, i, j + 1, h => by
    simp only [entF, List.getElem?_cons_succ]
    rw [entF_get T l (i + 1) j (by simpa using h), show i + 1 + j = i + (j + 1) from by omega]
    rfl
theorem entF_mem {T : LdT} {l : List Nat} {e : MapEntry} (h : e ∈ entF T 0 l) : ∃ j, j < l.length ∧ e = { key := .int .i64 (l.getD j 0 : Nat), val := .agg (ldC (T (l.getD j 0))), born := j } := by
  obtain ⟨j, hj⟩ := List.getElem?_of_mem h
  have hl : j < l.length := by have := (List.getElem?_eq_some_iff.1 hj).1; rwa [entF_length] at this
  rw [entF_get T l 0 j hl] at hj
  injection hj with hj
  exact ⟨j, hl, by rw [← hj, Nat.zero_add]⟩
theorem entF_born (T : LdT) : ∀ (l : List Nat) (i : Nat), (entF T i l).map (·.born) = List.range' i l.length
  | [], _ => rfl
  | k :: l, i => by simp [entF, entF_born T l (i + 1), List.range'_succ]
theorem checkI (em : Bool) (k : Int) (w : World) : (Instr.checkKey em 10000 3 (.int .i64 k)).run Tryd.prog w = .ok () w := by
  rw [Instr.checkKey]
  simp only [Sem.run_bind, run_underlying Tryd.underlying3, Result.andThen_ok]
  simp
theorem findF (T : LdT) (k : Nat) : ∀ (l : List Nat) (i : Nat), Instr.findNow (.int .i64) (.int .i64 k) (entF T i l) i = some (if k ∈ l then some (i + ix l k, Value.agg (ldC (T k))) else none)
  | [], i => by simp [entF, Instr.findNow]
  | q :: l, i => by
    simp only [entF]
    unfold Instr.findNow
    have ih := findF T k l (i + 1)
    by_cases hq : k = q
    · subst hq
      simp [Instr.sameNow, ix]
    · have hb : (((k : Nat) : Int) == ((q : Nat) : Int)) = false := by rw [beq_eq_false_iff_ne]; omega
      have h3 : ¬ q = k := fun e => hq e.symm
      simp only [Instr.sameNow, if_true, hb, ih]
      have e1 : ix (q :: l) k = ix l k + 1 := by show (if q = k then 0 else ix l k + 1) = _; rw [if_neg h3]
      rw [e1]
      by_cases hm : k ∈ l
      · rw [if_pos hm, if_pos (List.mem_cons_of_mem _ hm), show i + 1 + ix l k = i + (ix l k + 1) from by omega]
      · rw [if_neg hm, if_neg (by simp [hq, hm])]
theorem findK (T : LdT) (k : Nat) (l : List Nat) (w : World) : (Instr.findKey 3 (.int .i64 k) (entF T 0 l)).run Tryd.prog w = .ok (if k ∈ l then some (ix l k, Value.agg (ldC (T k))) else none) w := by
  unfold Instr.findKey
  have hf := findF T k l 0
  simp only [Nat.zero_add] at hf
  simp only [Sem.run_bind, run_underlying Tryd.underlying3, Result.andThen_ok, hf, Sem.run_pure]
structure MapF (W : World) (g : Nat) (K : List Nat) (T : LdT) : Prop where
  row : W.heap[g]? = some (.map (entF T 0 K).toArray K.length)
  nd : K.Nodup
theorem MapF.lt {W : World} {g : Nat} {K : List Nat} {T : LdT} (h : MapF W g K T) : g < W.heap.size := (Array.getElem?_eq_some_iff.1 h.row).1
theorem MapF.of {W W' : World} {g : Nat} {K : List Nat} {T : LdT} (h : MapF W g K T) (e : W'.heap[g]? = W.heap[g]?) : MapF W' g K T := ⟨e.trans h.row, h.nd⟩
theorem MapF.made (w : World) (T : LdT) : MapF (w.alloc (.map #[] 0)) w.heap.size [] T := ⟨heap_alloc_new w _, List.nodup_nil⟩
theorem zeroL (w : World) : (zeroValue 113).run Tryd.prog w = .ok (.agg #[.string ⟨#[]⟩, .int .u8 0]) w := by kernel_rfl
/-- What a look into the front says. -/
def lookF (K : List Nat) (T : LdT) (k : Nat) : Array Value := if k ∈ K then ldC (T k) else ldC (⟨#[]⟩, 0)
theorem MapF.look {W : World} {g : Nat} {K : List Nat} {T : LdT} (h : MapF W g K T) (k : Nat) :
    (Instr.lookup 75 (.map (some g)) (.int .i64 k) true).run Tryd.prog W = .ok (.tuple #[.agg (lookF K T k), .bool (decide (k ∈ K))]) W := by
  unfold Instr.lookup
  have hc := fun em => checkI em k W
  have hf := findK T k K W
  have hz := zeroL W
  simp only [Sem.run_bind, run_underlying Tryd.underlying75, Result.andThen_ok, getObj_run h.row, Sem.run_pure, hc, hf]
  unfold lookF
  by_cases hm : k ∈ K
  · simp [hm]
  · simp [hm, hz, ldC]
theorem ix_getD {l : List Nat} {k : Nat} (h : k ∈ l) : l.getD (ix l k) 0 = k := by
  have := ix_get h
  rw [List.getD_eq_getElem?_getD, this]; rfl
theorem entF_modify (T : LdT) (k : Nat) (v : ByteArray × Nat) {l : List Nat} (hn : l.Nodup) (h : k ∈ l) :
    (entF T 0 l).toArray.modify (ix l k) (fun e => { e with key := .int .i64 k, val := .agg (ldC v) }) = (entF (fun j => if j = k then v else T j) 0 l).toArray := by
  refine Array.ext_getElem? fun i => ?_
  rw [Array.getElem?_modify, List.getElem?_toArray, List.getElem?_toArray]
  by_cases hi : i < l.length
  · rw [entF_get _ _ _ _ hi, entF_get _ _ _ _ hi]
    by_cases e : ix l k = i
    · rw [if_pos e, Option.map_some]
      subst e
      rw [ix_getD h, if_pos rfl]
    · rw [if_neg e]
      have : ¬ l.getD i 0 = k := fun e2 => e (by
        refine ix_at hn ?_
        rw [← e2, List.getD_eq_getElem?_getD, List.getElem?_eq_getElem hi]; rfl)
      rw [if_neg this]
  · rw [List.getElem?_eq_none (by rw [entF_length]; omega), List.getElem?_eq_none (by rw [entF_length]; omega)]
    split <;> rfl
theorem MapF.put {W : World} {g : Nat} {K : List Nat} {T : LdT} (h : MapF W g K T) (k : Nat) (v : ByteArray × Nat) :
    ∃ W', (Instr.mapUpdate 75 (.map (some g)) (.int .i64 k) (.agg (ldC v))).run Tryd.prog W = .ok () W' ∧ MapF W' g (if k ∈ K then K else K ++ [k]) (fun j => if j = k then v else T j) ∧ But g W W' := by
  have hc := fun em => checkI em k W
  have hf := findK T k K W
  have hrow := h.row
  by_cases hm : k ∈ K
  · rw [if_pos hm] at hf
    refine ⟨ChangeMaps.setBlock W g (.map (entF (fun j => if j = k then v else T j) 0 K).toArray K.length), ?_, ?_, ⟨rfl, rfl, rfl, by simp [ChangeMaps.setBlock], fun i _ hi => ChangeMaps.heap_setBlock_other hrow _ hi⟩⟩
    · unfold Instr.mapUpdate
      have hkey : ((((entF T 0 K).toArray[ix K k]?).map (·.key)).getD (.int .i64 k)) = .int .i64 k := by
        rw [List.getElem?_toArray, entF_get T K 0 _ (ix_lt hm), ix_getD hm]; rfl
      simp only [Sem.run_bind, run_underlying Tryd.underlying75, Result.andThen_ok, getObj_run hrow, hc, hf, hkey]
      have hst : (Instr.keyThatStays (.int .i64 k) (.int .i64 k)).run Tryd.prog W = .ok (.int .i64 (k : Int)) W := by
        unfold Instr.keyThatStays
        simp [Instr.sameBits]
      rw [hst]
      simp only [Result.andThen_ok]
      rw [entF_modify T k v h.nd hm]
      exact MapKept.run_setObj_map _ hrow
    · rw [if_pos hm]
      exact ⟨ChangeMaps.heap_setBlock_same hrow _, h.nd⟩
  · rw [if_neg hm] at hf
    refine ⟨ChangeMaps.setBlock W g (.map (entF (fun j => if j = k then v else T j) 0 (K ++ [k])).toArray (K ++ [k]).length), ?_, ?_, ⟨rfl, rfl, rfl, by simp [ChangeMaps.setBlock], fun i _ hi => ChangeMaps.heap_setBlock_other hrow _ hi⟩⟩
    · unfold Instr.mapUpdate
      simp only [Sem.run_bind, run_underlying Tryd.underlying75, Result.andThen_ok, getObj_run hrow, hc, hf]
      rw [show (entF T 0 K).toArray.push { key := .int .i64 k, val := .agg (ldC v), born := K.length } = (entF (fun j => if j = k then v else T j) 0 (K ++ [k])).toArray from by
        rw [entF_snoc, List.push_toArray, if_pos rfl, Nat.zero_add, ← entF_congr (T := T) (T' := fun j => if j = k then v else T j) K 0 (fun q hq => (if_neg (fun e : q = k => hm (e ▸ hq))).symm)]]
      rw [List.length_append, List.length_singleton]
      exact MapKept.run_setObj_map _ hrow
    · rw [if_neg hm]
      refine ⟨ChangeMaps.heap_setBlock_same hrow _, ?_⟩
      rw [List.nodup_append]
      refine ⟨h.nd, by simp, fun a ha b hb => ?_⟩
      rw [List.mem_singleton] at hb
      rintro rfl
      exact hm (hb ▸ ha)
/-- Block r goes through the front in block g; D are done. -/
structure ItF (W : World) (r g : Nat) (K : List Nat) (T : LdT) (D : List Nat) : Prop where
  it : ∃ seen c0, W.heap[r]? = some (.mapIter (some g) K.length seen c0) ∧ K.length ≤ c0 ∧ ∀ i, i < K.length → (seen.contains i = true ↔ K.getD i 0 ∈ D)
  mp : MapF W g K T
theorem ItF.ne {W : World} {r g : Nat} {K D : List Nat} {T : LdT} (h : ItF W r g K T D) : r ≠ g := by
  obtain ⟨seen, c0, h1, -⟩ := h.it
  intro e
  rw [e, h.mp.row] at h1
  cases h1
theorem ItF.lt {W : World} {r g : Nat} {K D : List Nat} {T : LdT} (h : ItF W r g K T D) : r < W.heap.size := by
  obtain ⟨seen, c0, h1, -⟩ := h.it
  exact (Array.getElem?_eq_some_iff.1 h1).1
theorem ItF.of {W W' : World} {r g : Nat} {K D : List Nat} {T : LdT} (h : ItF W r g K T D) (e1 : W'.heap[r]? = W.heap[r]?) (e2 : W'.heap[g]? = W.heap[g]?) : ItF W' r g K T D := by
  obtain ⟨seen, c0, h1, h2⟩ := h.it
  exact ⟨⟨seen, c0, e1.trans h1, h2⟩, h.mp.of e2⟩
theorem MapF.range {W : World} {g : Nat} {K : List Nat} {T : LdT} (h : MapF W g K T) :
    (Instr.range 75 (.map (some g))).run Tryd.prog W = .ok (.pointer (some ⟨W.heap.size, 0, none⟩)) (W.alloc (.mapIter (some g) K.length #[] K.length)) ∧ ItF (W.alloc (.mapIter (some g) K.length #[] K.length)) W.heap.size g K T [] :=
  ⟨run_range_map W 75 3 113 g _ _ Tryd.underlying75 h.row, ⟨#[], K.length, heap_alloc_new W _, Nat.le_refl _, fun i _ => by simp⟩, h.of (heap_alloc_old W _ h.lt)⟩
theorem left_mem {T : LdT} {K : List Nat} {seen : Array Nat} {e : MapEntry} (he : e ∈ (leftOf (entF T 0 K).toArray seen).toList) : ∃ j, j < K.length ∧ e = { key := .int .i64 (K.getD j 0 : Nat), val := .agg (ldC (T (K.getD j 0))), born := j } ∧ seen.contains j = false := by
  obtain ⟨h1, h2⟩ := mem_left he
  obtain ⟨j, hj, rfl⟩ := entF_mem (by simpa using h1)
  exact ⟨j, hj, rfl, h2⟩
theorem rangeLeft_is {W : World} {g r c b d : Nat} {es : Array MapEntry} {a : Option Nat} {seen : Array Nat} (h : W.heap[g]? = some (.map es c)) (h' : W.heap[r]? = some (.mapIter a b seen d)) : W.rangeLeft g r = (leftOf es seen).size := by
  unfold World.rangeLeft
  rw [h, h']
/-- THE STEP. -/
theorem ItF.next {W : World} {r g : Nat} {K D : List Nat} {T : LdT} (h : ItF W r g K T D) :
    ((∀ k ∈ K, k ∈ D) ∧ ∀ ty, (Instr.next (.pointer (some ⟨r, 0, none⟩)) false ty).run Tryd.prog W = .ok (.tuple #[.bool false]) W) ∨
    ∃ k W', k ∈ K ∧ k ∉ D ∧ (∀ ty, (Instr.next (.pointer (some ⟨r, 0, none⟩)) false ty).run Tryd.prog W = .ok (.tuple #[.bool true, .int .i64 k, .agg (ldC (T k))]) W') ∧ ItF W' r g K T (D ++ [k]) ∧ But r W W' ∧ W'.rangeLeft g r < W.rangeLeft g r ∧
      (Instr.entry (.pointer (some ⟨r, 0, none⟩))).run Tryd.prog W' = .ok (.tuple #[.int .i64 k, .agg (ldC (T k))]) W' := by
  have hne := h.ne
  obtain ⟨seen, c0, h1, h2, h3⟩ := h.it
  have hold : ∀ x ∈ (entF T 0 K).toArray.toList, x.born < K.length := fun x hx => by
    obtain ⟨j, hj, rfl⟩ := entF_mem (by simpa using hx)
    exact hj
  rcases run_next_at (P := Tryd.prog) W 0 r g K.length c0 seen (entF T 0 K).toArray K.length h1 h.mp.row hold h2 with ⟨h0, hrun⟩ | ⟨e, he, w1, hal, hrun⟩
  · refine .inl ⟨fun k hk => ?_, fun ty => hrun⟩
    obtain ⟨j, hj⟩ := List.getElem?_of_mem hk
    have hjl := (List.getElem?_eq_some_iff.1 hj).1
    have hg : K.getD j 0 = k := by rw [List.getD_eq_getElem?_getD, hj]; rfl
    have := all_seen (entF T 0 K).toArray seen h0 _ (by rw [List.toList_toArray]; exact List.mem_of_getElem? (entF_get T K 0 j hjl))
    rw [← hg]
    refine (h3 j hjl).1 ?_
    simpa using this
  · obtain ⟨j, hj, rfl, hs⟩ := left_mem he
    have hr1 : w1.heap[r]? = some (.mapIter (some g) K.length seen c0) := by rcases hal with rfl | rfl <;> exact h1
    have hb1 : w1.heap[g]? = some (.map (entF T 0 K).toArray K.length) := by rcases hal with rfl | rfl <;> exact h.mp.row
    have hset := MapKept.heap_set (o' := .mapIter (some g) K.length (seen.push j) K.length) hr1
    have hnd : (K.getD j 0) ∉ D := fun hd => by
      have := (h3 j hj).2 hd
      rw [hs] at this; cases this
    have hbut : But r W (ChangeMaps.setBlock w1 r (.mapIter (some g) K.length (seen.push j) K.length)) := by
      rcases hal with rfl | rfl <;> exact ⟨rfl, rfl, rfl, by simp [ChangeMaps.setBlock], fun i _ hi => hset.2 i hi⟩
    have hmp' : MapF (ChangeMaps.setBlock w1 r (.mapIter (some g) K.length (seen.push j) K.length)) g K T := h.mp.of (hbut.block g h.mp.lt (fun e => hne e.symm))
    refine .inr ⟨K.getD j 0, _, getD_mem hj, hnd, fun ty => hrun, ⟨⟨seen.push j, K.length, hset.1, Nat.le_refl _, fun i hi => ?_⟩, hmp'⟩, hbut, ?_, ?_⟩
    · rw [contains_push, Bool.or_eq_true, beq_iff_eq, h3 i hi, List.mem_append, List.mem_singleton]
      constructor
      · rintro (h4 | rfl)
        · exact .inl h4
        · exact .inr rfl
      · rintro (h4 | h4)
        · exact .inl h4
        · refine .inr ?_
          have e1 := ix_at h.mp.nd (show K[i]? = some (K.getD i 0) by rw [List.getD_eq_getElem?_getD, List.getElem?_eq_getElem hi]; rfl)
          have e2 := ix_at h.mp.nd (show K[j]? = some (K.getD j 0) by rw [List.getD_eq_getElem?_getD, List.getElem?_eq_getElem hj]; rfl)
          rw [← e1, ← e2, h4]
    · rw [rangeLeft_is h.mp.row h1]
      exact Nat.lt_of_le_of_lt (Nat.le_of_eq (rangeLeft_is hmp'.row hset.1)) (left_shrinks _ _ _ he)
    · exact run_entry_at _ r g K.length seen (entF T 0 K).toArray K.length _ hset.1 hmp'.row (by rw [List.toList_toArray]; exact List.mem_of_getElem? (by have := entF_get T K 0 j hj; rwa [Nat.zero_add] at this)) (by rw [List.toList_toArray, entF_born]; exact List.nodup_range')
end Sk
end Go.Proofs.YtmjjkamndlefmaaDoor
namespace Go.Proofs.YtmjjkamndlefmaaDoor
open Go.RowKit Sets Nf Df
namespace Sk
/-- the cells of a walk -/
def wkC (x : Ma) (m : Mc) (gs : Nat) : Array Value := #[.slice x.sa m.sp.length x.sc, .slice x.fa m.fi.length x.fc, .slice x.oa m.fo.length x.oc, .slice x.la m.la.length x.lc, .bool m.em, .slice (some ⟨gs, 0, none⟩) m.sp.length m.sp.length]
structure BoxW (w : World) (B : Nat) (x : Ma) (m : Mc) (gs : Nat) : Prop where
  row : w.heap[B]? = some (.cells (wkC x m gs) 73 (0, 0))
section
variable {w : World} {B gs : Nat} {x : Ma} {m : Mc}
theorem BoxW.lt (h : BoxW w B x m gs) : B < w.heap.size := (Array.getElem?_eq_some_iff.1 h.row).1
theorem BoxW.cell (h : BoxW w B x m gs) (q : Nat) (v : Value) (hv : (wkC x m gs)[q]? = some v) : w.cell? ⟨B, q, none⟩ = some v := by
  rw [cell_of_row w B q _ _ _ h.row]; exact hv
theorem BoxW.c0 (h : BoxW w B x m gs) : w.cell? ⟨B, 0, none⟩ = some (.slice x.sa m.sp.length x.sc) := h.cell 0 _ rfl
theorem BoxW.c2 (h : BoxW w B x m gs) : w.cell? ⟨B, 2, none⟩ = some (.slice x.oa m.fo.length x.oc) := h.cell 2 _ rfl
theorem BoxW.c3 (h : BoxW w B x m gs) : w.cell? ⟨B, 3, none⟩ = some (.slice x.la m.la.length x.lc) := h.cell 3 _ rfl
theorem BoxW.c5 (h : BoxW w B x m gs) : w.cell? ⟨B, 5, none⟩ = some (.slice (some ⟨gs, 0, none⟩) m.sp.length m.sp.length) := h.cell 5 _ rfl
end
/-- All that stood below is as it was, but for blocks a and b. -/
structure Off (a b : Nat) (w w' : World) : Prop where
  os : w'.os = w.os
  tape : w'.tape = w.tape
  output : w'.output = w.output
  size : w.heap.size ≤ w'.heap.size
  block : ∀ k, k < w.heap.size → k ≠ a → k ≠ b → w'.heap[k]? = w.heap[k]?
theorem Off.refl (a b : Nat) (w : World) : Off a b w w := ⟨rfl, rfl, rfl, Nat.le_refl _, fun _ _ _ _ => rfl⟩
theorem Off.trans {a b : Nat} {u v w : World} (h : Off a b u v) (k : Off a b v w) : Off a b u w :=
  ⟨k.os.trans h.os, k.tape.trans h.tape, k.output.trans h.output, Nat.le_trans h.size k.size, fun i hi ha hb => (k.block i (Nat.lt_of_lt_of_le hi h.size) ha hb).trans (h.block i hi ha hb)⟩
theorem Off.of_below {a b : Nat} {w w' : World} (h : Below w.heap.size w w') : Off a b w w' := ⟨h.os, h.tape, h.output, h.size, fun k hk _ _ => h.block k hk⟩
theorem Off.left {a b : Nat} {w w' : World} (h : But a w w') : Off a b w w' := ⟨h.os, h.tape, h.output, h.size, fun k hk ha _ => h.block k hk ha⟩
theorem Off.right {a b : Nat} {w w' : World} (h : But b w w') : Off a b w w' := ⟨h.os, h.tape, h.output, h.size, fun k hk _ hb => h.block k hk hb⟩
/-- Where block b is newer than w1, all of w1 but a stands. -/
theorem Off.but {a b : Nat} {w1 w w' : World} (h : But a w1 w) (k : Off a b w w') (hb : w1.heap.size ≤ b) : But a w1 w' :=
  ⟨k.os.trans h.os, k.tape.trans h.tape, k.output.trans h.output, Nat.le_trans h.size k.size, fun i hi ha => (k.block i (Nat.lt_of_lt_of_le hi h.size) ha (by omega)).trans (h.block i hi ha)⟩
/-- What the walk finds in each world. -/
structure Env (w : World) (B gs : Nat) (x : Ma) (m : Mc) : Prop where
  box : BoxW w B x m gs
  mat : MAt w x m
  tab : Tab w
theorem sizeLd (l : ByteArray × Nat) : (Tryd.prog.info? 113).map (·.size) = some (ldC l).size := by
  show _ = some 2
  kernel_rfl
theorem oneLd (l : ByteArray × Nat) : (ldC l).all (·.oneCell') = true := by simp [ldC, Value.oneCell']
theorem wpList_lay_lead {ops : Array Oper} {rest : List Oper} {o : Oper} {a : Act} {w : World} {Q : Exit → Act → World → Prop} (hgd : o.guard = none) (x y : Operand)
    (ho : o.op = .store 113 x y) (l : ByteArray × Nat) (hx : a.eval x = .pointer (some ⟨w.heap.size, 0, none⟩)) (hy : a.eval y = .agg (ldC l))
    (h : wpList Tryd.prog ops Q rest (a.put o.dst undef) (w.alloc (.cells (ldC l) 113))) : wpList Tryd.prog ops Q (o :: rest) a (w.alloc (.cells #[.string ⟨#[]⟩, .int .u8 0] 113)) := by
  refine wpList_store_row hgd 113 x y ho w.heap.size (ldC l) hx hy 113 _ (heap_alloc_new w _) (sizeLd l) rfl (oneLd l) ?_
  rw [World.setRow_alloc_new]
  exact h
def lkF (K : List Nat) (T : LdT) (k : Nat) : ByteArray × Nat := if k ∈ K then T k else (⟨#[]⟩, 0)
theorem lookF_eq (K : List Nat) (T : LdT) (k : Nat) : lookF K T k = ldC (lkF K T k) := by unfold lookF lkF; split <;> rfl
theorem buildL (s : ByteArray) (b : Int) (w : World) : (Instr.build 113 #[(0, .string s), (1, .int .u8 b)]).run Tryd.prog w = .ok (.agg #[.string s, .int .u8 b]) w := by kernel_rfl
theorem zero_wd (i : Nat) : wd 0 i = 0 := by unfold wd; simp
/-- First tells the least byte, and whether there is one. -/
theorem first_is (S : Nat) (hS : S < 2 ^ 256) (w : World) (hT : Tab w) (hg : 0 < w.heap.size) :
    Calls Tryd.prog 59 #[.agg (setC S)] w fun e w' => e = .returned (.tuple #[.int .u8 (lb S), .bool (decide (S ≠ 0))]) ∧ Below w.heap.size w w' := by
  by_cases h : S = 0
  · subst h
    have := first_none 0 w (zero_wd 0) (zero_wd 1) (zero_wd 2) (zero_wd 3)
    rw [lb_zero]
    exact this
  · obtain ⟨h1, h2⟩ := lb_full hS h
    rw [decide_eq_true h]
    exact first_some S (lb S) w h2 h1 (fun d hd => by
      cases hb : S.testBit d with
      | false => rfl
      | true => have := (lb_bit hS hb).2.1; omega) hT hg
/-- One list, on the way. -/
def entL (m : Mc) (ahead : ByteArray) (F : Fr) (l : List Int) : Fr := (l.map fun k => (ahead, k.toNat)).foldl (ent m) F
theorem entL_snoc (m : Mc) (ahead : ByteArray) (F : Fr) (l : List Int) (i : Nat) (h : i < l.length) : entL m ahead F (l.take (i + 1)) = ent m (entL m ahead F (l.take i)) (ahead, (l.getD i 0).toNat) := by
  unfold entL
  rw [List.take_succ_eq_append_getElem h, List.map_append, List.foldl_append, List.getD_eq_getElem?_getD, List.getElem?_eq_getElem h]; rfl
set_option maxHeartbeats 12800000 in
set_option maxRecDepth 100000 in
theorem enter_any (w1 : World) (B gs : Nat) (x : Ma) (m : Mc) (HQ : ∀ W, But gs w1 W → Env W B gs x m) (hf : Fine m) (F : Fr) (g : Nat) (a : Option Addr) (cap : Nat) (l : List Int) (ahead : ByteArray) (w : World)
    (hb : But gs w1 w) (hg : w1.heap.size ≤ g) (hgs : gs < w1.heap.size) (hm : MapF w g F.K F.T) (hs : w.rowIs gs 4 m.sp.length (fun k => .bool (F.s k))) (hl : ∀ W, But gs w1 W → NumsIn W a l) (hlr : ∀ k ∈ l, 0 ≤ k ∧ k < (m.sp.length : Int)) (hll : l.length ≤ 1000) :
    Calls Tryd.prog 35 #[.pointer (some ⟨B, 0, none⟩), .map (some g), .slice a l.length cap, .string ahead] w fun e w' => e = .returned (.tuple #[]) ∧ MapF w' g (entL m ahead F l).K (entL m ahead F l).T ∧ w'.rowIs gs 4 m.sp.length (fun k => .bool ((entL m ahead F l).s k)) ∧ Off gs g w w' := by
  have HQ := Lib.hid HQ
  have HF := Lib.hid hf
  have HB0 := Lib.hid hb
  have HG := Lib.hid hg
  have HGS := Lib.hid hgs
  have HM0 := Lib.hid hm
  have HS0 := Lib.hid hs
  have HL := Lib.hid hl
  have HLR := Lib.hid hlr
  have HLL := Lib.hid hll
  have hbl := buildL
  clear hf hb hg hgs hm hs hl hlr hll
  go_enter Tryd.func35, Tryd.ntmps35
  go_upto_region 1 with fail
  go_loopw [16] (fun i wr => ∃ j : Nat, i = .int .i64 j ∧ j ≤ l.length ∧ Hid (MapF wr g (entL m ahead F (l.take j)).K (entL m ahead F (l.take j)).T) ∧ Hid (wr.rowIs gs 4 m.sp.length (fun k => .bool ((entL m ahead F (l.take j)).s k))) ∧ Hid (Off gs g w wr)) (fun i _ => ((l.length : Int) - intOf i).toNat)
  case atStart => exact ⟨0, rfl, Nat.zero_le _, HM0, HS0, Lib.hid (Off.refl _ _ _)⟩
  case round =>
    obtain ⟨j, rfl, hj, HM, HS, HO⟩ := hrel
    generalize hwr : wr = w2 at *
    clear hwr wr HM0 HS0
    by_cases hlt : j < l.length
    · have hdd : decide ((j : Int) < (l.length : Int)) = true := decide_eq_true (by omega)
      have hd2 : decide (j < l.length) = true := decide_eq_true hlt
      have hji : (j : Int) < (l.length : Int) := by omega
      have HJ := Lib.hid hlt
      have HW1 : Hid (wrap64 ((j : Int) + 1) = ((j + 1 : Nat) : Int)) := Lib.hid (nat_wrap (by have := HLL.out; omega))
      have HB := Lib.hid (HO.out.but HB0.out HG.out)
      obtain ⟨bb, oo, ha, hcl⟩ := HL.out _ HB.out j hlt
      obtain ⟨k, hk⟩ : ∃ k : Nat, l.getD j 0 = (k : Int) := ⟨(l.getD j 0).toNat, by have := (HLR.out _ (getD_mem (d := 0) hlt)).1; omega⟩
      have HKN : Hid (k < m.sp.length) := Lib.hid (by have := (HLR.out _ (getD_mem (d := 0) hlt)).2; rw [hk] at this; omega)
      have HST := Lib.hid (entL_snoc m ahead F l j hlt)
      rw [hk] at hcl HST
      rw [Int.toNat_natCast] at HST
      have hkn : (k : Int) < (m.sp.length : Int) := by have := HKN.out; omega
      have henv := HQ.out _ HB.out
      have HE := Lib.hid henv
      have c0 := henv.box.c0
      obtain ⟨b2, o2, hsa, hrow⟩ := henv.mat.sp k HKN.out
      rw [hsa] at c0
      have HRG := Lib.hid (spot_set hrow)
      have HSL : Hid ((m.sp.getD k (0, 0)).1 < 2 ^ 256) := Lib.hid (HF.out.set _ (getD_mem HKN.out)).1
      have hst : (m.sp.getD k (0, 0)).1 = stN m k := rfl
      rw [hst] at HRG HSL
      have HFI := Lib.hid (first_is (stN m k) HSL.out w2 henv.tab (World.block_lt_of_cell? _ _ (henv.tab 0 (by decide))))
      obtain ⟨fu, hfu⟩ : ∃ fu, Hid (decide (stN m k ≠ 0) = fu) := ⟨_, Lib.hid rfl⟩
      rw [hfu.out] at HFI
      have HSA := Lib.hid hsa
      have HA := Lib.hid ha
      rw [HA.out]
      clear henv hrow hsa ha hst hlt hk
      generalize hG : entL m ahead F (l.take j) = G at *
      clear hG
      go_upto_region 4 with (first
        | (refine wpList_load_mid rfl 54 _ rfl b2 (o2 + k * 5) rfl (setC (stN m k)).toList _ HRG.out Tryd.underlying54 rfl (sizeSetL _) ?_; rw [show (setC (stN m k)).toList.toArray = setC (stN m k) from rfl])
        | (go_at_call 59; refine HFI.out.mono ?_; rintro e w3 ⟨rfl, hb3⟩; have HB3 := Lib.hid hb3; clear hb3))
      have HO3 := Lib.hid (HO.out.trans (Off.of_below HB3.out))
      have HB4 := Lib.hid (HO3.out.but HB0.out HG.out)
      have HM3 := Lib.hid (HM.out.of (HB3.out.block g HM.out.lt))
      have HS3 := Lib.hid (World.rowIs.of_block HS.out (HB3.out.block gs (World.rowIs.lt HS.out)))
      have hlk := HM3.out.look k
      rw [lookF_eq] at hlk
      clear hcl c0 HB3 HM HS HO HE HB HRG HFI
      clear w2
      go_upto_region 5 with (refine wpList_lay_lead rfl (.tmp 12) (.tmp 37) rfl (lkF G.K G.T k) rfl rfl ?_)
      have hal := (Below.refl w3.heap.size w3).alloc (Nat.le_refl _) (.cells (ldC (lkF G.K G.T k)) 113)
      have HO4 := Lib.hid (HO3.out.trans (Off.of_below hal))
      have HB5 := Lib.hid (HO4.out.but HB0.out HG.out)
      have HM4 := Lib.hid (HM3.out.of (hal.block g HM3.out.lt))
      have HS4 := Lib.hid (World.rowIs.of_block HS3.out (hal.block gs (World.rowIs.lt HS3.out)))
      have hro := heap_alloc_new w3 (.cells (ldC (lkF G.K G.T k)) 113)
      obtain ⟨q, hq⟩ : ∃ q, Hid (w3.heap.size = q) := ⟨_, Lib.hid rfl⟩
      rw [hq.out] at hro ⊢
      have HRO := Lib.hid hro
      clear hal hlk HO3 HB4 HM3 HS3 hro
      generalize w3.alloc (.cells (ldC (lkF G.K G.T k)) 113) = w4 at *
      clear hq w3
      have HCND : Hid (ent m G (ahead, k) = if ((fu && !G.s k) || (decide (k ∈ G.K) && ls (bs ahead) (bs (lkF G.K G.T k).1))) then ⟨if k ∈ G.K then G.K else G.K ++ [k], fun j => if j = k then (ahead, lb (stN m k)) else G.T j, fun j => if j = k then true else G.s j⟩ else G) := Lib.hid (by
        by_cases hk : k ∈ G.K
        · have e : lkF G.K G.T k = G.T k := if_pos hk
          rw [e, ← hfu.out]
          rfl
        · have e2 : decide (k ∈ G.K) = false := decide_eq_false hk
          unfold ent
          show (if ((decide (stN m k ≠ 0) && !G.s k) || (decide (k ∈ G.K) && _)) = true then _ else _) = _
          rw [e2, Bool.false_and, Bool.false_and, hfu.out])
      have henv := HQ.out _ HB5.out
      have c5 := henv.box.c5
      have hcs := World.rowIs.cell HS4.out HKN.out
      have hfs := World.rowIs.frozen HS4.out k
      have hcq : w4.cell? ⟨q, 0, none⟩ = some (.string (lkF G.K G.T k).1) := by rw [cell_of_row w4 q 0 _ _ _ HRO.out]; rfl
      have HLS := Lib.hid (less_any ahead (lkF G.K G.T k).1 w4)
      clear henv
      generalize ls (bs ahead) (bs (lkF G.K G.T k).1) = lt at *
      generalize (lkF G.K G.T k).1 = old at *
      go_cut [9, 10, 58] from 39 to 58 (fun i b v wr => i = .int .i64 k ∧ b = .int .u8 (lb (stN m k)) ∧ v = .bool ((fu && !G.s k) || (decide (k ∈ G.K) && lt)) ∧ wr = w4)
      case first =>
        generalize decide (k ∈ G.K) = kn at *
        generalize G.s k = sk at *
        clear HCND
        cases fu <;> cases sk <;> cases kn <;> cases lt
        all_goals
          go_wp2_with (go_at_call 11; refine HLS.out.mono ?_; rintro e w5 ⟨rfl, rfl⟩)
          go_meet
          case rel => exact ⟨rfl, rfl, rfl, rfl⟩
      case rest =>
        obtain ⟨rfl, rfl, rfl, rfl⟩ := hcut
        clear hcq HLS HRO
        cases hc : ((fu && !G.s k) || (decide (k ∈ G.K) && lt)) with
        | false =>
          have HE : Hid (entL m ahead F (l.take (j + 1)) = G) := Lib.hid (by rw [HST.out, HCND.out, hc, if_neg (by decide)])
          clear hc
          go_wp2_with fail
          go_roundw
          case rel => exact ⟨j + 1, by rw [HW1.out], HJ.out, by rw [HE.out]; exact HM4, by rw [HE.out]; exact HS4, HO4⟩
          case measure => rw [HW1.out]; exact meas9 HJ.out
        | true =>
          have HE : Hid (entL m ahead F (l.take (j + 1)) = ⟨if k ∈ G.K then G.K else G.K ++ [k], fun j => if j = k then (ahead, lb (stN m k)) else G.T j, fun j => if j = k then true else G.s j⟩) := Lib.hid (by rw [HST.out, HCND.out, hc, if_pos rfl])
          clear hc
          have HO5 := Lib.hid (HO4.out.trans (Off.left (But.set gs wc k (.bool true))))
          have HM5 := Lib.hid (HM4.out.of (W' := wc.setCell ⟨gs, k, none⟩ (.bool true)) ((But.set gs wc k (.bool true)).block g HM4.out.lt (fun e => by have := HG.out; have := HGS.out; omega)))
          have HS5 := Lib.hid ((World.rowIs.set HS4.out k (.bool true)).congr (g := fun i => .bool (if i = k then true else G.s i)) (fun i _ => by by_cases e : i = k <;> simp [e]))
          go_upto_region 7 with fail
          clear hcs hfs c5 HO4 HM4 HS4 HB5
          generalize wc.setCell ⟨gs, k, none⟩ (.bool true) = w5 at *
          obtain ⟨w6, hrun, hm6, hb6⟩ := HM5.out.put k (ahead, lb (stN m k))
          have HM6 := Lib.hid hm6
          have HS6 := Lib.hid (World.rowIs.of_block HS5.out (hb6.block gs (World.rowIs.lt HS5.out) (fun e => by have := HG.out; have := HGS.out; omega)))
          have HO6 := Lib.hid (HO5.out.trans (Off.right hb6))
          clear hm6 hb6
          go_wp2_with (refine wpList_put rfl _ _ _ 75 rfl (.map (some g)) (.int .i64 k) (.agg (ldC (ahead, lb (stN m k)))) rfl rfl rfl hrun ?_)
          go_roundw
          case rel => exact ⟨j + 1, by rw [HW1.out], HJ.out, by rw [HE.out]; exact HM6, by rw [HE.out]; exact HS6, HO6⟩
          case measure => rw [HW1.out]; exact meas9 HJ.out
    · have hdd : decide ((j : Int) < (l.length : Int)) = false := decide_eq_false (by omega)
      have hd2 : decide (j < l.length) = false := decide_eq_false hlt
      rw [List.take_of_length_le (by omega)] at HM HS
      clear hlt
      go_wp2_with fail
      go_end0
      exact ⟨rfl, HM.out, HS.out, HO.out⟩
end Sk
end Go.Proofs.YtmjjkamndlefmaaDoor
