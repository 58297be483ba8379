/- Several texts in one. -/
import Derived.Test.YtmjjkamndlefmaaDoorPq26
import Derived.Test.YtmjjkamndlefmaaDoorPq15
import Derived.Test.YtmjjkamndlefmaaDoorPq28
import Derived.Test.YtmjjkamndlefmaaDoorPq24
import Derived.Deep.Cut
import Derived.Deep.CutRange
namespace Go.Proofs.YtmjjkamndlefmaaDoor
open Go.RowKit Sets Nf Df Dbl
namespace DfPr
def entsK : Nat → List (Nat × Nat) → List MapEntry
  | _, [] => []
  | i, k :: l => { key := .agg (pC k), val := .int .i64 i, born := i } :: entsK (i + 1) l
theorem entsK_length : ∀ (l : List (Nat × Nat)) (i : Nat), (entsK i l).length = l.length
  | [], _ => rfl
  | _ :: l, i => by simp [entsK, entsK_length l (i + 1)]
theorem entsK_snoc (k : (Nat × Nat)) : ∀ (l : List (Nat × Nat)) (i : Nat), entsK i (l ++ [k]) = entsK i l ++ [{ key := .agg (pC k), val := .int .i64 (i + l.length : Nat), born := i + l.length }]
  | [], i => by simp [entsK]
  | a :: l, i => by
    simp only [List.cons_append, entsK, entsK_snoc k l (i + 1), List.length_cons]
    rw [show i + 1 + l.length = i + (l.length + 1) from by omega]
def okK (x : (Nat × Nat)) : Prop := x = x
/-- Block g is the map of the states l, each with its number. -/
structure MapAt (w : World) (g : Nat) (l : List (Nat × Nat)) : Prop where
  row : w.heap[g]? = some (.map (entsK 0 l).toArray l.length)
  ok : ∀ x ∈ l, okK x
theorem MapAt.lt {w : World} {g : Nat} {l : List (Nat × Nat)} (h : MapAt w g l) : g < w.heap.size := (Array.getElem?_eq_some_iff.1 h.row).1
theorem MapAt.of {w w' : World} {g : Nat} {l : List (Nat × Nat)} (h : MapAt w g l) (e : w'.heap[g]? = w.heap[g]?) : MapAt w' g l := ⟨e.trans h.row, h.ok⟩
theorem MapAt.made (w : World) : MapAt (w.alloc (.map #[] 0)) w.heap.size [] := ⟨heap_alloc_new w _, fun x hx => by cases hx⟩
theorem zeroI (w : World) : (zeroValue 3).run Tryd.prog w = .ok (.int .i64 0) w := by kernel_rfl
def rowsK (l : List (Nat × Nat)) : List Value := l.flatMap fun x => (pC x).toList
theorem rC_len (x : (Nat × Nat)) : (pC x).toList.length = 2 := rfl
theorem rowsK_snoc (L : List (Nat × Nat)) (s : (Nat × Nat)) : rowsK (L ++ [s]) = rowsK L ++ (pC s).toList := by unfold rowsK; rw [List.flatMap_append]; simp
theorem rowsK_length (L : List (Nat × Nat)) : (rowsK L).length = L.length * 2 := by
  induction L with
  | nil => rfl
  | cons s L ih => unfold rowsK at *; rw [List.flatMap_cons, List.length_append, ih, rC_len, List.length_cons]; omega
theorem rowsK_get : ∀ (L : List (Nat × Nat)) (i : Nat) (s : (Nat × Nat)), L[i]? = some s → ∀ j, j < 2 → (rowsK L)[i * 2 + j]? = ((pC s).toList)[j]?
  | t :: L, 0, s, h, j, hj => by
    simp at h; subst h
    unfold rowsK
    rw [List.flatMap_cons, List.getElem?_append_left (by rw [rC_len]; omega)]
    simp
  | t :: L, i + 1, s, h, j, hj => by
    have ih := rowsK_get L i s (by simpa using h) j hj
    unfold rowsK at ih ⊢
    rw [List.flatMap_cons, List.getElem?_append_right (by rw [rC_len]; omega), rC_len, show (i + 1) * 2 + j - 2 = i * 2 + j from by omega, ih]
theorem rowsK_one (l : List (Nat × Nat)) : ∀ u ∈ rowsK l, u.oneCell' = true := fun u hu => by
  obtain ⟨x, -, h⟩ := List.mem_flatMap.1 hu
  have := onePair x
  rw [Array.all_eq_true_iff_forall_mem] at this
  exact this u (by simpa using h)
/-- The purse in block q.1 (its budget's bits q.2) has spent t; none: there is none. -/
def PayAt (w : World) (p : Option (Nat × Nat)) (t : Nat) : Prop := ∀ q, p = some q → PurseAt w q.1 q.2 t
def payV (p : Option (Nat × Nat)) : Value := .pointer (p.map fun q => ⟨q.1, 0, none⟩)
def Aff (p : Option (Nat × Nat)) (t : Nat) : Prop := ∀ q, p = some q → t ≤ cap q.2
/-- What stays at a call of state. -/
structure FrM (mb mg : Nat) (p : Option (Nat × Nat)) (w : World) (v : Value) (w' : World) (v' : Value) : Prop where
  os : w'.os = w.os
  tape : w'.tape = w.tape
  output : w'.output = w.output
  size : w.heap.size ≤ w'.heap.size
  block : ∀ k, k < w.heap.size → k ≠ mb → k ≠ mg → v.ownBlock ≠ some k → (∀ q, p = some q → q.1 ≠ k) → w'.heap[k]? = w.heap[k]?
  own : ∀ g, v'.ownBlock = some g → v.ownBlock = some g ∨ w.heap.size ≤ g
/-- Block k is none of those that turn. -/
def Off (mb mg : Nat) (p : Option (Nat × Nat)) (v : Value) (k : Nat) : Prop := k ≠ mb ∧ k ≠ mg ∧ v.ownBlock ≠ some k ∧ ∀ q, p = some q → q.1 ≠ k
section
variable {w w1 w2 : World} {s mb mg t0 : Nat} {p : Option (Nat × Nat)} {v v1 v2 sv : Value} {L : List (Nat × Nat)}
theorem FrM.refl (mb mg : Nat) (p : Option (Nat × Nat)) (w : World) (v : Value) : FrM mb mg p w v w v := ⟨rfl, rfl, rfl, Nat.le_refl _, fun _ _ _ _ _ _ => rfl, fun _ h => .inl h⟩
theorem FrM.of_below (mb mg : Nat) (p : Option (Nat × Nat)) (v : Value) (h : Below w.heap.size w w1) : FrM mb mg p w v w1 v := ⟨h.os, h.tape, h.output, h.size, fun k hk _ _ _ _ => h.block k hk, fun _ h => .inl h⟩
theorem FrM.off (h : FrM mb mg p w v w1 v1) {k : Nat} (ho : Off mb mg p v k) (hk : k < w.heap.size) : Off mb mg p v1 k := ⟨ho.1, ho.2.1, fun e => (h.own k e).elim ho.2.2.1 (fun h2 => by omega), ho.2.2.2⟩
theorem FrM.keep (h : FrM mb mg p w v w1 v1) {k : Nat} (ho : Off mb mg p v k) (hk : k < w.heap.size) : w1.heap[k]? = w.heap[k]? := h.block k hk ho.1 ho.2.1 ho.2.2.1 ho.2.2.2
theorem FrM.trans (h : FrM mb mg p w v w1 v1) (k : FrM mb mg p w1 v1 w2 v2) : FrM mb mg p w v w2 v2 := by
  refine ⟨k.os.trans h.os, k.tape.trans h.tape, k.output.trans h.output, Nat.le_trans h.size k.size, fun i hi h1 h2 h3 h4 => ?_, fun g hg => ?_⟩
  · rw [k.block i (Nat.lt_of_lt_of_le hi h.size) h1 h2 (h.off ⟨h1, h2, h3, h4⟩ hi).2.2.1 h4, h.block i hi h1 h2 h3 h4]
  · rcases k.own g hg with h1 | h1
    · exact h.own g h1
    · exact .inr (Nat.le_trans h.size h1)
end
end DfPr
end Go.Proofs.YtmjjkamndlefmaaDoor
namespace Go.Proofs.YtmjjkamndlefmaaDoor
open Go.RowKit Sets Nf Df Dbl
namespace DfPr
section
variable {w0 W W' : World} {s mb mg bp db rb t0 : Nat} {p : Option (Nat × Nat)} {of : Nat → Nat} {n : Int} {sv nv fv : Value} {L : List (Nat × Nat)} {vs : List Value} {R : List (List Int)} {F : List Bool}
end
end DfPr
end Go.Proofs.YtmjjkamndlefmaaDoor
namespace Go.Proofs.YtmjjkamndlefmaaDoor
open Go.RowKit Sets Nf Df Dbl
namespace DfPr
theorem is64_get (l : List Int) (j : Nat) (h : j < l.length) : (is64 l)[j]? = some (.int .i64 (l.getD j 0)) := by
  unfold is64
  rw [List.getElem?_map, List.getElem?_eq_getElem h, List.getD_eq_getElem?_getD, List.getElem?_eq_getElem h]; rfl
theorem infoSl : (Tryd.prog.info? 41).map (fun i => (i.zero, i.size, i.bytes)) = some (some nilS, 1, 24) := by kernel_rfl
theorem infoBl : (Tryd.prog.info? 4).map (fun i => (i.zero, i.size, i.bytes)) = some (some (.bool false), 1, 1) := by kernel_rfl
theorem hmki (nc : Nat) (h : nc ≤ 256) (w : World) : (Instr.makeSlice 41 (.int .i64 nc) (.int .i64 nc)).run Tryd.prog w = .ok (.slice (some ⟨w.heap.size, 0, none⟩) nc nc) (w.alloc (.cells (madeCells #[.int .i64 0] nc) 3)) := by
  obtain ⟨i0, hi, hz0, hz1, hz2⟩ := info_parts infoInt
  have hrun := run_make (P := Tryd.prog) w 41 3 i0 _ Tryd.underlying41 hi hz0 .i64 .i64 nc nc (by omega) (Int.le_refl _) (by rw [hz2]; omega) (by omega)
  simp only [Int.toNat_natCast, hz1, Nat.mul_one] at hrun
  exact hrun
theorem wpList_lay_df {ops : Array Oper} {rest : List Oper} {o : Oper} {a : Act} {w : World} {Q : Exit → Act → World → Prop} (hgd : o.guard = none) (x y : Operand)
    (ho : o.op = .store 28 x y) (of : Nat → Nat) (n : Int) (hx : a.eval x = .pointer (some ⟨w.heap.size, 0, none⟩)) (hy : a.eval y = .agg (dfC of n nilS nilS))
    (h : wpList Tryd.prog ops Q rest (a.put o.dst undef) (w.alloc (.cells (dfC of n nilS nilS) 28))) : wpList Tryd.prog ops Q (o :: rest) a (w.alloc (.cells (dfC (fun _ => 0) 0 nilS nilS) 28)) := by
  refine wpList_store_row hgd 28 x y ho w.heap.size (dfC of n nilS nilS) hx hy 28 (dfC (fun _ => 0) 0 nilS nilS) (heap_alloc_new w _) (sizeDf of n _ _) (by rw [dfC_size, dfC_size]) (oneDf of n none none 0 0 0 0) ?_
  rw [World.setRow_alloc_new]
  exact h
theorem keep1 {w : World} {k : Nat} {o : Obj} (h : w.heap[k]? = some o) (o' : Obj) : (w.alloc o').heap[k]? = some o := (((Below.refl w.heap.size w).alloc (Nat.le_refl _) o').block k (Array.getElem?_eq_some_iff.1 h).1).trans h
theorem new1 (w : World) (o : Obj) {k : Nat} (hk : k = w.heap.size) : (w.alloc o).heap[k]? = some o := by rw [hk]; exact heap_alloc_new w o
theorem five (w : World) (o0 o1 o2 o3 o4 : Obj) : (((((w.alloc o0).alloc o1).alloc o2).alloc o3).alloc o4).heap[w.heap.size]? = some o0 ∧ (((((w.alloc o0).alloc o1).alloc o2).alloc o3).alloc o4).heap[w.heap.size + 1]? = some o1 ∧
    (((((w.alloc o0).alloc o1).alloc o2).alloc o3).alloc o4).heap[w.heap.size + 1 + 1]? = some o2 ∧ (((((w.alloc o0).alloc o1).alloc o2).alloc o3).alloc o4).heap[w.heap.size + 1 + 1 + 1]? = some o3 ∧ (((((w.alloc o0).alloc o1).alloc o2).alloc o3).alloc o4).heap[w.heap.size + 1 + 1 + 1 + 1]? = some o4 ∧
    (((((w.alloc o0).alloc o1).alloc o2).alloc o3).alloc o4).heap.size = w.heap.size + 1 + 1 + 1 + 1 + 1 ∧ Below w.heap.size w (((((w.alloc o0).alloc o1).alloc o2).alloc o3).alloc o4) := by
  refine ⟨keep1 (keep1 (keep1 (keep1 (new1 w o0 rfl) _) _) _) _, keep1 (keep1 (keep1 (new1 _ _ (by simp)) _) _) _, keep1 (keep1 (new1 _ _ (by simp)) _) _, keep1 (new1 _ _ (by simp)) _, new1 _ _ (by simp), by simp, ?_⟩
  exact (((((Below.refl _ _).alloc (Nat.le_refl _) _).alloc (by simp) _).alloc (by simp; omega) _).alloc (by simp; omega) _).alloc (by simp; omega) _
theorem Df.meas {K n : Nat} (h : n < K) : ((K : Int) + 1 - ((n + 1 : Nat) : Int)).toNat < ((K : Int) + 1 - (n : Int)).toNat := by omega
/-- What is told at the end: the automaton of all states; or the purse was overspent. -/
def AuEnd (into : (Nat × Nat) → Nat → (Nat × Nat)) (fin : (Nat × Nat) → Bool) (nc : Nat) (s0 : (Nat × Nat)) (Ok : (Nat × Nat) → Prop) (of : Nat → Nat) (p : Option (Nat × Nat)) (t0 s : Nat) (w : World) (e : Ending) (w' : World) : Prop :=
  BelP p s w w' ∧
  ((∃ L R F nv fv vs, e = .returned (.agg (dfC of nc nv fv)) ∧ OwnD s w' R F nv fv vs ∧ Mk into fin nc s0 Ok L R F ∧ R.length = L.length ∧ PayAt w' p (t0 + L.length) ∧ Aff p (t0 + L.length)) ∨
   (∃ (q : Nat × Nat) (L : List (Nat × Nat)), p = some q ∧ e = .panicked [{ v := ovr q.1, recovered := false }] ∧ L.Nodup ∧ (∀ x ∈ L, Ok x) ∧ cap q.2 + 1 = t0 + L.length ∧ PurseAt w' q.1 q.2 (t0 + L.length)))
end DfPr
end Go.Proofs.YtmjjkamndlefmaaDoor
