/- Several texts in one. -/
import Derived.Test.YtcgllipcnmlkbaaDoorPkT
import Derived.Test.YtcgllipcnmlkbaaDoorPkS
import Derived.Test.YtcgllipcnmlkbaaDoorPkO
namespace Go.Proofs.YtcgllipcnmlkbaaDoor
open Go.RowKit Sets Tr Rx Sp
def enc3 (e : En) : List Value := [.int .u64 e.fi, .int .u64 e.la, .bool e.em]
def ens (L : List En) : List Value := L.flatMap enc3
theorem ens_append (l m : List En) : ens (l ++ m) = ens l ++ ens m := by unfold ens; simp
theorem ens_length (l : List En) : (ens l).length = l.length * 3 := by
  induction l with
  | nil => rfl
  | cons x l ih => unfold ens at *; rw [List.flatMap_cons, List.length_append, ih, List.length_cons]; simp [enc3]; omega
theorem ens_ones (l : List En) : ∀ u ∈ ens l, u.oneCell' = true := by
  intro u hu
  obtain ⟨S, -, hS⟩ := List.mem_flatMap.1 hu
  simp [enc3] at hS
  rcases hS with rfl | rfl | rfl <;> rfl
theorem ens_get (l : List En) (i q : Nat) (hi : i < l.length) (v : Value) (hq : (enc3 (l.getD i default))[q]? = some v) : (ens l)[i * 3 + q]? = some v := by
  induction l generalizing i with
  | nil => simp at hi
  | cons x l ih =>
    have hl : (enc3 x).length = 3 := rfl
    cases i with
    | zero =>
      simp only [List.getD_cons_zero] at hq
      unfold ens
      rw [List.flatMap_cons, Nat.zero_mul, Nat.zero_add, List.getElem?_append_left (List.getElem?_eq_some_iff.1 hq).1]
      exact hq
    | succ i =>
      simp only [List.getD_cons_succ] at hq
      unfold ens
      rw [List.flatMap_cons, List.getElem?_append_right (by rw [hl]; omega), hl, show (i + 1) * 3 + q - 3 = i * 3 + q from by omega]
      exact ih i (by simpa using hi) hq
def OwnE (B : Nat) (w : World) (v : Value) (L : List En) : Prop := w.ownsRow B 80 3 v L.length (ens L)
theorem infoEnds : (Tryd.prog.info? 80).map (fun i => (i.zero, i.size, i.bytes)) = some (some (.agg #[.int .u64 0, .int .u64 0, .bool false]), 3, 24) := by kernel_rfl
/-- one of ends, just laid, is appended -/
theorem wpList_append_ends {ops : Array Oper} {rest : List Oper} {o : Oper} {a : Act} {w : World} {Q : Exit → Act → World → Prop} (hgd : o.guard = none) (s y : Operand)
    (ho : o.op = .call { callee := .builtin .append, args := #[s, y], argTypes := #[126, 126] }) (B : Nat) (v : Value) (N : List En) (x : En) (hs : a.eval s = v)
    (g : Nat) (hc : w.rangeAt g 0 (enc3 x)) (hown : OwnE B w v N) (hx : a.eval y = .slice (some ⟨g, 0, none⟩) 1 1) (hN : N.length ≤ 1000) (hbase : B ≤ w.heap.size)
    (h : ∀ v' w', OwnE B w' v' (N ++ [x]) → w.grownBy w' v.ownBlock → (v'.ownBlock = v.ownBlock ∨ v'.ownBlock = some w.heap.size) → wpList Tryd.prog ops Q rest (a.put o.dst v') w') :
    wpList Tryd.prog ops Q (o :: rest) a w := by
  obtain ⟨i0, hi, hz0, hz1, hz2⟩ := info_parts infoEnds
  refine wpList_append_keep hgd s y 126 ho B 80 i0 _ 3 24 Tryd.underlying126 hi hz0 hz1 hz2 rfl (by decide) v _ _ hs hown ⟨g, 0, none⟩ 1 1 (enc3 x) hx rfl ?_ ?_ ?_ ?_ hbase ?_
  · intro j u hj
    rw [Addr.add_lit]
    exact hc j u hj
  · have := ens_ones [x]
    simpa [ens] using this
  · unfold maxLen; omega
  · omega
  · intro v' w' h1 h2 h4 _
    refine h v' w' ?_ h2 h4
    unfold OwnE
    rw [ens_append, List.length_append]
    simpa [ens] using h1
theorem run_buildEnds (x : En) (w : World) : (Instr.buildSlice 126 1 #[(0, .agg (en3 x.fi x.la x.em))]).run Tryd.prog w = .ok (.slice (some ⟨w.heap.size, 0, none⟩) 1 1) (w.alloc (.cells (enc3 x).toArray 80)) := by
  have h1 : (underlying 126).run Tryd.prog w = .ok (.slice 80) w := by kernel_rfl
  have h2 : (sizeOf 80).run Tryd.prog w = .ok 3 w := by kernel_rfl
  have h3 : (zeroValue 80).run Tryd.prog w = .ok (.agg #[.int .u64 0, .int .u64 0, .bool false]) w := by kernel_rfl
  unfold Instr.buildSlice
  simp only [Sem.run_bind, h1, h2, Result.andThen_ok]
  rw [if_neg (by decide), if_neg (by decide)]
  simp only [Sem.run_bind, Sem.run_pure, h3, Result.andThen_ok]
  rw [show (Value.agg (en3 x.fi x.la x.em)) = .agg (enc3 x).toArray from rfl, fill_whole _ _ (enc3 x).toArray 3 rfl rfl (by rw [Array.size_map, Array.size_range])]
  rfl
theorem wpList_buildEnds {ops : Array Oper} {rest : List Oper} {o : Oper} {a : Act} {w : World} {Q : Exit → Act → World → Prop} (hgd : o.guard = none) (y : Operand)
    (ho : o.op = .buildSlice 126 1 #[(0, y)]) (x : En) (hx : a.eval y = .agg (en3 x.fi x.la x.em)) (h : wpList Tryd.prog ops Q rest (a.put o.dst (.slice (some ⟨w.heap.size, 0, none⟩) 1 1)) (w.alloc (.cells (enc3 x).toArray 80))) : wpList Tryd.prog ops Q (o :: rest) a w := by
  refine wpList_plain hgd fun K hK => ?_
  unfold Oper.wp execOp
  simp only [ho]
  have e : (#[((0 : Nat), y)].map fun y : Nat × Operand => (y.1, a.eval y.2)) = #[(0, .agg (en3 x.fi x.la x.em))] := by simp [hx]
  rw [e]
  simp only [Sem.run_bind, Sem.run_pure, run_buildEnds, Result.andThen_ok]
  exact hK _ _ h
theorem OwnE.new (w : World) (B : Nat) (x : En) (hB : B ≤ w.heap.size) : OwnE B (w.alloc (.cells (enc3 x).toArray 80)) (.slice (some ⟨w.heap.size, 0, none⟩) 1 1) [x] :=
  ⟨rfl, .inr ⟨w.heap.size, 1, (enc3 x).toArray, rfl, hB, heap_alloc_new w _, Nat.le_refl 1, by unfold maxLen; omega, rfl, rfl⟩⟩
theorem OwnE.fr {B A : Nat} {w w' : World} {nv sv fv sv' fv' v : Value} {S F : List Nat} {L : List En} (h : OwnE A w v L) (hM : MkAt w B nv sv fv S F) (k : Fr B w sv fv w' sv' fv') : OwnE A w' v L := by
  obtain ⟨h1, h2⟩ := h
  refine ⟨h1, ?_⟩
  rcases h2 with h2 | ⟨g, cap, cur, h3, h4, h5, h6⟩
  · exact .inl h2
  · exact .inr ⟨g, cap, cur, h3, h4, k.keep hM h5 (by decide) (by decide) (by decide), h6⟩
theorem OwnE.below {A : Nat} {w w' : World} {v : Value} {L : List En} (h : OwnE A w v L) (hb : Below w.heap.size w w') : OwnE A w' v L := own_kept h fun g hg => hb.block g (h.lt g hg).2
/-- behind an append to ends -/
theorem MkAt.grown {w w' : World} {B A : Nat} {nv sv fv v : Value} {S F : List Nat} {L : List En} (h : MkAt w B nv sv fv S F) (hE : OwnE A w v L) (hA : B < A) (hg : w.grownBy w' v.ownBlock) : MkAt w' B nv sv fv S F ∧ (A ≤ w.heap.size → Below A w w') := by
  have hne : ∀ g, v.ownBlock = some g → g ≠ B ∧ sv.ownBlock ≠ some g ∧ fv.ownBlock ≠ some g := fun g hg => by
    rcases hE.2 with ⟨h3, -⟩ | ⟨k, cap, cur, h3, h4, h5, -⟩
    · rw [h3] at hg; cases hg
    · rw [h3] at hg
      have e1 : k = g := by simpa [Value.ownBlock] using hg
      subst e1
      have := h.off h5 (by decide) (by decide)
      exact ⟨by omega, this.1, this.2⟩
  refine ⟨⟨h.row.kept (hg.block B h.row.lt (fun e => (hne B e.symm).1 rfl)), own_kept h.os fun g h1 => hg.block g (h.os.lt g h1).2 (fun e => (hne g e.symm).2.1 h1), own_kept h.of fun g h1 => hg.block g (h.of.lt g h1).2 (fun e => (hne g e.symm).2.2 h1)⟩, fun hAs => ⟨hg.os, hg.tape, hg.output, hg.size, fun k hk => hg.block k (by omega) (fun e => by have := (hE.lt k e.symm).1; omega)⟩⟩
theorem Fr.grown {w w' w0 : World} {B A : Nat} {sv fv sv0 fv0 v : Value} {L : List En} (k : Fr B w0 sv0 fv0 w sv fv) (hE : OwnE A w v L) (hA : w0.heap.size ≤ A) (hB : B < w0.heap.size) (hg : w.grownBy w' v.ownBlock) : Fr B w0 sv0 fv0 w' sv fv := by
  have hs := k.below.size
  have hs2 := hg.size
  refine ⟨k.below.trans ⟨hg.os, hg.tape, hg.output, hs2, fun i hi => hg.block i (by omega) (fun e => by have := (hE.lt i e.symm).1; omega)⟩, fun i hi h0 h1 h2 => ?_, k.os, k.of⟩
  rw [hg.block i (by omega) (fun e => by have := (hE.lt i e.symm).1; omega)]
  exact k.block i hi h0 h1 h2
theorem set_range {w : World} {B q c : Nat} {S : List Nat} (h : OwnS B w (.slice (some ⟨q, 0, none⟩) S.length c) S) {j : Nat} (hj : j < S.length) : w.rangeAt q (j * 4) (st4 (S.getD j 0)) := by
  intro i v hv
  have h1 := sts_get S j i hj v hv
  have hl := (List.getElem?_eq_some_iff.1 h1).1
  rw [sts_length] at hl
  rw [World.ownsRow.cellAt h _ hl]
  exact h1
end Go.Proofs.YtcgllipcnmlkbaaDoor
namespace Go.Proofs.YtcgllipcnmlkbaaDoor
open Go.RowKit Sets Tr Rx Sp
theorem own_diff {w : World} {b1 b2 s1 s2 n1 n2 : Nat} {e1 e2 : TypeId} {v1 v2 : Value} {x1 x2 : List Value} (h1 : w.ownsRow b1 e1 s1 v1 n1 x1) (h2 : w.ownsRow b2 e2 s2 v2 n2 x2) (he : e1 ≠ e2) : ∀ g, v1.ownBlock = some g → v2.ownBlock ≠ some g := by
  intro g h3 h4
  rcases h1.2 with ⟨h5, -⟩ | ⟨k, cap, cur, h5, -, h6, -⟩
  · rw [h5] at h3; cases h3
  · rcases h2.2 with ⟨h7, -⟩ | ⟨k', cap', cur', h7, -, h8, -⟩
    · rw [h7] at h4; cases h4
    · rw [h5] at h3
      rw [h7] at h4
      have e1 : k = g := by simpa [Value.ownBlock] using h3
      have e2 : k' = g := by simpa [Value.ownBlock] using h4
      subst e1 e2
      rw [h6] at h8
      injection h8 with h8
      injection h8 with h9 h10
      exact he h10
def boL (l : List Bool) : List Value := l.map Value.bool
theorem boL_append (l m : List Bool) : boL (l ++ m) = boL l ++ boL m := List.map_append
theorem boL_length (l : List Bool) : (boL l).length = l.length := List.length_map _
theorem boL_ones (l : List Bool) : ∀ u ∈ boL l, u.oneCell' = true := by
  intro u hu
  obtain ⟨x, -, rfl⟩ := List.mem_map.1 hu
  rfl
def OwnB (B : Nat) (w : World) (v : Value) (l : List Bool) : Prop := w.ownsRow B 4 1 v l.length (boL l)
theorem infoBo : (Tryd.prog.info? 4).map (fun i => (i.zero, i.size, i.bytes)) = some (some (.bool false), 1, 1) := by kernel_rfl
theorem wpList_append_bool {ops : Array Oper} {rest : List Oper} {o : Oper} {a : Act} {w : World} {Q : Exit → Act → World → Prop} (hgd : o.guard = none) (s y : Operand)
    (ho : o.op = .call { callee := .builtin .append, args := #[s, y], argTypes := #[44, 44] }) (B : Nat) (v : Value) (N : List Bool) (x : Bool) (hs : a.eval s = v)
    (g : Nat) (hc : w.cell? ⟨g, 0, none⟩ = some (.bool x)) (hown : OwnB B w v N) (hx : a.eval y = .slice (some ⟨g, 0, none⟩) 1 1) (hN : N.length ≤ 1000) (hbase : B ≤ w.heap.size)
    (h : ∀ v' w', OwnB B w' v' (N ++ [x]) → w.grownBy w' v.ownBlock → (v'.ownBlock = v.ownBlock ∨ v'.ownBlock = some w.heap.size) → wpList Tryd.prog ops Q rest (a.put o.dst v') w') :
    wpList Tryd.prog ops Q (o :: rest) a w := by
  obtain ⟨i0, hi, hz0, hz1, hz2⟩ := info_parts infoBo
  refine wpList_append_keep hgd s y 44 ho B 4 i0 _ 1 1 Tryd.underlying44 hi hz0 hz1 hz2 rfl (by decide) v _ _ hs hown ⟨g, 0, none⟩ 1 1 [.bool x] hx rfl ?_ ?_ ?_ ?_ hbase ?_
  · intro j u hj
    rw [Addr.add_lit]
    cases j with
    | zero => rw [Nat.add_zero, hc]; simpa using hj
    | succ j => simp at hj
  · exact boL_ones [x]
  · unfold maxLen; omega
  · omega
  · intro v' w' h1 h2 h4 _
    refine h v' w' ?_ h2 h4
    unfold OwnB
    rw [boL_append, List.length_append]
    simpa [boL] using h1
def mdC (fi la em nt : Value) : Array Value := #[.slice none 0 0, fi, la, .slice none 0 0, em, nt]
structure MdAt (w : World) (B : Nat) (nv sv fv : Value) (S F : List Nat) (fi : Value) (Lf : List Nat) (la : Value) (Ll : List Nat) (em : Value) (Le : List Bool) (nt : Value) (Ln : List Bool) : Prop where
  at_ : MkAt w B nv sv fv S F
  row : w.heap[B + 1]? = some (.cells (mdC fi la em nt) 46 (0, 0))
  o1 : OwnU (B + 2) w fi Lf
  o2 : OwnU (B + 2) w la Ll
  o3 : OwnB (B + 2) w em Le
  o4 : OwnB (B + 2) w nt Ln
  s1 : ∀ g, fi.ownBlock = some g → la.ownBlock ≠ some g ∧ fv.ownBlock ≠ some g
  s2 : ∀ g, la.ownBlock = some g → fi.ownBlock ≠ some g ∧ fv.ownBlock ≠ some g
  s3 : ∀ g, em.ownBlock = some g → nt.ownBlock ≠ some g
  s4 : ∀ g, nt.ownBlock = some g → em.ownBlock ≠ some g
variable {w w' : World} {B : Nat} {nv sv fv fi la em nt : Value} {S F Lf Ll : List Nat} {Le Ln : List Bool}
theorem MdAt.cells (h : MdAt w B nv sv fv S F fi Lf la Ll em Le nt Ln) : w.cell? ⟨B + 1, 1, none⟩ = some fi ∧ w.cell? ⟨B + 1, 2, none⟩ = some la ∧ w.cell? ⟨B + 1, 4, none⟩ = some em ∧ w.cell? ⟨B + 1, 5, none⟩ = some nt := by
  have := h.row; unfold mdC at this; simp [World.cell?, this]
theorem MdAt.frozen (h : MdAt w B nv sv fv S F fi Lf la Ll em Le nt Ln) (i : Nat) : w.frozen? ⟨B + 1, i, none⟩ = false := by
  have := h.row; unfold mdC at this; simp [World.frozen?, this]
theorem MdAt.lt (h : MdAt w B nv sv fv S F fi Lf la Ll em Le nt Ln) : B + 1 < w.heap.size := (Array.getElem?_eq_some_iff.1 h.row).1
theorem MdAt.below (h : MdAt w B nv sv fv S F fi Lf la Ll em Le nt Ln) (hb : Below w.heap.size w w') : MdAt w' B nv sv fv S F fi Lf la Ll em Le nt Ln :=
  ⟨h.at_.below hb, (hb.block _ h.lt).trans h.row, own_kept h.o1 fun g hg => hb.block g (h.o1.lt g hg).2, own_kept h.o2 fun g hg => hb.block g (h.o2.lt g hg).2, own_kept h.o3 fun g hg => hb.block g (h.o3.lt g hg).2, own_kept h.o4 fun g hg => hb.block g (h.o4.lt g hg).2, h.s1, h.s2, h.s3, h.s4⟩
/-- behind node -/
theorem MdAt.node {sv' fv' : Value} {S' F' : List Nat} (h : MdAt w B nv sv fv S F fi Lf la Ll em Le nt Ln) (k : Fr B w sv fv w' sv' fv') (hM : MkAt w' B nv sv' fv' S' F') : MdAt w' B nv sv' fv' S' F' fi Lf la Ll em Le nt Ln := by
  refine ⟨hM, k.keep h.at_ h.row (by decide) (by decide) (by decide), own_kept h.o1 fun g hg => ?_, own_kept h.o2 fun g hg => ?_, own_kept h.o3 fun g hg => ?_, own_kept h.o4 fun g hg => ?_, fun g hg => ⟨(h.s1 g hg).1, fun e => ?_⟩, fun g hg => ⟨(h.s2 g hg).1, fun e => ?_⟩, h.s3, h.s4⟩
  · exact k.block g (h.o1.lt g hg).2 (by have := (h.o1.lt g hg).1; omega) (own_diff h.o1 h.at_.os (by decide) g hg) (h.s1 g hg).2
  · exact k.block g (h.o2.lt g hg).2 (by have := (h.o2.lt g hg).1; omega) (own_diff h.o2 h.at_.os (by decide) g hg) (h.s2 g hg).2
  · exact k.block g (h.o3.lt g hg).2 (by have := (h.o3.lt g hg).1; omega) (own_diff h.o3 h.at_.os (by decide) g hg) (own_diff h.o3 h.at_.of (by decide) g hg)
  · exact k.block g (h.o4.lt g hg).2 (by have := (h.o4.lt g hg).1; omega) (own_diff h.o4 h.at_.os (by decide) g hg) (own_diff h.o4 h.at_.of (by decide) g hg)
  · rcases k.of g e with h1 | h1
    · exact (h.s1 g hg).2 h1
    · have := (h.o1.lt g hg).2; omega
  · rcases k.of g e with h1 | h1
    · exact (h.s2 g hg).2 h1
    · have := (h.o2.lt g hg).2; omega
/-- behind an append to a slice of its own, stored at a place of the row: what is neither stays -/
theorem push_keep {e : TypeId} {s n A j : Nat} {v x : Value} {xs : List Value} {D : Nat} (hg : w.grownBy w' v.ownBlock) (u : Value) (hD : D < A) (k : w.ownsRow A e s x n xs) (hn : ∀ g, x.ownBlock = some g → v.ownBlock ≠ some g) :
    (w'.setCell ⟨D, j, none⟩ u).ownsRow A e s x n xs := by
  refine own_kept k fun g h1 => ?_
  rw [Below.heap_setCell _ _ _ _ (by have := (k.lt g h1).1; simp only; omega)]
  exact hg.block g (k.lt g h1).2 (fun e => hn g h1 e.symm)
theorem push_at {v u : Value} {D j : Nat} (h : MkAt w B nv sv fv S F) (hg : w.grownBy w' v.ownBlock) (h0 : ∀ g, v.ownBlock = some g → B < g ∧ sv.ownBlock ≠ some g ∧ fv.ownBlock ≠ some g) (hD : D ≠ B) (h1 : ∀ g, sv.ownBlock = some g → g ≠ D) (h2 : ∀ g, fv.ownBlock = some g → g ≠ D) :
    MkAt (w'.setCell ⟨D, j, none⟩ u) B nv sv fv S F := by
  refine ⟨h.row.kept ?_, own_kept h.os fun g h3 => ?_, own_kept h.of fun g h3 => ?_⟩
  · rw [Below.heap_setCell _ _ _ _ (fun e => hD e.symm)]
    exact hg.block B h.row.lt (fun e => by have := (h0 B e.symm).1; omega)
  · rw [Below.heap_setCell _ _ _ _ (h1 g h3)]
    exact hg.block g (h.os.lt g h3).2 (fun e => (h0 g e.symm).2.1 h3)
  · rw [Below.heap_setCell _ _ _ _ (h2 g h3)]
    exact hg.block g (h.of.lt g h3).2 (fun e => (h0 g e.symm).2.2 h3)
theorem off_row {D : Nat} {cs : Array Value} {fr : Nat × Nat} {e : TypeId} {s n A : Nat} {x : Value} {xs : List Value} (k : w.ownsRow A e s x n xs) (hD : w.heap[D]? = some (.cells cs 46 fr)) (he : e ≠ 46) : ∀ g, x.ownBlock = some g → g ≠ D := by
  intro g h1 h2
  subst h2
  rcases k.2 with ⟨h5, -⟩ | ⟨q, cap, cur, h5, -, h6, -⟩
  · rw [h5] at h1; cases h1
  · rw [h5] at h1
    have e1 : q = g := by simpa [Value.ownBlock] using h1
    subst e1
    rw [h6] at hD
    injection hD with hD
    injection hD with h9 h10
    exact he h10
theorem row_keep {v : Value} {D : Nat} {cs : Array Value} {t : TypeId} (hD : w.heap[D]? = some (.cells cs t (0, 0))) (hg : w.grownBy w' v.ownBlock) (hv : ∀ g, v.ownBlock = some g → D < g) : w'.heap[D]? = some (.cells cs t (0, 0)) := by
  rw [hg.block D (Array.getElem?_eq_some_iff.1 hD).1 (fun e => by have := hv D e.symm; omega)]; exact hD
theorem below_push {A D j : Nat} {v u : Value} (hg : w.grownBy w' v.ownBlock) (hv : ∀ g, v.ownBlock = some g → A ≤ g) (hD : A ≤ D) (hA : A ≤ w.heap.size) : Below A w (w'.setCell ⟨D, j, none⟩ u) :=
  ⟨hg.os, hg.tape, hg.output, by simpa using hg.size, fun k hk => by
    rw [Below.heap_setCell _ _ _ _ (by simp only; omega)]
    exact hg.block k (by omega) (fun e => by have := hv k e.symm; omega)⟩
theorem own_set {e : TypeId} {s n A D j : Nat} {x u : Value} {xs : List Value} (k : w.ownsRow A e s x n xs) (hD : D < A) : (w.setCell ⟨D, j, none⟩ u).ownsRow A e s x n xs :=
  own_kept k fun g hg => Below.heap_setCell _ _ _ _ (by have := (k.lt g hg).1; simp only; omega)
theorem new_sep {v v' x : Value} {e : TypeId} {s n A : Nat} {xs : List Value} (h : v'.ownBlock = v.ownBlock ∨ v'.ownBlock = some w.heap.size) (k : w.ownsRow A e s x n xs) (hn : ∀ g, v.ownBlock = some g → x.ownBlock ≠ some g) : ∀ g, v'.ownBlock = some g → x.ownBlock ≠ some g := by
  intro g hg e
  rcases h with h | h
  · exact hn g (h ▸ hg) e
  · rw [h] at hg
    injection hg with hg
    have := (k.lt g e).2
    omega
theorem sep_symm {v x : Value} (h : ∀ g, v.ownBlock = some g → x.ownBlock ≠ some g) : ∀ g, x.ownBlock = some g → v.ownBlock ≠ some g := fun g h1 h2 => h g h2 h1
theorem MdAt.push_fi {v' : Value} {x : Nat} (h0 : MdAt w B nv sv fv S F fi Lf la Ll em Le nt Ln) (h1 : OwnU (B + 2) w' v' (Lf ++ [x])) (hg : w.grownBy w' fi.ownBlock) (h3 : v'.ownBlock = fi.ownBlock ∨ v'.ownBlock = some w.heap.size) :
    ∃ a c, v' = .slice a (Lf.length + 1) c ∧ w'.heap[B + 1]? = some (.cells (mdC fi la em nt) 46 (0, 0)) ∧ Hid (MdAt (w'.setCell ⟨B + 1, 1, none⟩ v') B nv sv fv S F v' (Lf ++ [x]) la Ll em Le nt Ln) ∧ Hid (Below B w (w'.setCell ⟨B + 1, 1, none⟩ v')) ∧
      Hid (∀ k cs t fr, w.heap[k]? = some (.cells cs t fr) → t ≠ 24 → t ≠ 4 → k ≠ B + 1 → (w'.setCell ⟨B + 1, 1, none⟩ v').heap[k]? = some (.cells cs t fr)) := by
  have hvD : ∀ g, fi.ownBlock = some g → B + 1 < g := fun g h => by have := (h0.o1.lt g h).1; omega
  have hr := row_keep h0.row hg hvD
  obtain ⟨a, c, hv⟩ := own_slice h1
  rw [show (Lf ++ [x]).length = Lf.length + 1 from List.length_append.trans rfl] at hv
  have hlt := h0.lt
  refine ⟨a, c, hv, hr, Lib.hid ⟨?_, ?_, own_set h1 (by omega), push_keep hg _ (by omega) h0.o2 (sep_symm (fun g h => (h0.s1 g h).1)), push_keep hg _ (by omega) h0.o3 (sep_symm (own_diff h0.o1 h0.o3 (by decide))), push_keep hg _ (by omega) h0.o4 (sep_symm (own_diff h0.o1 h0.o4 (by decide))), fun g h => ⟨(new_sep h3 h0.o2 (fun g h => (h0.s1 g h).1)) g h, (new_sep h3 h0.at_.of (fun g h => (h0.s1 g h).2)) g h⟩, fun g h => ⟨(sep_symm (new_sep h3 h0.o2 (fun g h => (h0.s1 g h).1))) g h, (fun g h => (h0.s2 g h).2) g h⟩, (h0.s3), (h0.s4)⟩, Lib.hid (below_push hg (fun g h => by have := hvD g h; omega) (by omega) (by omega)), Lib.hid fun k cs t fr hk t1 t2 hkD => ?_⟩
  · exact push_at h0.at_ hg (fun g h => ⟨by have := hvD g h; omega, (own_diff h0.o1 h0.at_.os (by decide)) g h, (fun g h => (h0.s1 g h).2) g h⟩) (by omega) (off_row h0.at_.os h0.row (by decide)) (off_row h0.at_.of h0.row (by decide))
  · unfold mdC at hr ⊢
    simp [World.setCell, Array.getElem?_modify, hr]
  · rw [Below.heap_setCell _ _ _ _ hkD, hg.block k (Array.getElem?_eq_some_iff.1 hk).1 (fun e => ?_)]
    · exact hk
    · rcases h0.o1.2 with ⟨h5, -⟩ | ⟨q, cap, cur, h5, -, h6, -⟩
      · rw [h5] at e; cases e
      · rw [h5] at e
        have e1 : k = q := by simpa [Value.ownBlock] using e
        subst e1
        rw [h6] at hk
        injection hk with hk
        injection hk with h9 h10
        first | exact t1 h10.symm | exact t2 h10.symm
theorem MdAt.push_la {v' : Value} {x : Nat} (h0 : MdAt w B nv sv fv S F fi Lf la Ll em Le nt Ln) (h1 : OwnU (B + 2) w' v' (Ll ++ [x])) (hg : w.grownBy w' la.ownBlock) (h3 : v'.ownBlock = la.ownBlock ∨ v'.ownBlock = some w.heap.size) :
    ∃ a c, v' = .slice a (Ll.length + 1) c ∧ w'.heap[B + 1]? = some (.cells (mdC fi la em nt) 46 (0, 0)) ∧ Hid (MdAt (w'.setCell ⟨B + 1, 2, none⟩ v') B nv sv fv S F fi Lf v' (Ll ++ [x]) em Le nt Ln) ∧ Hid (Below B w (w'.setCell ⟨B + 1, 2, none⟩ v')) ∧
      Hid (∀ k cs t fr, w.heap[k]? = some (.cells cs t fr) → t ≠ 24 → t ≠ 4 → k ≠ B + 1 → (w'.setCell ⟨B + 1, 2, none⟩ v').heap[k]? = some (.cells cs t fr)) := by
  have hvD : ∀ g, la.ownBlock = some g → B + 1 < g := fun g h => by have := (h0.o2.lt g h).1; omega
  have hr := row_keep h0.row hg hvD
  obtain ⟨a, c, hv⟩ := own_slice h1
  rw [show (Ll ++ [x]).length = Ll.length + 1 from List.length_append.trans rfl] at hv
  have hlt := h0.lt
  refine ⟨a, c, hv, hr, Lib.hid ⟨?_, ?_, push_keep hg _ (by omega) h0.o1 (sep_symm (fun g h => (h0.s2 g h).1)), own_set h1 (by omega), push_keep hg _ (by omega) h0.o3 (sep_symm (own_diff h0.o2 h0.o3 (by decide))), push_keep hg _ (by omega) h0.o4 (sep_symm (own_diff h0.o2 h0.o4 (by decide))), fun g h => ⟨(sep_symm (new_sep h3 h0.o1 (fun g h => (h0.s2 g h).1))) g h, (fun g h => (h0.s1 g h).2) g h⟩, fun g h => ⟨(new_sep h3 h0.o1 (fun g h => (h0.s2 g h).1)) g h, (new_sep h3 h0.at_.of (fun g h => (h0.s2 g h).2)) g h⟩, (h0.s3), (h0.s4)⟩, Lib.hid (below_push hg (fun g h => by have := hvD g h; omega) (by omega) (by omega)), Lib.hid fun k cs t fr hk t1 t2 hkD => ?_⟩
  · exact push_at h0.at_ hg (fun g h => ⟨by have := hvD g h; omega, (own_diff h0.o2 h0.at_.os (by decide)) g h, (fun g h => (h0.s2 g h).2) g h⟩) (by omega) (off_row h0.at_.os h0.row (by decide)) (off_row h0.at_.of h0.row (by decide))
  · unfold mdC at hr ⊢
    simp [World.setCell, Array.getElem?_modify, hr]
  · rw [Below.heap_setCell _ _ _ _ hkD, hg.block k (Array.getElem?_eq_some_iff.1 hk).1 (fun e => ?_)]
    · exact hk
    · rcases h0.o2.2 with ⟨h5, -⟩ | ⟨q, cap, cur, h5, -, h6, -⟩
      · rw [h5] at e; cases e
      · rw [h5] at e
        have e1 : k = q := by simpa [Value.ownBlock] using e
        subst e1
        rw [h6] at hk
        injection hk with hk
        injection hk with h9 h10
        first | exact t1 h10.symm | exact t2 h10.symm
theorem MdAt.push_em {v' : Value} {x : Bool} (h0 : MdAt w B nv sv fv S F fi Lf la Ll em Le nt Ln) (h1 : OwnB (B + 2) w' v' (Le ++ [x])) (hg : w.grownBy w' em.ownBlock) (h3 : v'.ownBlock = em.ownBlock ∨ v'.ownBlock = some w.heap.size) :
    ∃ a c, v' = .slice a (Le.length + 1) c ∧ w'.heap[B + 1]? = some (.cells (mdC fi la em nt) 46 (0, 0)) ∧ Hid (MdAt (w'.setCell ⟨B + 1, 4, none⟩ v') B nv sv fv S F fi Lf la Ll v' (Le ++ [x]) nt Ln) ∧ Hid (Below B w (w'.setCell ⟨B + 1, 4, none⟩ v')) ∧
      Hid (∀ k cs t fr, w.heap[k]? = some (.cells cs t fr) → t ≠ 24 → t ≠ 4 → k ≠ B + 1 → (w'.setCell ⟨B + 1, 4, none⟩ v').heap[k]? = some (.cells cs t fr)) := by
  have hvD : ∀ g, em.ownBlock = some g → B + 1 < g := fun g h => by have := (h0.o3.lt g h).1; omega
  have hr := row_keep h0.row hg hvD
  obtain ⟨a, c, hv⟩ := own_slice h1
  rw [show (Le ++ [x]).length = Le.length + 1 from List.length_append.trans rfl] at hv
  have hlt := h0.lt
  refine ⟨a, c, hv, hr, Lib.hid ⟨?_, ?_, push_keep hg _ (by omega) h0.o1 (sep_symm (own_diff h0.o3 h0.o1 (by decide))), push_keep hg _ (by omega) h0.o2 (sep_symm (own_diff h0.o3 h0.o2 (by decide))), own_set h1 (by omega), push_keep hg _ (by omega) h0.o4 (sep_symm (h0.s3)), fun g h => ⟨(fun g h => (h0.s1 g h).1) g h, (fun g h => (h0.s1 g h).2) g h⟩, fun g h => ⟨(fun g h => (h0.s2 g h).1) g h, (fun g h => (h0.s2 g h).2) g h⟩, (new_sep h3 h0.o4 (h0.s3)), (sep_symm (new_sep h3 h0.o4 (h0.s3)))⟩, Lib.hid (below_push hg (fun g h => by have := hvD g h; omega) (by omega) (by omega)), Lib.hid fun k cs t fr hk t1 t2 hkD => ?_⟩
  · exact push_at h0.at_ hg (fun g h => ⟨by have := hvD g h; omega, (own_diff h0.o3 h0.at_.os (by decide)) g h, (own_diff h0.o3 h0.at_.of (by decide)) g h⟩) (by omega) (off_row h0.at_.os h0.row (by decide)) (off_row h0.at_.of h0.row (by decide))
  · unfold mdC at hr ⊢
    simp [World.setCell, Array.getElem?_modify, hr]
  · rw [Below.heap_setCell _ _ _ _ hkD, hg.block k (Array.getElem?_eq_some_iff.1 hk).1 (fun e => ?_)]
    · exact hk
    · rcases h0.o3.2 with ⟨h5, -⟩ | ⟨q, cap, cur, h5, -, h6, -⟩
      · rw [h5] at e; cases e
      · rw [h5] at e
        have e1 : k = q := by simpa [Value.ownBlock] using e
        subst e1
        rw [h6] at hk
        injection hk with hk
        injection hk with h9 h10
        first | exact t1 h10.symm | exact t2 h10.symm
theorem MdAt.push_nt {v' : Value} {x : Bool} (h0 : MdAt w B nv sv fv S F fi Lf la Ll em Le nt Ln) (h1 : OwnB (B + 2) w' v' (Ln ++ [x])) (hg : w.grownBy w' nt.ownBlock) (h3 : v'.ownBlock = nt.ownBlock ∨ v'.ownBlock = some w.heap.size) :
    ∃ a c, v' = .slice a (Ln.length + 1) c ∧ w'.heap[B + 1]? = some (.cells (mdC fi la em nt) 46 (0, 0)) ∧ Hid (MdAt (w'.setCell ⟨B + 1, 5, none⟩ v') B nv sv fv S F fi Lf la Ll em Le v' (Ln ++ [x])) ∧ Hid (Below B w (w'.setCell ⟨B + 1, 5, none⟩ v')) ∧
      Hid (∀ k cs t fr, w.heap[k]? = some (.cells cs t fr) → t ≠ 24 → t ≠ 4 → k ≠ B + 1 → (w'.setCell ⟨B + 1, 5, none⟩ v').heap[k]? = some (.cells cs t fr)) := by
  have hvD : ∀ g, nt.ownBlock = some g → B + 1 < g := fun g h => by have := (h0.o4.lt g h).1; omega
  have hr := row_keep h0.row hg hvD
  obtain ⟨a, c, hv⟩ := own_slice h1
  rw [show (Ln ++ [x]).length = Ln.length + 1 from List.length_append.trans rfl] at hv
  have hlt := h0.lt
  refine ⟨a, c, hv, hr, Lib.hid ⟨?_, ?_, push_keep hg _ (by omega) h0.o1 (sep_symm (own_diff h0.o4 h0.o1 (by decide))), push_keep hg _ (by omega) h0.o2 (sep_symm (own_diff h0.o4 h0.o2 (by decide))), push_keep hg _ (by omega) h0.o3 (sep_symm (h0.s4)), own_set h1 (by omega), fun g h => ⟨(fun g h => (h0.s1 g h).1) g h, (fun g h => (h0.s1 g h).2) g h⟩, fun g h => ⟨(fun g h => (h0.s2 g h).1) g h, (fun g h => (h0.s2 g h).2) g h⟩, (sep_symm (new_sep h3 h0.o3 (h0.s4))), (new_sep h3 h0.o3 (h0.s4))⟩, Lib.hid (below_push hg (fun g h => by have := hvD g h; omega) (by omega) (by omega)), Lib.hid fun k cs t fr hk t1 t2 hkD => ?_⟩
  · exact push_at h0.at_ hg (fun g h => ⟨by have := hvD g h; omega, (own_diff h0.o4 h0.at_.os (by decide)) g h, (own_diff h0.o4 h0.at_.of (by decide)) g h⟩) (by omega) (off_row h0.at_.os h0.row (by decide)) (off_row h0.at_.of h0.row (by decide))
  · unfold mdC at hr ⊢
    simp [World.setCell, Array.getElem?_modify, hr]
  · rw [Below.heap_setCell _ _ _ _ hkD, hg.block k (Array.getElem?_eq_some_iff.1 hk).1 (fun e => ?_)]
    · exact hk
    · rcases h0.o4.2 with ⟨h5, -⟩ | ⟨q, cap, cur, h5, -, h6, -⟩
      · rw [h5] at e; cases e
      · rw [h5] at e
        have e1 : k = q := by simpa [Value.ownBlock] using e
        subst e1
        rw [h6] at hk
        injection hk with hk
        injection hk with h9 h10
        first | exact t1 h10.symm | exact t2 h10.symm
theorem mdC_cells {w : World} {D : Nat} {fi la em nt : Value} (h : w.heap[D]? = some (.cells (mdC fi la em nt) 46 (0, 0))) : w.cell? ⟨D, 1, none⟩ = some fi ∧ w.cell? ⟨D, 2, none⟩ = some la ∧ w.cell? ⟨D, 4, none⟩ = some em ∧ w.cell? ⟨D, 5, none⟩ = some nt := by
  unfold mdC at h; simp [World.cell?, h]
theorem mdC_frozen {w : World} {D : Nat} {fi la em nt : Value} (h : w.heap[D]? = some (.cells (mdC fi la em nt) 46 (0, 0))) (i : Nat) : w.frozen? ⟨D, i, none⟩ = false := by
  unfold mdC at h; simp [World.frozen?, h]
theorem wpList_push_fi {ops : Array Oper} {rest : List Oper} {o : Oper} {a : Act} {Q : Exit → Act → World → Prop} {x : Nat} (hgd : o.guard = none) (s y : Operand)
    (ho : o.op = .call { callee := .builtin .append, args := #[s, y], argTypes := #[43, 43] }) (h0 : MdAt w B nv sv fv S F fi Lf la Ll em Le nt Ln) (g : Nat) (hgs : w.heap.size = g) (hs : a.eval s = fi) (hx : a.eval y = .slice (some ⟨g, 0, none⟩) 1 1) (hN : Lf.length ≤ 1000)
    (k : ∀ a' c w', w'.frozen? ⟨B + 1, 1, none⟩ = false → w'.cell? ⟨B + 1, 1, none⟩ = some fi → w'.cell? ⟨B + 1, 2, none⟩ = some la → w'.cell? ⟨B + 1, 4, none⟩ = some em → w'.cell? ⟨B + 1, 5, none⟩ = some nt → g < w'.heap.size →
      Hid (MdAt (w'.setCell ⟨B + 1, 1, none⟩ (.slice a' (Lf.length + 1) c)) B nv sv fv S F (.slice a' (Lf.length + 1) c) (Lf ++ [x]) la Ll em Le nt Ln) → Hid (Below B w (w'.setCell ⟨B + 1, 1, none⟩ (.slice a' (Lf.length + 1) c))) →
      Hid (∀ k cs t fr, w.heap[k]? = some (.cells cs t fr) → t ≠ 24 → t ≠ 4 → k ≠ B + 1 → w'.heap[k]? = some (.cells cs t fr)) → wpList Tryd.prog ops Q rest (a.put o.dst (.slice a' (Lf.length + 1) c)) w') :
    wpList Tryd.prog ops Q (o :: rest) a (w.alloc (.cells #[.int .u64 (x : Nat)] 24)) := by
  have hal := (Below.refl w.heap.size w).alloc (Nat.le_refl _) (.cells #[.int .u64 (x : Nat)] 24)
  have hlt := h0.lt
  refine wpList_append_u64 hgd s y ho (B + 2) fi Lf x hs g (by subst hgs; simp) (h0.below hal).o1 hx hN (by simp; omega) ?_
  intro v' w' h1 h2 h3 _
  obtain ⟨a', c, rfl, hr, HM, HB, HK⟩ := (h0.below hal).push_fi h1 h2 h3
  obtain ⟨c1, c2, c4, c5⟩ := mdC_cells hr
  refine k a' c w' (mdC_frozen hr _) c1 c2 c4 c5 (by have := h2.size; simp at this; omega) HM (Lib.hid ((hal.mono (by omega)).trans HB.out)) (Lib.hid fun k cs t fr hk t1 t2 hkD => ?_)
  have := HK.out k cs t fr ((hal.block k (Array.getElem?_eq_some_iff.1 hk).1).trans hk) t1 t2 hkD
  rw [Below.heap_setCell _ _ _ _ hkD] at this
  exact this
theorem wpList_push_la {ops : Array Oper} {rest : List Oper} {o : Oper} {a : Act} {Q : Exit → Act → World → Prop} {x : Nat} (hgd : o.guard = none) (s y : Operand)
    (ho : o.op = .call { callee := .builtin .append, args := #[s, y], argTypes := #[43, 43] }) (h0 : MdAt w B nv sv fv S F fi Lf la Ll em Le nt Ln) (g : Nat) (hgs : w.heap.size = g) (hs : a.eval s = la) (hx : a.eval y = .slice (some ⟨g, 0, none⟩) 1 1) (hN : Ll.length ≤ 1000)
    (k : ∀ a' c w', w'.frozen? ⟨B + 1, 2, none⟩ = false → w'.cell? ⟨B + 1, 1, none⟩ = some fi → w'.cell? ⟨B + 1, 2, none⟩ = some la → w'.cell? ⟨B + 1, 4, none⟩ = some em → w'.cell? ⟨B + 1, 5, none⟩ = some nt → g < w'.heap.size →
      Hid (MdAt (w'.setCell ⟨B + 1, 2, none⟩ (.slice a' (Ll.length + 1) c)) B nv sv fv S F fi Lf (.slice a' (Ll.length + 1) c) (Ll ++ [x]) em Le nt Ln) → Hid (Below B w (w'.setCell ⟨B + 1, 2, none⟩ (.slice a' (Ll.length + 1) c))) →
      Hid (∀ k cs t fr, w.heap[k]? = some (.cells cs t fr) → t ≠ 24 → t ≠ 4 → k ≠ B + 1 → w'.heap[k]? = some (.cells cs t fr)) → wpList Tryd.prog ops Q rest (a.put o.dst (.slice a' (Ll.length + 1) c)) w') :
    wpList Tryd.prog ops Q (o :: rest) a (w.alloc (.cells #[.int .u64 (x : Nat)] 24)) := by
  have hal := (Below.refl w.heap.size w).alloc (Nat.le_refl _) (.cells #[.int .u64 (x : Nat)] 24)
  have hlt := h0.lt
  refine wpList_append_u64 hgd s y ho (B + 2) la Ll x hs g (by subst hgs; simp) (h0.below hal).o2 hx hN (by simp; omega) ?_
  intro v' w' h1 h2 h3 _
  obtain ⟨a', c, rfl, hr, HM, HB, HK⟩ := (h0.below hal).push_la h1 h2 h3
  obtain ⟨c1, c2, c4, c5⟩ := mdC_cells hr
  refine k a' c w' (mdC_frozen hr _) c1 c2 c4 c5 (by have := h2.size; simp at this; omega) HM (Lib.hid ((hal.mono (by omega)).trans HB.out)) (Lib.hid fun k cs t fr hk t1 t2 hkD => ?_)
  have := HK.out k cs t fr ((hal.block k (Array.getElem?_eq_some_iff.1 hk).1).trans hk) t1 t2 hkD
  rw [Below.heap_setCell _ _ _ _ hkD] at this
  exact this
theorem wpList_push_em {ops : Array Oper} {rest : List Oper} {o : Oper} {a : Act} {Q : Exit → Act → World → Prop} {x : Bool} (hgd : o.guard = none) (s y : Operand)
    (ho : o.op = .call { callee := .builtin .append, args := #[s, y], argTypes := #[44, 44] }) (h0 : MdAt w B nv sv fv S F fi Lf la Ll em Le nt Ln) (g : Nat) (hgs : w.heap.size = g) (hs : a.eval s = em) (hx : a.eval y = .slice (some ⟨g, 0, none⟩) 1 1) (hN : Le.length ≤ 1000)
    (k : ∀ a' c w', w'.frozen? ⟨B + 1, 4, none⟩ = false → w'.cell? ⟨B + 1, 1, none⟩ = some fi → w'.cell? ⟨B + 1, 2, none⟩ = some la → w'.cell? ⟨B + 1, 4, none⟩ = some em → w'.cell? ⟨B + 1, 5, none⟩ = some nt → g < w'.heap.size →
      Hid (MdAt (w'.setCell ⟨B + 1, 4, none⟩ (.slice a' (Le.length + 1) c)) B nv sv fv S F fi Lf la Ll (.slice a' (Le.length + 1) c) (Le ++ [x]) nt Ln) → Hid (Below B w (w'.setCell ⟨B + 1, 4, none⟩ (.slice a' (Le.length + 1) c))) →
      Hid (∀ k cs t fr, w.heap[k]? = some (.cells cs t fr) → t ≠ 24 → t ≠ 4 → k ≠ B + 1 → w'.heap[k]? = some (.cells cs t fr)) → wpList Tryd.prog ops Q rest (a.put o.dst (.slice a' (Le.length + 1) c)) w') :
    wpList Tryd.prog ops Q (o :: rest) a (w.alloc (.cells #[.bool x] 4)) := by
  have hal := (Below.refl w.heap.size w).alloc (Nat.le_refl _) (.cells #[.bool x] 4)
  have hlt := h0.lt
  refine wpList_append_bool hgd s y ho (B + 2) em Le x hs g (by subst hgs; simp) (h0.below hal).o3 hx hN (by simp; omega) ?_
  intro v' w' h1 h2 h3
  obtain ⟨a', c, rfl, hr, HM, HB, HK⟩ := (h0.below hal).push_em h1 h2 h3
  obtain ⟨c1, c2, c4, c5⟩ := mdC_cells hr
  refine k a' c w' (mdC_frozen hr _) c1 c2 c4 c5 (by have := h2.size; simp at this; omega) HM (Lib.hid ((hal.mono (by omega)).trans HB.out)) (Lib.hid fun k cs t fr hk t1 t2 hkD => ?_)
  have := HK.out k cs t fr ((hal.block k (Array.getElem?_eq_some_iff.1 hk).1).trans hk) t1 t2 hkD
  rw [Below.heap_setCell _ _ _ _ hkD] at this
  exact this
theorem wpList_push_nt {ops : Array Oper} {rest : List Oper} {o : Oper} {a : Act} {Q : Exit → Act → World → Prop} {x : Bool} (hgd : o.guard = none) (s y : Operand)
    (ho : o.op = .call { callee := .builtin .append, args := #[s, y], argTypes := #[44, 44] }) (h0 : MdAt w B nv sv fv S F fi Lf la Ll em Le nt Ln) (g : Nat) (hgs : w.heap.size = g) (hs : a.eval s = nt) (hx : a.eval y = .slice (some ⟨g, 0, none⟩) 1 1) (hN : Ln.length ≤ 1000)
    (k : ∀ a' c w', w'.frozen? ⟨B + 1, 5, none⟩ = false → w'.cell? ⟨B + 1, 1, none⟩ = some fi → w'.cell? ⟨B + 1, 2, none⟩ = some la → w'.cell? ⟨B + 1, 4, none⟩ = some em → w'.cell? ⟨B + 1, 5, none⟩ = some nt → g < w'.heap.size →
      Hid (MdAt (w'.setCell ⟨B + 1, 5, none⟩ (.slice a' (Ln.length + 1) c)) B nv sv fv S F fi Lf la Ll em Le (.slice a' (Ln.length + 1) c) (Ln ++ [x])) → Hid (Below B w (w'.setCell ⟨B + 1, 5, none⟩ (.slice a' (Ln.length + 1) c))) →
      Hid (∀ k cs t fr, w.heap[k]? = some (.cells cs t fr) → t ≠ 24 → t ≠ 4 → k ≠ B + 1 → w'.heap[k]? = some (.cells cs t fr)) → wpList Tryd.prog ops Q rest (a.put o.dst (.slice a' (Ln.length + 1) c)) w') :
    wpList Tryd.prog ops Q (o :: rest) a (w.alloc (.cells #[.bool x] 4)) := by
  have hal := (Below.refl w.heap.size w).alloc (Nat.le_refl _) (.cells #[.bool x] 4)
  have hlt := h0.lt
  refine wpList_append_bool hgd s y ho (B + 2) nt Ln x hs g (by subst hgs; simp) (h0.below hal).o4 hx hN (by simp; omega) ?_
  intro v' w' h1 h2 h3
  obtain ⟨a', c, rfl, hr, HM, HB, HK⟩ := (h0.below hal).push_nt h1 h2 h3
  obtain ⟨c1, c2, c4, c5⟩ := mdC_cells hr
  refine k a' c w' (mdC_frozen hr _) c1 c2 c4 c5 (by have := h2.size; simp at this; omega) HM (Lib.hid ((hal.mono (by omega)).trans HB.out)) (Lib.hid fun k cs t fr hk t1 t2 hkD => ?_)
  have := HK.out k cs t fr ((hal.block k (Array.getElem?_eq_some_iff.1 hk).1).trans hk) t1 t2 hkD
  rw [Below.heap_setCell _ _ _ _ hkD] at this
  exact this
end Go.Proofs.YtcgllipcnmlkbaaDoor
namespace Go.Proofs.YtcgllipcnmlkbaaDoor
open Go.RowKit Sets Tr Rx Sp
def UAt (w : World) (v : Value) (l : List Nat) : Prop := ∃ a c, v = .slice a l.length c ∧ ∀ i, i < l.length → ∃ b o, a = some ⟨b, o, none⟩ ∧ w.cell? ⟨b, o + i, none⟩ = some (.int .u64 ((l.getD i 0 : Nat) : Int))
theorem UAt.of {w : World} {B : Nat} {v : Value} {l : List Nat} (h : OwnU B w v l) : UAt w v l := by
  rcases h.2 with ⟨h1, h2⟩ | ⟨g, cap, cur, h1, -⟩
  · exact ⟨none, 0, by rw [h1, h2], fun i hi => by omega⟩
  · refine ⟨_, cap, h1, fun i hi => ⟨g, 0, rfl, ?_⟩⟩
    subst h1
    have := World.ownsRow.cellAt h i (by omega)
    rw [Nat.zero_add, this]
    unfold u64L
    rw [List.getElem?_map, List.getElem?_eq_getElem hi, List.getD_eq_getElem?_getD, List.getElem?_eq_getElem hi]
    rfl
theorem UAt.kept {w w' : World} {v : Value} {l : List Nat} (h : UAt w v l) (hb : Below w.heap.size w w') : UAt w' v l := by
  obtain ⟨a, c, h1, h2⟩ := h
  refine ⟨a, c, h1, fun i hi => ?_⟩
  obtain ⟨b, o, e, hc⟩ := h2 i hi
  exact ⟨b, o, e, (hb.cell (World.block_lt_of_cell? _ _ hc)).trans hc⟩
theorem UAt.lit (w : World) (l : List Nat) : UAt (w.alloc (.cells (u64L l).toArray 24)) (.slice (some ⟨w.heap.size, 0, none⟩) l.length l.length) l := by
  refine ⟨_, _, rfl, fun i hi => ⟨w.heap.size, 0, rfl, ?_⟩⟩
  rw [Nat.zero_add, cell_of_row _ _ i _ _ _ (heap_alloc_new w _), List.getElem?_toArray]
  unfold u64L
  rw [List.getElem?_map, List.getElem?_eq_getElem hi, List.getD_eq_getElem?_getD, List.getElem?_eq_getElem hi]
  rfl
theorem meas15 {i c : Nat} (h : i < c) : ((c : Int) - ((i : Int) + 1)).toNat < ((c : Int) - (i : Int)).toNat := by omega
theorem list_eq_of {l k : List Nat} (hl : l.length = k.length) (h : ∀ i, i < l.length → l.getD i 0 = k.getD i 0) : l = k := by
  apply List.ext_getElem hl
  intro i h1 h2
  have := h i h1
  rw [List.getD_eq_getElem?_getD, List.getElem?_eq_getElem h1, List.getD_eq_getElem?_getD, List.getElem?_eq_getElem h2] at this
  exact this
theorem UAt.litc (w : World) (l : List Nat) (cs : Array Value) (hcs : cs = (u64L l).toArray) : UAt (w.alloc (.cells cs 24)) (.slice (some ⟨w.heap.size, 0, none⟩) l.length l.length) l := by
  subst hcs; exact UAt.lit w l
end Go.Proofs.YtcgllipcnmlkbaaDoor
