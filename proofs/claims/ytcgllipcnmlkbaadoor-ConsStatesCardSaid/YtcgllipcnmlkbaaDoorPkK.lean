/- Several texts in one. -/
import Derived.Test.YtcgllipcnmlkbaaDoorPkJ
import Derived.Maps.AppendAt
import Derived.Deep.OwnRows
namespace Go.Proofs.YtcgllipcnmlkbaaDoor
open Go.RowKit Sets Tr Rx
def nds (N : List Nd) : List Value := N.flatMap nd9
theorem nds_length (N : List Nd) : (nds N).length = N.length * 9 := by
  induction N with
  | nil => rfl
  | cons x N ih => unfold nds at *; rw [List.flatMap_cons, List.length_append, ih, List.length_cons]; simp [nd9]; omega
theorem nds_append (N M : List Nd) : nds (N ++ M) = nds N ++ nds M := by unfold nds; simp
theorem nds_get (N : List Nd) (i q : Nat) (hi : i < N.length) (v : Value) (hq : (nd9 (N.getD i default))[q]? = some v) : (nds N)[i * 9 + q]? = some v := by
  induction N generalizing i with
  | nil => simp at hi
  | cons x N ih =>
    have hl : (nd9 x).length = 9 := by simp [nd9]
    cases i with
    | zero =>
      simp only [List.getD_cons_zero] at hq
      unfold nds
      rw [List.flatMap_cons, Nat.zero_mul, Nat.zero_add, List.getElem?_append_left (List.getElem?_eq_some_iff.1 hq).1]
      exact hq
    | succ i =>
      simp only [List.getD_cons_succ] at hq
      unfold nds
      rw [List.flatMap_cons, List.getElem?_append_right (by rw [hl]; omega), hl, show (i + 1) * 9 + q - 9 = i * 9 + q from by omega]
      exact ih i (by simpa using hi) hq
theorem nds_ones (N : List Nd) : ∀ u ∈ nds N, u.oneCell' = true := by
  intro u hu
  unfold nds at hu
  obtain ⟨S, -, hS⟩ := List.mem_flatMap.1 hu
  simp [nd9] at hS
  rcases hS with rfl | rfl | rfl | rfl | rfl | rfl | rfl | rfl | rfl <;> rfl
theorem infoNode : (Tryd.prog.info? 96).map (fun i => (i.zero, i.size, i.bytes)) = some (some (.agg #[.int .u8 0, .int .u64 0, .int .u64 0, .int .u64 0, .int .u64 0, .int .i64 0, .int .i64 0, .int .i64 0, .int .i64 0]), 9, 72) := by kernel_rfl
theorem infoPart : (Tryd.prog.info? 78).map (fun i => (i.zero, i.size, i.bytes)) = some (some (.agg #[.int .i64 0, .bool false]), 2, 16) := by kernel_rfl
/-- v holds the nodes N, in memory of the reader's own, behind block B -/
def OwnN (B : Nat) (w : World) (v : Value) (N : List Nd) : Prop := w.ownsRow (B + 1) 96 9 v N.length (nds N)
def pts (R : List (Int × Bool)) : List Value := R.flatMap pt2
theorem pts_length (N : List (Int × Bool)) : (pts N).length = N.length * 2 := by
  induction N with
  | nil => rfl
  | cons x N ih => unfold pts at *; rw [List.flatMap_cons, List.length_append, ih, List.length_cons]; simp [pt2]; omega
theorem pts_append (N M : List (Int × Bool)) : pts (N ++ M) = pts N ++ pts M := by unfold pts; simp
theorem pts_ones (N : List (Int × Bool)) : ∀ u ∈ pts N, u.oneCell' = true := by
  intro u hu
  unfold pts at hu
  obtain ⟨S, -, hS⟩ := List.mem_flatMap.1 hu
  simp [pt2] at hS
  rcases hS with rfl | rfl <;> rfl
def OwnP (B : Nat) (w : World) (v : Value) (R : List (Int × Bool)) : Prop := w.ownsRow (B + 1) 78 2 v R.length (pts R)
theorem own_kept {w w' : World} {base : Nat} {e : TypeId} {size : Nat} {v : Value} {n : Nat} {xs : List Value} (h : w.ownsRow base e size v n xs) (hk : ∀ g, v.ownBlock = some g → w'.heap[g]? = w.heap[g]?) : w'.ownsRow base e size v n xs := by
  obtain ⟨h1, h2⟩ := h
  refine ⟨h1, ?_⟩
  rcases h2 with h2 | ⟨g, cap, cur, h3, h4, h5, h6⟩
  · exact .inl h2
  · exact .inr ⟨g, cap, cur, h3, h4, by rw [hk g (by rw [h3]; rfl)]; exact h5, h6⟩
theorem own_slice {w : World} {base : Nat} {e : TypeId} {size : Nat} {v : Value} {n : Nat} {xs : List Value} (h : w.ownsRow base e size v n xs) : ∃ a c, v = .slice a n c := by
  rcases h.2 with ⟨h1, h2⟩ | ⟨g, cap, cur, h1, -, -, h2, -⟩
  · exact ⟨none, 0, by rw [h1, h2]⟩
  · exact ⟨_, cap, h1⟩
/-- the reader in block B, and what it laid -/
structure RdAt (w : World) (B : Nat) (s : ByteArray) (p o : Nat) (ns : List Nd) (ps : List (Int × Bool)) (nv pv : Value) : Prop where
  row : Row w B s p o nv pv
  on : OwnN B w nv ns
  op : OwnP B w pv ps
theorem RdAt.apart {w : World} {B : Nat} {s : ByteArray} {p o : Nat} {ns : List Nd} {ps : List (Int × Bool)} {nv pv : Value} (h : RdAt w B s p o ns ps nv pv) : ∀ g, nv.ownBlock = some g → pv.ownBlock ≠ some g := by
  intro g h1 h2
  rcases h.on.2 with ⟨h3, -⟩ | ⟨k, cap, cur, h3, -, h4, -⟩
  · rw [h3] at h1; cases h1
  · rcases h.op.2 with ⟨h5, -⟩ | ⟨k', cap', cur', h5, -, h6, -⟩
    · rw [h5] at h2; cases h2
    · rw [h3] at h1
      rw [h5] at h2
      have e1 : k = g := by simpa [Value.ownBlock] using h1
      have e2 : k' = g := by simpa [Value.ownBlock] using h2
      subst e1 e2
      rw [h4] at h6
      injection h6 with h6
      injection h6 with h6 h7
      exact absurd h7 (by decide)
theorem RdAt.but {w w' : World} {B : Nat} {s : ByteArray} {p q o : Nat} {ns : List Nd} {ps : List (Int × Bool)} {nv pv : Value} (h : RdAt w B s p o ns ps nv pv) (hR : Row w' B s q o nv pv) (hb : But B w w') : RdAt w' B s q o ns ps nv pv :=
  ⟨hR, own_kept h.on fun g hg => hb.block g (h.on.lt g hg).2 (fun e => by have := (h.on.lt g hg).1; omega), own_kept h.op fun g hg => hb.block g (h.op.lt g hg).2 (fun e => by have := (h.op.lt g hg).1; omega)⟩
theorem RdAt.below {w w' : World} {B : Nat} {s : ByteArray} {p o : Nat} {ns : List Nd} {ps : List (Int × Bool)} {nv pv : Value} (h : RdAt w B s p o ns ps nv pv) (hb : Below w.heap.size w w') : RdAt w' B s p o ns ps nv pv :=
  h.but (h.row.below hb) (.of_below hb)
theorem But.belowB {B : Nat} {w w' : World} (h : But B w w') (hB : B < w.heap.size) : Below B w w' := ⟨h.os, h.tape, h.output, h.size, fun k hk => h.block k (by omega) (by omega)⟩
theorem fold_get (l : List Value) : ∀ (k : Nat) (z : Array Value) (i : Nat), (((l.zipIdx k).foldl (fun cs x => cs.setIfInBounds (0 + x.2) x.1) z)[i]?) = if k ≤ i ∧ i < k + l.length ∧ i < z.size then l[i - k]? else z[i]? := by
  induction l with
  | nil => intro k z i; rw [if_neg (by simp; omega)]; rfl
  | cons x l ih =>
    intro k z i
    rw [List.zipIdx_cons, List.foldl_cons, ih, Array.size_setIfInBounds, Nat.zero_add]
    by_cases hi : i = k
    · subst hi
      rw [if_neg (by omega), Array.getElem?_setIfInBounds_self]
      by_cases hz : i < z.size
      · rw [if_pos hz, if_pos ⟨by omega, by simp, hz⟩, Nat.sub_self]; rfl
      · rw [if_neg hz, if_neg (by omega), Array.getElem?_eq_none (by omega)]
    · rw [Array.getElem?_setIfInBounds_ne (by omega)]
      by_cases h : k ≤ i ∧ i < k + (x :: l).length ∧ i < z.size
      · rw [if_pos h, if_pos (by simp at h; omega), show i - k = i - (k + 1) + 1 from by omega]; rfl
      · rw [if_neg h, if_neg (by simp at h; omega)]
theorem fill_whole (place : Nat → Option (Nat × Nat)) (z c : Array Value) (n : Nat) (hp : place 0 = some (0, n)) (hn : c.size = n) (hz : z.size = n) : Instr.fill place z [(0, .agg c)] = some c := by
  unfold Instr.fill
  rw [hp]
  show (if (decide (c.size ≠ n) || decide (0 + c.size > z.size)) = true then none else Instr.fill place _ []) = _
  rw [if_neg (by simp; omega)]
  unfold Instr.fill
  congr 1
  show (c.zipIdx.foldl (fun cs x => cs.setIfInBounds (0 + x.2) x.1) z) = c
  rw [← Array.foldl_toList, Array.toList_zipIdx]
  apply Array.ext_getElem?
  intro i
  rw [fold_get]
  by_cases h : i < n
  · rw [if_pos ⟨by omega, by rw [Array.length_toList]; omega, by omega⟩, Nat.sub_zero, Array.getElem?_toList]
  · rw [if_neg (by omega), Array.getElem?_eq_none (by omega), Array.getElem?_eq_none (by omega)]
theorem run_buildNode (x : Nd) (w : World) : (Instr.buildSlice 36 1 #[(0, .agg (nd9 x).toArray)]).run Tryd.prog w = .ok (.slice (some ⟨w.heap.size, 0, none⟩) 1 1) (w.alloc (.cells (nd9 x).toArray 96)) := by
  have h1 : (underlying 36).run Tryd.prog w = .ok (.slice 96) w := by kernel_rfl
  have h2 : (sizeOf 96).run Tryd.prog w = .ok 9 w := by kernel_rfl
  unfold Instr.buildSlice
  simp only [Sem.run_bind, h1, h2, Result.andThen_ok]
  rw [if_neg (by decide), if_neg (by decide)]
  simp only [Sem.run_bind, Sem.run_pure, zeroNode, Result.andThen_ok]
  rw [fill_whole _ _ (nd9 x).toArray 9 rfl rfl (by rw [Array.size_map, Array.size_range])]
  rfl
theorem wpList_buildNode {ops : Array Oper} {rest : List Oper} {o : Oper} {a : Act} {w : World} {Q : Exit → Act → World → Prop} (hgd : o.guard = none) (y : Operand)
    (ho : o.op = .buildSlice 36 1 #[(0, y)]) (x : Nd) (hx : a.eval y = .agg (nd9 x).toArray) (h : wpList Tryd.prog ops Q rest (a.put o.dst (.slice (some ⟨w.heap.size, 0, none⟩) 1 1)) (w.alloc (.cells (nd9 x).toArray 96))) : wpList Tryd.prog ops Q (o :: rest) a w := by
  refine wpList_plain hgd fun K hK => ?_
  unfold Oper.wp execOp
  simp only [ho]
  have e : (#[((0 : Nat), y)].map fun y : Nat × Operand => (y.1, a.eval y.2)) = #[(0, .agg (nd9 x).toArray)] := by simp [hx]
  rw [e]
  simp only [Sem.run_bind, Sem.run_pure, run_buildNode, Result.andThen_ok]
  exact hK _ _ h
/-- one node, just laid, is appended -/
theorem wpList_append_node {ops : Array Oper} {rest : List Oper} {o : Oper} {a : Act} {w : World} {Q : Exit → Act → World → Prop} (hgd : o.guard = none) (s y : Operand)
    (ho : o.op = .call { callee := .builtin .append, args := #[s, y], argTypes := #[36, 36] }) (B : Nat) (v : Value) (N : List Nd) (x : Nd) (hs : a.eval s = v)
    (g : Nat) (hc : w.rangeAt g 0 (nd9 x)) (hown : OwnN B w v N) (hx : a.eval y = .slice (some ⟨g, 0, none⟩) 1 1) (hN : N.length ≤ 1000) (hbase : B + 1 ≤ w.heap.size)
    (h : ∀ v' w', OwnN B w' v' (N ++ [x]) → w.grownBy w' v.ownBlock → (v'.ownBlock = v.ownBlock ∨ v'.ownBlock = some w.heap.size) → wpList Tryd.prog ops Q rest (a.put o.dst v') w') :
    wpList Tryd.prog ops Q (o :: rest) a w := by
  obtain ⟨i0, hi, hz0, hz1, hz2⟩ := info_parts infoNode
  refine wpList_append_own_at _ hgd s y 36 ho (B + 1) 96 i0 _ 9 72 Tryd.underlying36 hi hz0 hz1 hz2 rfl (by decide) v _ _ hs hown ⟨g, 0, none⟩ 1 1 (nd9 x) hx rfl ?_ ?_ ?_ ?_ hbase ?_
  · intro j u hj
    rw [Addr.add_lit]
    exact hc j u hj
  · have := nds_ones [x]
    simpa [nds] using this
  · unfold maxLen; omega
  · omega
  · intro v' w' h1 h2 _ h4
    refine h v' w' ?_ h2 h4
    unfold OwnN
    rw [nds_append, List.length_append]
    simpa [nds] using h1
set_option maxHeartbeats 3200000 in
set_option maxRecDepth 100000 in
theorem add_any (B : Nat) (s : ByteArray) (p o : Nat) (ns : List Nd) (ps : List (Int × Bool)) (nv pv : Value) (x : Nd) (w : World) (h : RdAt w B s p o ns ps nv pv) (hn : ns.length ≤ 1000) :
    Calls Tryd.prog 66 #[.pointer (some ⟨B, 0, none⟩), .agg (nd9 x).toArray] w fun e w' =>
      e = .returned (.int .i64 (ns.length : Nat)) ∧ (∃ nv', RdAt w' B s p o (ns ++ [x]) ps nv' pv) ∧ Below B w w' := by
  have hB := h.row.lt
  have hBx := BoxAt.new w x
  have hR := h.row.alloc (.cells (nd9 x).toArray 96)
  have hal := (Below.refl w.heap.size w).alloc (Nat.le_refl _) (.cells (nd9 x).toArray 96)
  have H := Lib.hid (h.below hal)
  have HNB := Lib.hid (fun g hg => (h.on.lt g hg).2)
  have HBx := Lib.hid hBx
  have HAl := Lib.hid hal
  have HSz : Hid ((w.alloc (.cells (nd9 x).toArray 96)).heap.size = w.heap.size + 1) := Lib.hid (by simp)
  clear h hBx hR hal
  go_enter Tryd.func66, Tryd.ntmps66
  go_wp2_with (refine wpList_store_node rfl _ _ rfl x rfl rfl ?_)
  generalize (w.alloc (.cells (nd9 x).toArray 96)) = w1 at *
  obtain ⟨c0, c1, c2, c3, c4⟩ := H.out.row.cells
  obtain ⟨na, nc, hnv⟩ := own_slice H.out.on
  have hBB : B ≠ w.heap.size := by omega
  refine region_mix [(false, 0), (false, 1), (false, 2), (false, 3), (false, 4), (false, 5), (false, 6), (true, 7), (true, 8), (false, 9), (false, 10), (false, 11)] (fun w' => w'.heap[B]? = w1.heap[B]? ∧ w'.heap[w.heap.size]? = w1.heap[w.heap.size]?) (by kernel_rfl) (by kernel_rfl) ⟨rfl, rfl⟩ ?_
  simp only [planOps, List.map_cons, List.map_nil, List.getD_cons_zero, List.getD_cons_succ, List.length_cons, List.length_nil, List.drop_succ_cons, List.drop_zero]
  refine mix_seg (seg := [_, _, _, _, _, _, _]) rfl ⟨rfl, rfl⟩ ?_
  intro ι hι F hF
  have g3 : ∀ n, (F n).cell? ⟨B, 3, none⟩ = some nv := fun n => (H.out.row.kept (hF n).1).cells.2.2.2.1
  have gx : ∀ w', (∃ n, w' = F n) → BoxAt w' w.heap.size x := fun w' ⟨n, e⟩ => ⟨by rw [e, (hF n).2]; exact HBx.out.row⟩
  have GX := Lib.hid gx
  clear gx
  repeat (first | (go_big_quiet_step (fail)) | (refine BigFrame.wpQuiet_want rfl (fun K hK => ?_); refine quiet_load_node (.tmp 3) rfl w.heap.size x rfl GX.out ?_; refine hK _ ?_; clear hK K; simp only [Act.put, List.setIfInBounds_toArray, List.set_cons_zero, List.set_cons_succ]))
  refine wpQuiet_nil ?_
  clear GX g3 hF hι F
  refine mix_eff (fun K hK => ?_)
  go_wp2_with (refine wpList_buildNode rfl _ rfl x rfl ?_)
  refine mix_on hK ⟨Below.heap_alloc _ _ _ H.out.row.lt, Below.heap_alloc _ _ _ HBx.out.lt⟩ ?_
  clear hK K
  have hal2 := ((Below.refl w1.heap.size w1).alloc (Nat.le_refl _) (.cells (nd9 x).toArray 96)).drew
  have HA2 := Lib.hid hal2
  have H2 := Lib.hid (H.out.below hal2)
  have HB2 := Lib.hid (((HAl.out.trans (hal2.mono (by have := HSz.out; omega)))))
  have HC2 : Hid ((w1.alloc (.cells (nd9 x).toArray 96)).drew.rangeAt w1.heap.size 0 (nd9 x)) := Lib.hid (BoxAt.new w1 x).range
  have HS2 : Hid ((w1.alloc (.cells (nd9 x).toArray 96)).drew.heap.size = w1.heap.size + 1) := Lib.hid (by show (w1.alloc _).heap.size = _; simp)
  clear hal2
  generalize (w1.alloc (.cells (nd9 x).toArray 96)).drew = w2 at *
  refine mix_eff (fun K hK => ?_)
  have HOn := Lib.hid H2.out.on
  rw [hnv] at HOn
  go_wp2_with (refine wpList_append_node rfl _ _ rfl B _ ns x rfl w1.heap.size HC2.out HOn.out rfl hn H2.out.row.lt ?_; intro v3 w3 hO3 hG3 hE3; have HO3 := Lib.hid hO3; have HG3 := Lib.hid hG3; have HE3 := Lib.hid hE3; clear hO3 hG3 hE3)
  rw [← hnv] at HG3 HE3
  clear HOn
  obtain ⟨a3, c3', hv3⟩ := own_slice HO3.out
  have hrow : w3.heap[B]? = w2.heap[B]? := HG3.out.block B H2.out.row.lt (fun e => by have := (H2.out.on.lt B e.symm).1; omega)
  have HRow3 := Lib.hid (H2.out.row.kept hrow)
  have hbox : w3.heap[w.heap.size]? = w2.heap[w.heap.size]? := HG3.out.block _ (by have := HS2.out; have := HSz.out; omega) (fun e => by
    have h1 := HNB.out w.heap.size e.symm
    omega)
  have hCC : w3.heap[B]? = w1.heap[B]? ∧ w3.heap[w.heap.size]? = w1.heap[w.heap.size]? :=
    ⟨hrow.trans (HA2.out.block B H.out.row.lt), hbox.trans (HA2.out.block _ HBx.out.lt)⟩
  have HP3 := Lib.hid (own_kept H2.out.op (fun g hg => HG3.out.block g (H2.out.op.lt g hg).2 (fun e => H2.out.apart g e.symm hg)))
  have HB3 : Hid (Below B w w3) := Lib.hid ⟨HG3.out.os.trans HB2.out.os, HG3.out.tape.trans HB2.out.tape, HG3.out.output.trans HB2.out.output, Nat.le_trans HB2.out.size HG3.out.size, fun k hk => by
    rw [HG3.out.block k (by have := H2.out.row.lt; omega) (fun e => by have := (H2.out.on.lt k e.symm).1; omega)]
    exact HB2.out.block k (by omega)⟩
  clear hrow hbox
  refine mix_on hK hCC ?_
  clear hK K
  refine mix_seg (seg := [_, _, _]) rfl hCC ?_
  intro ι hι F hF
  repeat (go_big_quiet_step (fail))
  refine wpQuiet_nil ?_
  clear hF hι F
  obtain ⟨d0, d1, d2, d3, d4⟩ := HRow3.out.cells
  have f3 := HRow3.out.frozen 3
  subst hv3
  show wpList _ _ _ _ _ _
  go_wp2
  refine NoPanic.normal ?_
  go_wp2
  go_ret
  refine ⟨rfl, ⟨Value.slice a3 (ns ++ [x]).length c3', ?_, ?_, ?_⟩, ?_⟩
  · have := HRow3.out
    unfold Row at *
    simp [World.setCell, Array.getElem?_modify, this]
  · exact own_kept HO3.out (fun g hg => Below.heap_setCell _ _ _ _ (by have := (HO3.out.lt g hg).1; simp only; omega))
  · exact own_kept HP3.out (fun g hg => Below.heap_setCell _ _ _ _ (by have := (HP3.out.lt g hg).1; simp only; omega))
  · exact ⟨HB3.out.os, HB3.out.tape, HB3.out.output, by simpa using HB3.out.size, fun k hk => by
      show (w3.setCell _ _).heap[k]? = _
      rw [Below.heap_setCell _ _ _ _ (by simp only; omega)]
      exact HB3.out.block k hk⟩
end Go.Proofs.YtcgllipcnmlkbaaDoor
namespace Go.Proofs.YtcgllipcnmlkbaaDoor
open Go.RowKit Sets Tr Rx
/-- how far a reader is -/
def posOf (w : World) (B : Nat) : Nat := match w.cell? ⟨B, 1, none⟩ with | some (.int _ p) => p.toNat | _ => 0
theorem posOf_row {w : World} {B : Nat} {s : ByteArray} {p o : Nat} {nv pv : Value} (h : Row w B s p o nv pv) : posOf w B = p := by
  unfold posOf
  rw [h.cells.2.1]
  simp
theorem or_one (S T : Nat) (w : World) : Calls Tryd.prog 82 #[setV S, setV T] w fun e w' => e = .returned (setV (S ||| T)) ∧ Below w.heap.size w w' := or_any S T w
theorem not_one (S : Nat) (w : World) : Calls Tryd.prog 84 #[setV S] w fun e w' => e = .returned (setV (full ^^^ S)) ∧ Below w.heap.size w w' := not_any S w
theorem clsL_end {l : List Nat} {f S p : Nat} (h : pk l p = 93) : clsL l (f + 1) S p = .ok S (p + 1) := if_pos h
theorem clsL_bad {l : List Nat} {f S p q : Nat} (h : pk l p ≠ 93) (hi : item l p = .bad q) : clsL l (f + 1) S p = .bad q := by unfold clsL; rw [if_neg h, hi]
theorem clsL_ok' {l : List Nat} {f S T p q : Nat} (h : pk l p ≠ 93) (hi : item l p = .ok T q) : clsL l (f + 1) S p = clsL l f (S ||| T) q := by rw [clsL, if_neg h, hi]
theorem AnyTmps.normal {Q : Exit → Act → World → Prop} {a : Act} {w : World} (h : Q .normal a w) : AnyTmps Q .normal a w := h
/-- what the loop keeps -/
structure ClsI (w : World) (B : Nat) (s : ByteArray) (o : Nat) (nv pv : Value) (R : L Nat) (wr : World) (f S p : Nat) : Prop where
  row : Row wr B s p o nv pv
  w0 : Words wr w.heap.size 0
  w1 : Words wr (w.heap.size + 1) S
  but : But B w wr
  le : p ≤ s.size
  fuel : s.size < p + f
  is : clsL (by' s) f S p = R
theorem LP.cast {α : Type} {B : Nat} {s : ByteArray} {o : Nat} {nv pv : Value} {w : World} {enc : α → Value} {r r' : L α} {e : Ending} {w' : World} (h : r' = r) (k : LP B s o nv pv w enc r' e w') : LP B s o nv pv w enc r e w' := h ▸ k
def clsE (b : Bool) (r : L Nat) : L Nat := match r with | .ok S q => .ok (if b then full ^^^ S else S) q | .bad q => .bad q
theorem cls_yes {l : List Nat} {p : Nat} (h : pk l p = 94) : cls l p = clsE true (clsL l (l.length + 1) 0 (p + 1)) := by
  unfold cls
  rw [if_pos h]
  cases clsL l (l.length + 1) 0 (p + 1) <;> rfl
theorem cls_no {l : List Nat} {p : Nat} (h : pk l p ≠ 94) : cls l p = clsE false (clsL l (l.length + 1) 0 p) := by
  unfold cls
  rw [if_neg h]
  cases clsL l (l.length + 1) 0 p <;> rfl
set_option maxHeartbeats 1600000 in
set_option maxRecDepth 100000 in
theorem class_yes (B : Nat) (s : ByteArray) (p o : Nat) (nv pv : Value) (w : World) (h : Row w B s p o nv pv) (hs : s.size ≤ 200) (hk : pk (by' s) p = 94) :
    Calls Tryd.prog 75 #[.pointer (some ⟨B, 0, none⟩)] w (LP B s o nv pv w setV (clsE true (clsL (by' s) ((by' s).length + 1) 0 (p + 1)))) := by
  have hB := h.lt
  have hbB : w.heap.size ≠ B := by omega
  have hbB1 : w.heap.size + 1 ≠ B := by omega
  have hsz1 : (w.alloc (.cells #[.int .u64 0, .int .u64 0, .int .u64 0, .int .u64 0] 52)).heap.size = w.heap.size + 1 := by simp
  have HW0 := Lib.hid ((words_zero w).alloc (.cells #[.int .u64 0, .int .u64 0, .int .u64 0, .int .u64 0] 52))
  have HW1 := words_zero (w.alloc (.cells #[.int .u64 0, .int .u64 0, .int .u64 0, .int .u64 0] 52))
  rw [hsz1] at HW1
  have HW1 := Lib.hid HW1
  have HR := Lib.hid ((h.alloc (.cells #[.int .u64 0, .int .u64 0, .int .u64 0, .int .u64 0] 52)).alloc (.cells #[.int .u64 0, .int .u64 0, .int .u64 0, .int .u64 0] 52))
  have HA := Lib.hid ((But.alloc B w (.cells #[.int .u64 0, .int .u64 0, .int .u64 0, .int .u64 0] 52)).allocR (.cells #[.int .u64 0, .int .u64 0, .int .u64 0, .int .u64 0] 52))
  have It := Lib.hid (fun w' p (hR : Row w' B s p o nv pv) hp => item_any B s p o nv pv w' hR hp hs)
  have Ty := Lib.hid (fun w' p (c : Nat) (hR : Row w' B s p o nv pv) => take_yes B s p o nv pv c w' hR hs)
  have Tn := Lib.hid (fun w' p (c : Nat) (hR : Row w' B s p o nv pv) => take_no B s p o nv pv c w' hR)
  have hp1 : (p + 1) ≤ s.size := by rw [← by_len]; exact pk_lt (by omega)
  have HF : Hid (s.size < (p + 1) + ((by' s).length + 1)) := Lib.hid (by rw [by_len]; omega)
  obtain ⟨R, hRR⟩ : ∃ R, R = clsL (by' s) ((by' s).length + 1) 0 (p + 1) := ⟨_, rfl⟩
  rw [← hRR]
  have HIS := Lib.hid hRR.symm
  clear hRR
  have HT := Lib.hid (take_yes B s p o nv pv 94 _ HR.out hs (by decide) hk)
  clear h hsz1 hk
  go_enter Tryd.func75, Tryd.ntmps75
  go_wp2_with fail
  refine HT.out.mono ?_
  rintro e w1 ⟨rfl, hR1, hb1⟩
  have HI : Hid (ClsI w B s o nv pv R w1 ((by' s).length + 1) 0 (p + 1)) := Lib.hid ⟨hR1, HW0.out.but hb1 hbB, HW1.out.but hb1 hbB1, HA.out.trans hb1, hp1, HF.out, HIS.out⟩
  clear hR1 hb1 HT HW0 HW1 HA HR HIS HF hp1
  go_wp2_with fail
  go_loopw [] (fun wr => ∃ f S p, Hid (ClsI w B s o nv pv R wr f S p)) (fun wr => s.size + 1 - posOf wr B)
  case atStart => exact ⟨_, _, _, HI⟩
  case round =>
    obtain ⟨f, S, p, HI⟩ := hrel
    have hle := HI.out.le
    have hfu := HI.out.fuel
    obtain ⟨f, rfl⟩ : ∃ g, f = g + 1 := ⟨f - 1, by omega⟩
    by_cases h93 : pk (by' s) p = 93
    · have HE := Lib.hid (congrArg (clsE true) ((clsL_end h93).symm.trans HI.out.is))
      go_wp2_with fail
      refine (Ty.out _ p 93 HI.out.row (by decide) h93).mono ?_
      rintro e w6 ⟨rfl, hR6, hb6⟩
      have HW := Lib.hid (HI.out.w0.but hb6 hbB)
      have HV := Lib.hid (HI.out.w1.but hb6 hbB1)
      have HB := Lib.hid (HI.out.but.trans hb6)
      clear hb6
      obtain ⟨d0, d1, d2, d3⟩ := HV.out.cells
      go_wp2_with fail
      refine (not_one S _).mono ?_
      rintro e w7 ⟨rfl, hb7⟩
      have HW7 := Lib.hid (HW.out.below hb7)
      have HB7 := Lib.hid (HB.out.belowR hb7)
      have HR7 := Lib.hid (hR6.below hb7)
      obtain ⟨e0, e1, e2, e3⟩ := HW7.out.cells
      obtain ⟨f0, f1, f2, f3⟩ := HW7.out.frozen
      clear hb7 hR6 d0 d1 d2 d3
      unfold setV
      go_wp2_with fail
      have hput := HW7.out.put (full ^^^ S)
      refine bodyPost_ret (v := setV (full ^^^ S)) (results_cell_row (p := 2) Tryd.results75 _ _ w.heap.size 52 _ (0, 0) _ rfl hput Tryd.underlying52 rfl (by kernel_rfl)) rfl (LP.cast HE.out ⟨rfl, ?_, ?_⟩)
      · exact (((HR7.out.other hbB).other hbB).other hbB).other hbB
      · exact (((HB7.out.own (Nat.le_refl _) _ _).own (Nat.le_refl _) _ _).own (Nat.le_refl _) _ _).own (Nat.le_refl _) _ _
    · cases hi : item (by' s) p with
      | bad q =>
        have HE := Lib.hid (congrArg (clsE true) ((clsL_bad h93 hi).symm.trans HI.out.is))
        have Iq := Lib.hid (fun w' hR => hi ▸ It.out w' p hR hle)
        clear hi
        go_wp2_with fail
        refine (Tn.out _ p 93 HI.out.row hle h93).mono ?_
        rintro e w6 ⟨rfl, hR6, hb6⟩
        have HV := Lib.hid (HI.out.w1.but hb6 hbB1)
        have HB := Lib.hid (HI.out.but.trans hb6)
        have HR6 := Lib.hid hR6
        clear hb6 hR6
        go_wp2_with fail
        refine region_mixP [(false, 0), (false, 1), (true, 2), (true, 3)] (fun w' => But B w6 w') (by kernel_rfl) (by kernel_rfl) ((But.refl _ _).drewR) ?_
        simp only [planOps, List.map_cons, List.map_nil, List.getD_cons_zero, List.getD_cons_succ, List.length_cons, List.length_nil, List.drop_succ_cons, List.drop_zero]
        refine mix_seg (seg := [_, _]) rfl ((But.refl _ _).drewR) ?_
        intro ι hι F hF
        have g0 : ∀ n, (F n).cell? ⟨w.heap.size + 1, 0, none⟩ = some (.int .u64 (wd S 0)) := fun n => (HV.out.but (hF n) hbB1).cells.1
        have g1 : ∀ n, (F n).cell? ⟨w.heap.size + 1, 1, none⟩ = some (.int .u64 (wd S 1)) := fun n => (HV.out.but (hF n) hbB1).cells.2.1
        have g2 : ∀ n, (F n).cell? ⟨w.heap.size + 1, 2, none⟩ = some (.int .u64 (wd S 2)) := fun n => (HV.out.but (hF n) hbB1).cells.2.2.1
        have g3 : ∀ n, (F n).cell? ⟨w.heap.size + 1, 3, none⟩ = some (.int .u64 (wd S 3)) := fun n => (HV.out.but (hF n) hbB1).cells.2.2.2
        repeat (go_big_quiet_step (fail))
        refine wpQuiet_nil ?_
        clear g0 g1 g2 g3 hF hι F
        refine mix_eff (fun K hK => ?_)
        go_wp2_with fail
        refine (Iq.out _ HR6.out.drew).mono ?_
        rintro e w7 ⟨rfl, hb7⟩
        intro a' ha'
        exact ⟨ha', LP.cast HE.out ⟨rfl, (HB.out.trans (But.refl _ _).drewR).trans hb7⟩⟩
      | ok T q =>
        have HE := Lib.hid ((clsL_ok' h93 hi).symm.trans HI.out.is)
        have Iq := Lib.hid (fun w' hR => hi ▸ It.out w' p hR hle)
        have hok := item_ok (by_lt s) hi
        rw [by_len] at hok
        have HOK := Lib.hid hok
        clear hi hok
        go_wp2_with fail
        refine (Tn.out _ p 93 HI.out.row hle h93).mono ?_
        rintro e w6 ⟨rfl, hR6, hb6⟩
        have HW := Lib.hid (HI.out.w0.but hb6 hbB)
        have HV := Lib.hid (HI.out.w1.but hb6 hbB1)
        have HB := Lib.hid (HI.out.but.trans hb6)
        have HR6 := Lib.hid hR6
        clear hb6 hR6
        go_wp2_with fail
        refine region_mixP [(false, 0), (false, 1), (true, 2), (true, 3)] (fun w' => But B w6 w') (by kernel_rfl) (by kernel_rfl) ((But.refl _ _).drewR) ?_
        simp only [planOps, List.map_cons, List.map_nil, List.getD_cons_zero, List.getD_cons_succ, List.length_cons, List.length_nil, List.drop_succ_cons, List.drop_zero]
        refine mix_seg (seg := [_, _]) rfl ((But.refl _ _).drewR) ?_
        intro ι hι F hF
        have g0 : ∀ n, (F n).cell? ⟨w.heap.size + 1, 0, none⟩ = some (.int .u64 (wd S 0)) := fun n => (HV.out.but (hF n) hbB1).cells.1
        have g1 : ∀ n, (F n).cell? ⟨w.heap.size + 1, 1, none⟩ = some (.int .u64 (wd S 1)) := fun n => (HV.out.but (hF n) hbB1).cells.2.1
        have g2 : ∀ n, (F n).cell? ⟨w.heap.size + 1, 2, none⟩ = some (.int .u64 (wd S 2)) := fun n => (HV.out.but (hF n) hbB1).cells.2.2.1
        have g3 : ∀ n, (F n).cell? ⟨w.heap.size + 1, 3, none⟩ = some (.int .u64 (wd S 3)) := fun n => (HV.out.but (hF n) hbB1).cells.2.2.2
        repeat (go_big_quiet_step (fail))
        refine wpQuiet_nil ?_
        clear g0 g1 g2 g3 hF hι F
        refine mix_eff (fun K hK => ?_)
        go_wp2_with fail
        refine (Iq.out _ HR6.out.drew).mono ?_
        rintro e w7 ⟨rfl, hR7, hb7⟩
        have hb67 := (But.refl B w6).drewR.trans hb7
        have HW7 := Lib.hid (HW.out.but hb67 hbB)
        have HV7 := Lib.hid (HV.out.but hb67 hbB1)
        have HB7 := Lib.hid (HB.out.trans hb67)
        have HB67 := Lib.hid hb67
        have HR7 := Lib.hid hR7
        clear hb67 hb7 hR7
        go_wp2
        refine mix_on hK HB67.out ?_
        clear hK K
        refine mix_eff (fun K hK => ?_)
        go_wp2_with fail
        refine (or_one S T _).mono ?_
        rintro e w8 ⟨rfl, hb8⟩
        have HW8 := Lib.hid (HW7.out.below hb8)
        have HV8 := Lib.hid (HV7.out.below hb8)
        have HB8 := Lib.hid (HB7.out.belowR hb8)
        have HB68 := Lib.hid (HB67.out.belowR hb8)
        have HR8 := Lib.hid (HR7.out.below hb8)
        clear hb8
        go_wp2
        refine mix_on hK HB68.out ?_
        clear hK K
        obtain ⟨e0, e1, e2, e3⟩ := HV8.out.cells
        obtain ⟨f0, f1, f2, f3⟩ := HV8.out.frozen
        unfold setV
        show wpList _ _ _ _ _ _
        go_wp2
        have hle2 : w.heap.size ≤ w.heap.size + 1 := by omega
        have hne2 : w.heap.size + 1 ≠ w.heap.size := by omega
        have HI2 : Hid (ClsI w B s o nv pv R ((((w8.setCell ⟨w.heap.size + 1, 0, none⟩ (.int .u64 (wd (S ||| T) 0))).setCell ⟨w.heap.size + 1, 1, none⟩ (.int .u64 (wd (S ||| T) 1))).setCell ⟨w.heap.size + 1, 2, none⟩ (.int .u64 (wd (S ||| T) 2))).setCell ⟨w.heap.size + 1, 3, none⟩ (.int .u64 (wd (S ||| T) 3))) f (S ||| T) q) := Lib.hid
          ⟨(((HR8.out.other hbB1).other hbB1).other hbB1).other hbB1, HW8.out.kept (by rw [Below.heap_setCell _ _ _ _ hne2.symm, Below.heap_setCell _ _ _ _ hne2.symm, Below.heap_setCell _ _ _ _ hne2.symm, Below.heap_setCell _ _ _ _ hne2.symm]), HV8.out.put _,
           (((HB8.out.own hle2 _ _).own hle2 _ _).own hle2 _ _).own hle2 _ _, HOK.out.2.2, by have := HOK.out.2.1; omega, HE.out⟩
        refine AnyTmps.normal ?_
        go_wp2
        go_round
        case rel => exact ⟨_, _, _, HI2⟩
        case measure =>
          rw [posOf_row HI2.out.row, posOf_row HI.out.row]
          have := HOK.out.2.1
          have := HOK.out.2.2
          omega
set_option maxHeartbeats 1600000 in
set_option maxRecDepth 100000 in
theorem class_no (B : Nat) (s : ByteArray) (p o : Nat) (nv pv : Value) (w : World) (h : Row w B s p o nv pv) (hp : p ≤ s.size) (hs : s.size ≤ 200) (hk : pk (by' s) p ≠ 94) :
    Calls Tryd.prog 75 #[.pointer (some ⟨B, 0, none⟩)] w (LP B s o nv pv w setV (clsE false (clsL (by' s) ((by' s).length + 1) 0 p))) := by
  have hB := h.lt
  have hbB : w.heap.size ≠ B := by omega
  have hbB1 : w.heap.size + 1 ≠ B := by omega
  have hsz1 : (w.alloc (.cells #[.int .u64 0, .int .u64 0, .int .u64 0, .int .u64 0] 52)).heap.size = w.heap.size + 1 := by simp
  have HW0 := Lib.hid ((words_zero w).alloc (.cells #[.int .u64 0, .int .u64 0, .int .u64 0, .int .u64 0] 52))
  have HW1 := words_zero (w.alloc (.cells #[.int .u64 0, .int .u64 0, .int .u64 0, .int .u64 0] 52))
  rw [hsz1] at HW1
  have HW1 := Lib.hid HW1
  have HR := Lib.hid ((h.alloc (.cells #[.int .u64 0, .int .u64 0, .int .u64 0, .int .u64 0] 52)).alloc (.cells #[.int .u64 0, .int .u64 0, .int .u64 0, .int .u64 0] 52))
  have HA := Lib.hid ((But.alloc B w (.cells #[.int .u64 0, .int .u64 0, .int .u64 0, .int .u64 0] 52)).allocR (.cells #[.int .u64 0, .int .u64 0, .int .u64 0, .int .u64 0] 52))
  have It := Lib.hid (fun w' p (hR : Row w' B s p o nv pv) hp => item_any B s p o nv pv w' hR hp hs)
  have Ty := Lib.hid (fun w' p (c : Nat) (hR : Row w' B s p o nv pv) => take_yes B s p o nv pv c w' hR hs)
  have Tn := Lib.hid (fun w' p (c : Nat) (hR : Row w' B s p o nv pv) => take_no B s p o nv pv c w' hR)
  have hp1 : p ≤ s.size := hp
  have HF : Hid (s.size < p + ((by' s).length + 1)) := Lib.hid (by rw [by_len]; omega)
  obtain ⟨R, hRR⟩ : ∃ R, R = clsL (by' s) ((by' s).length + 1) 0 p := ⟨_, rfl⟩
  rw [← hRR]
  have HIS := Lib.hid hRR.symm
  clear hRR
  have HT := Lib.hid (take_no B s p o nv pv 94 _ HR.out hp hk)
  clear h hsz1 hk
  go_enter Tryd.func75, Tryd.ntmps75
  go_wp2_with fail
  refine HT.out.mono ?_
  rintro e w1 ⟨rfl, hR1, hb1⟩
  have HI : Hid (ClsI w B s o nv pv R w1 ((by' s).length + 1) 0 p) := Lib.hid ⟨hR1, HW0.out.but hb1 hbB, HW1.out.but hb1 hbB1, HA.out.trans hb1, hp1, HF.out, HIS.out⟩
  clear hR1 hb1 HT HW0 HW1 HA HR HIS HF hp1
  go_wp2_with fail
  go_loopw [] (fun wr => ∃ f S p, Hid (ClsI w B s o nv pv R wr f S p)) (fun wr => s.size + 1 - posOf wr B)
  case atStart => exact ⟨_, _, _, HI⟩
  case round =>
    obtain ⟨f, S, p, HI⟩ := hrel
    have hle := HI.out.le
    have hfu := HI.out.fuel
    obtain ⟨f, rfl⟩ : ∃ g, f = g + 1 := ⟨f - 1, by omega⟩
    by_cases h93 : pk (by' s) p = 93
    · have HE := Lib.hid (congrArg (clsE false) ((clsL_end h93).symm.trans HI.out.is))
      go_wp2_with fail
      refine (Ty.out _ p 93 HI.out.row (by decide) h93).mono ?_
      rintro e w6 ⟨rfl, hR6, hb6⟩
      have HW := Lib.hid (HI.out.w0.but hb6 hbB)
      have HV := Lib.hid (HI.out.w1.but hb6 hbB1)
      have HB := Lib.hid (HI.out.but.trans hb6)
      clear hb6
      obtain ⟨d0, d1, d2, d3⟩ := HV.out.cells
      obtain ⟨e0, e1, e2, e3⟩ := HW.out.cells
      obtain ⟨f0, f1, f2, f3⟩ := HW.out.frozen
      go_wp2_with fail
      have HW7 := HW
      have HB7 := HB
      have HR7 := Lib.hid hR6
      have hput := HW7.out.put S
      refine bodyPost_ret (v := setV S) (results_cell_row (p := 2) Tryd.results75 _ _ w.heap.size 52 _ (0, 0) _ rfl hput Tryd.underlying52 rfl (by kernel_rfl)) rfl (LP.cast HE.out ⟨rfl, ?_, ?_⟩)
      · exact (((HR7.out.other hbB).other hbB).other hbB).other hbB
      · exact (((HB7.out.own (Nat.le_refl _) _ _).own (Nat.le_refl _) _ _).own (Nat.le_refl _) _ _).own (Nat.le_refl _) _ _
    · cases hi : item (by' s) p with
      | bad q =>
        have HE := Lib.hid (congrArg (clsE false) ((clsL_bad h93 hi).symm.trans HI.out.is))
        have Iq := Lib.hid (fun w' hR => hi ▸ It.out w' p hR hle)
        clear hi
        go_wp2_with fail
        refine (Tn.out _ p 93 HI.out.row hle h93).mono ?_
        rintro e w6 ⟨rfl, hR6, hb6⟩
        have HV := Lib.hid (HI.out.w1.but hb6 hbB1)
        have HB := Lib.hid (HI.out.but.trans hb6)
        have HR6 := Lib.hid hR6
        clear hb6 hR6
        go_wp2_with fail
        refine region_mixP [(false, 0), (false, 1), (true, 2), (true, 3)] (fun w' => But B w6 w') (by kernel_rfl) (by kernel_rfl) ((But.refl _ _).drewR) ?_
        simp only [planOps, List.map_cons, List.map_nil, List.getD_cons_zero, List.getD_cons_succ, List.length_cons, List.length_nil, List.drop_succ_cons, List.drop_zero]
        refine mix_seg (seg := [_, _]) rfl ((But.refl _ _).drewR) ?_
        intro ι hι F hF
        have g0 : ∀ n, (F n).cell? ⟨w.heap.size + 1, 0, none⟩ = some (.int .u64 (wd S 0)) := fun n => (HV.out.but (hF n) hbB1).cells.1
        have g1 : ∀ n, (F n).cell? ⟨w.heap.size + 1, 1, none⟩ = some (.int .u64 (wd S 1)) := fun n => (HV.out.but (hF n) hbB1).cells.2.1
        have g2 : ∀ n, (F n).cell? ⟨w.heap.size + 1, 2, none⟩ = some (.int .u64 (wd S 2)) := fun n => (HV.out.but (hF n) hbB1).cells.2.2.1
        have g3 : ∀ n, (F n).cell? ⟨w.heap.size + 1, 3, none⟩ = some (.int .u64 (wd S 3)) := fun n => (HV.out.but (hF n) hbB1).cells.2.2.2
        repeat (go_big_quiet_step (fail))
        refine wpQuiet_nil ?_
        clear g0 g1 g2 g3 hF hι F
        refine mix_eff (fun K hK => ?_)
        go_wp2_with fail
        refine (Iq.out _ HR6.out.drew).mono ?_
        rintro e w7 ⟨rfl, hb7⟩
        intro a' ha'
        exact ⟨ha', LP.cast HE.out ⟨rfl, (HB.out.trans (But.refl _ _).drewR).trans hb7⟩⟩
      | ok T q =>
        have HE := Lib.hid ((clsL_ok' h93 hi).symm.trans HI.out.is)
        have Iq := Lib.hid (fun w' hR => hi ▸ It.out w' p hR hle)
        have hok := item_ok (by_lt s) hi
        rw [by_len] at hok
        have HOK := Lib.hid hok
        clear hi hok
        go_wp2_with fail
        refine (Tn.out _ p 93 HI.out.row hle h93).mono ?_
        rintro e w6 ⟨rfl, hR6, hb6⟩
        have HW := Lib.hid (HI.out.w0.but hb6 hbB)
        have HV := Lib.hid (HI.out.w1.but hb6 hbB1)
        have HB := Lib.hid (HI.out.but.trans hb6)
        have HR6 := Lib.hid hR6
        clear hb6 hR6
        go_wp2_with fail
        refine region_mixP [(false, 0), (false, 1), (true, 2), (true, 3)] (fun w' => But B w6 w') (by kernel_rfl) (by kernel_rfl) ((But.refl _ _).drewR) ?_
        simp only [planOps, List.map_cons, List.map_nil, List.getD_cons_zero, List.getD_cons_succ, List.length_cons, List.length_nil, List.drop_succ_cons, List.drop_zero]
        refine mix_seg (seg := [_, _]) rfl ((But.refl _ _).drewR) ?_
        intro ι hι F hF
        have g0 : ∀ n, (F n).cell? ⟨w.heap.size + 1, 0, none⟩ = some (.int .u64 (wd S 0)) := fun n => (HV.out.but (hF n) hbB1).cells.1
        have g1 : ∀ n, (F n).cell? ⟨w.heap.size + 1, 1, none⟩ = some (.int .u64 (wd S 1)) := fun n => (HV.out.but (hF n) hbB1).cells.2.1
        have g2 : ∀ n, (F n).cell? ⟨w.heap.size + 1, 2, none⟩ = some (.int .u64 (wd S 2)) := fun n => (HV.out.but (hF n) hbB1).cells.2.2.1
        have g3 : ∀ n, (F n).cell? ⟨w.heap.size + 1, 3, none⟩ = some (.int .u64 (wd S 3)) := fun n => (HV.out.but (hF n) hbB1).cells.2.2.2
        repeat (go_big_quiet_step (fail))
        refine wpQuiet_nil ?_
        clear g0 g1 g2 g3 hF hι F
        refine mix_eff (fun K hK => ?_)
        go_wp2_with fail
        refine (Iq.out _ HR6.out.drew).mono ?_
        rintro e w7 ⟨rfl, hR7, hb7⟩
        have hb67 := (But.refl B w6).drewR.trans hb7
        have HW7 := Lib.hid (HW.out.but hb67 hbB)
        have HV7 := Lib.hid (HV.out.but hb67 hbB1)
        have HB7 := Lib.hid (HB.out.trans hb67)
        have HB67 := Lib.hid hb67
        have HR7 := Lib.hid hR7
        clear hb67 hb7 hR7
        go_wp2
        refine mix_on hK HB67.out ?_
        clear hK K
        refine mix_eff (fun K hK => ?_)
        go_wp2_with fail
        refine (or_one S T _).mono ?_
        rintro e w8 ⟨rfl, hb8⟩
        have HW8 := Lib.hid (HW7.out.below hb8)
        have HV8 := Lib.hid (HV7.out.below hb8)
        have HB8 := Lib.hid (HB7.out.belowR hb8)
        have HB68 := Lib.hid (HB67.out.belowR hb8)
        have HR8 := Lib.hid (HR7.out.below hb8)
        clear hb8
        go_wp2
        refine mix_on hK HB68.out ?_
        clear hK K
        obtain ⟨e0, e1, e2, e3⟩ := HV8.out.cells
        obtain ⟨f0, f1, f2, f3⟩ := HV8.out.frozen
        unfold setV
        show wpList _ _ _ _ _ _
        go_wp2
        have hle2 : w.heap.size ≤ w.heap.size + 1 := by omega
        have hne2 : w.heap.size + 1 ≠ w.heap.size := by omega
        have HI2 : Hid (ClsI w B s o nv pv R ((((w8.setCell ⟨w.heap.size + 1, 0, none⟩ (.int .u64 (wd (S ||| T) 0))).setCell ⟨w.heap.size + 1, 1, none⟩ (.int .u64 (wd (S ||| T) 1))).setCell ⟨w.heap.size + 1, 2, none⟩ (.int .u64 (wd (S ||| T) 2))).setCell ⟨w.heap.size + 1, 3, none⟩ (.int .u64 (wd (S ||| T) 3))) f (S ||| T) q) := Lib.hid
          ⟨(((HR8.out.other hbB1).other hbB1).other hbB1).other hbB1, HW8.out.kept (by rw [Below.heap_setCell _ _ _ _ hne2.symm, Below.heap_setCell _ _ _ _ hne2.symm, Below.heap_setCell _ _ _ _ hne2.symm, Below.heap_setCell _ _ _ _ hne2.symm]), HV8.out.put _,
           (((HB8.out.own hle2 _ _).own hle2 _ _).own hle2 _ _).own hle2 _ _, HOK.out.2.2, by have := HOK.out.2.1; omega, HE.out⟩
        refine AnyTmps.normal ?_
        go_wp2
        go_round
        case rel => exact ⟨_, _, _, HI2⟩
        case measure =>
          rw [posOf_row HI2.out.row, posOf_row HI.out.row]
          have := HOK.out.2.1
          have := HOK.out.2.2
          omega
theorem class_any (B : Nat) (s : ByteArray) (p o : Nat) (nv pv : Value) (w : World) (h : Row w B s p o nv pv) (hp : p ≤ s.size) (hs : s.size ≤ 200) :
    Calls Tryd.prog 75 #[.pointer (some ⟨B, 0, none⟩)] w (LP B s o nv pv w setV (cls (by' s) p)) := by
  by_cases hk : pk (by' s) p = 94
  · rw [cls_yes hk]
    exact class_yes B s p o nv pv w h hs hk
  · rw [cls_no hk]
    exact class_no B s p o nv pv w h hp hs hk
end Go.Proofs.YtcgllipcnmlkbaaDoor
namespace Go.Proofs.YtcgllipcnmlkbaaDoor
open Go.RowKit Sets Tr Rx
theorem add_lit (B : Nat) (s : ByteArray) (p o : Nat) (ns : List Nd) (ps : List (Int × Bool)) (nv pv : Value) (k : Nat) (a b mn mx : Int) (w : World) (h : RdAt w B s p o ns ps nv pv) (hn : ns.length ≤ 1000) :
    Calls Tryd.prog 66 #[.pointer (some ⟨B, 0, none⟩), .agg #[.int .u8 k, .int .u64 0, .int .u64 0, .int .u64 0, .int .u64 0, .int .i64 a, .int .i64 b, .int .i64 mn, .int .i64 mx]] w fun e w' =>
      e = .returned (.int .i64 (ns.length : Nat)) ∧ (∃ nv', RdAt w' B s p o (ns ++ [⟨k, 0, a, b, mn, mx⟩]) ps nv' pv) ∧ Below B w w' := by
  have e : (nd9 ⟨k, 0, a, b, mn, mx⟩).toArray = #[.int .u8 k, .int .u64 0, .int .u64 0, .int .u64 0, .int .u64 0, .int .i64 a, .int .i64 b, .int .i64 mn, .int .i64 mx] := by simp [nd9, wd_zero]
  rw [← e]
  exact add_any B s p o ns ps nv pv _ w h hn
set_option maxHeartbeats 800000 in
theorem addSetR_any (B : Nat) (s : ByteArray) (p o : Nat) (ns : List Nd) (ps : List (Int × Bool)) (nv pv : Value) (S : Nat) (w : World) (h : RdAt w B s p o ns ps nv pv) (hn : ns.length ≤ 1000) :
    Calls Tryd.prog 74 #[.pointer (some ⟨B, 0, none⟩), setV S] w fun e w' =>
      e = .returned (.int .i64 (ns.length : Nat)) ∧ (∃ nv', RdAt w' B s p o (ns ++ [⟨2, S, 0, 0, 0, 0⟩]) ps nv' pv) ∧ Below B w w' := by
  have hal := (Below.refl w.heap.size w).alloc (Nat.le_refl _) (.cells #[.int .u64 (wd S 0), .int .u64 (wd S 1), .int .u64 (wd S 2), .int .u64 (wd S 3)] 52)
  have hB := h.row.lt
  have HA := Lib.hid (add_any B s p o ns ps nv pv ⟨2, S, 0, 0, 0, 0⟩ _ (h.below hal) hn)
  have HB := Lib.hid (hal.mono (by omega : B ≤ w.heap.size))
  clear hal h
  unfold setV
  go_enter Tryd.func74, Tryd.ntmps74
  go_wp2_with fail
  refine HA.out.mono ?_
  rintro e w' ⟨rfl, hR, hb⟩
  have HR := Lib.hid hR
  clear hR
  go_wp2_with fail
  go_ret
  exact ⟨rfl, HR.out, HB.out.trans hb⟩
def GP (B : Nat) (s : ByteArray) (o : Nat) (ps : List (Int × Bool)) (pv : Value) (w : World) (r : G) (e : Ending) (w' : World) : Prop :=
  match r with
  | .ok n p ns => e = .returned (.int .i64 n) ∧ (∃ nv, RdAt w' B s p o ns ps nv pv) ∧ Below B w w'
  | .bad lg p => e = .panicked [{ v := pnc lg p, recovered := false }] ∧ Below B w w'
/-- what is promised of a function that reads as md says, with fuel f -/
def Con (f : Nat) (md : Md) (fid : FuncId) : Prop :=
  ∀ (B : Nat) (s : ByteArray) (o p c : Nat) (ns : List Nd) (ps : List (Int × Bool)) (nv pv : Value) (w : World), RdAt w B s p o ns ps nv pv → In (by' s) p ns (md.g + c) → s.size ≤ 200 → o ≤ 16 → 5 * (s.size - p) + md.c < f →
    Calls Tryd.prog fid #[.pointer (some ⟨B, 0, none⟩)] w (GP B s o ps pv w (go (by' s) f md o p ns))
theorem GP.cast {B : Nat} {s : ByteArray} {o : Nat} {ps : List (Int × Bool)} {pv : Value} {w : World} {r r' : G} {e : Ending} {w' : World} (h : r' = r) (k : GP B s o ps pv w r' e w') : GP B s o ps pv w r e w' := h ▸ k
theorem Rx.In.len {l : List Nat} {p : Nat} {ns : List Nd} {c : Nat} (h : In l p ns c) : ns.length ≤ 1000 := by have := h.fit; omega
theorem Rx.In.sz {s : ByteArray} {p : Nat} {ns : List Nd} {c : Nat} (h : In (by' s) p ns c) : p ≤ s.size := by have := h.le; rw [by_len] at this; exact this
theorem But.belowW {B : Nat} {s : ByteArray} {p o : Nat} {nv pv : Value} {w w' : World} (h : But B w w') (hR : Row w B s p o nv pv) : Below B w w' := h.belowB hR.lt
set_option maxHeartbeats 1600000 in
theorem piece_any (f : Nat) (HA : Con f .ato 70) : Con (f + 1) .pie 68 := by
  intro B s o p c ns ps nv pv w h hin hs ho hf
  have hA := HA B s o p c ns ps nv pv w h hin hs ho (by simp only [Md.c] at *; omega)
  have hg := go_good (by_lt s) f .ato o p ns c hin trivial
  rw [go]
  clear HA h
  cases hr : go (by' s) f .ato o p ns with
  | bad lg q =>
    rw [hr] at hA
    have hA := Lib.hid hA
    clear hr hg
    go_enter Tryd.func68, Tryd.ntmps68
    go_wp2_with fail
    refine hA.out.mono ?_
    rintro e w' ⟨rfl, hb⟩
    exact ⟨rfl, rfl, hb⟩
  | ok n p1 ns1 =>
    rw [hr] at hA hg
    obtain ⟨hp1, hn, hin1⟩ := hg
    have hA := Lib.hid hA
    have HIn := Lib.hid hin1
    have hle := hin1.sz
    have hlen := hin1.len
    have HT := Lib.hid (fun w' nv (hR : Row w' B s p1 o nv pv) => times_any B s p1 o nv pv w' hR hle hs)
    clear hr
    simp only [G.bind]
    cases ht : times (by' s) p1 with
    | bad q =>
      rw [ht] at HT
      clear ht
      go_enter Tryd.func68, Tryd.ntmps68
      go_wp2_with fail
      refine hA.out.mono ?_
      rintro e w1 ⟨rfl, ⟨nv1, hR1⟩, hb1⟩
      have HR1 := Lib.hid hR1
      clear hR1
      go_wp2_with fail
      refine (HT.out _ nv1 HR1.out.row).mono ?_
      rintro e w2 ⟨rfl, hb2⟩
      exact ⟨rfl, rfl, hb1.trans (hb2.belowW HR1.out.row)⟩
    | ok x q =>
      rw [ht] at HT
      have hk := times_ok ht HIn.out.le
      clear ht
      cases x with
      | none =>
        go_enter Tryd.func68, Tryd.ntmps68
        go_wp2_with fail
        refine hA.out.mono ?_
        rintro e w1 ⟨rfl, ⟨nv1, hR1⟩, hb1⟩
        have HR1 := Lib.hid hR1
        clear hR1
        go_wp2_with fail
        refine (HT.out _ nv1 HR1.out.row).mono ?_
        rintro e w2 ⟨rfl, hR2, hb2⟩
        have HR2 := Lib.hid hR2
        clear hR2
        simp only [timV]
        go_wp2_with fail
        go_ret
        exact ⟨rfl, ⟨nv1, HR1.out.but HR2.out hb2⟩, hb1.trans (hb2.belowW HR1.out.row)⟩
      | some ab =>
        obtain ⟨a, b⟩ := ab
        go_enter Tryd.func68, Tryd.ntmps68
        go_wp2_with fail
        refine hA.out.mono ?_
        rintro e w1 ⟨rfl, ⟨nv1, hR1⟩, hb1⟩
        have HR1 := Lib.hid hR1
        clear hR1
        go_wp2_with fail
        refine (HT.out _ nv1 HR1.out.row).mono ?_
        rintro e w2 ⟨rfl, hR2, hb2⟩
        have HR2 := Lib.hid (HR1.out.but hR2 hb2)
        have HB2 := Lib.hid (hb1.trans (hb2.belowW HR1.out.row))
        clear hR2 hb2
        simp only [timV]
        go_wp2_with fail
        refine (add_lit B s q o ns1 ps nv1 pv 5 n 0 a b _ HR2.out hlen).mono ?_
        rintro e w3 ⟨rfl, hR3, hb3⟩
        have HR3 := Lib.hid hR3
        clear hR3
        go_wp2_with fail
        go_ret
        exact ⟨rfl, HR3.out, HB2.out.trans hb3⟩
theorem eq16 {o : Nat} (h : o ≠ 16) : ((o : Int) == 16) = false := by rw [beq_eq_false_iff_ne]; omega
theorem go_ato40 {l : List Nat} {f o p : Nat} {ns : List Nd} (h : pk l p = 40) : go l (f + 1) .ato o p ns = if o = 16 then .bad true p else (go l f .pat (o + 1) (p + 1) ns).bind fun n p ns => if pk l p = 41 then .ok n (p + 1) ns else .bad false p := by
  rw [go, if_pos h]
theorem go_ato91 {l : List Nat} {f o p : Nat} {ns : List Nd} (h0 : pk l p ≠ 40) (h : pk l p = 91) : go l (f + 1) .ato o p ns = (cls l (p + 1)).bind fun S p => addS S p ns := by
  rw [go, if_neg h0, if_pos h]
theorem go_ato46 {l : List Nat} {f o p : Nat} {ns : List Nd} (h0 : pk l p ≠ 40) (h1 : pk l p ≠ 91) (h : pk l p = 46) : go l (f + 1) .ato o p ns = addS full (p + 1) ns := by
  rw [go, if_neg h0, if_neg h1, if_pos h]
theorem go_atoS {l : List Nat} {f o p : Nat} {ns : List Nd} (h0 : pk l p ≠ 40) (h1 : pk l p ≠ 91) (h : pk l p ≠ 46) : go l (f + 1) .ato o p ns = (single l marks p).bind fun c p => addS (2 ^ c) p ns := by
  rw [go, if_neg h0, if_neg h1, if_neg h]
/-- behind a ( -/
def grp (l : List Nat) (f o p : Nat) (ns : List Nd) : G := if o = 16 then .bad true p else (go l f .pat (o + 1) (p + 1) ns).bind fun n p ns => if pk l p = 41 then .ok n (p + 1) ns else .bad false p
theorem wrap_nat (p : Nat) (h : p ≤ 1000) : wrap64 (p : Int) = (p : Int) := by unfold wrap64; omega
set_option maxHeartbeats 1600000 in
theorem group_any (f : Nat) (HP : Con f .pat 62) (B : Nat) (s : ByteArray) (o p c : Nat) (ns : List Nd) (ps : List (Int × Bool)) (nv pv : Value) (w : World) (h : RdAt w B s (p + 1) o ns ps nv pv) (hin : In (by' s) (p + 1) ns (Md.pat.g + c)) (hs : s.size ≤ 200) (ho : o ≤ 16)
    (hf : 5 * (s.size - (p + 1)) + Md.pat.c < f) : Calls Tryd.prog 73 #[.pointer (some ⟨B, 0, none⟩)] w (GP B s o ps pv w (grp (by' s) f o p ns)) := by
  obtain ⟨c0, c1, c2, -, -⟩ := h.row.cells
  have f2 := h.row.frozen 2
  have hB := h.row.lt
  have H := Lib.hid h
  clear h
  unfold grp
  by_cases h16 : o = 16
  · rw [if_pos h16]
    subst h16
    have hp : wrap64 (p : Int) = (p : Int) := wrap_nat p (by have := hin.sz; omega)
    go_enter Tryd.func73, Tryd.ntmps73
    go_wp2_with fail
    refine ⟨rfl, ?_, Below.refl _ _⟩
    first | rfl | (rw [hp]; rfl)
  · rw [if_neg h16]
    have g16 := eq16 h16
    have hRow1 : RdAt (w.setCell ⟨B, 2, none⟩ (.int .i64 ((o + 1 : Nat) : Int))) B s (p + 1) (o + 1) ns ps nv pv :=
      let b := But.set0 B w 2 (.int .i64 ((o + 1 : Nat) : Int))
      ⟨H.out.row.putO (o + 1), (H.out.but H.out.row (.refl _ _) |>.on |> fun on => own_kept on fun g hg => b.block g (on.lt g hg).2 (fun e => by have := (on.lt g hg).1; omega)), (H.out.op |> fun on => own_kept on fun g hg => b.block g (on.lt g hg).2 (fun e => by have := (on.lt g hg).1; omega))⟩
    have HP1 := HP B s (o + 1) (p + 1) c ns ps nv pv _ hRow1 hin hs (by omega) hf
    have hBw : Below B w (w.setCell ⟨B, 2, none⟩ (.int .i64 ((o + 1 : Nat) : Int))) := (But.set0 B w 2 _).belowB hB
    have HBw := Lib.hid hBw
    have hg := go_good (by_lt s) f .pat (o + 1) (p + 1) ns c hin trivial
    clear HP hRow1 hBw h16
    cases hr : go (by' s) f .pat (o + 1) (p + 1) ns with
    | bad lg q =>
      rw [hr] at HP1
      have HP1 := Lib.hid HP1
      clear hr hg
      go_enter Tryd.func73, Tryd.ntmps73
      go_wp2_with fail
      refine HP1.out.mono ?_
      rintro e w' ⟨rfl, hb⟩
      exact ⟨rfl, rfl, HBw.out.trans hb⟩
    | ok n p1 ns1 =>
      rw [hr] at HP1 hg
      obtain ⟨hp1, hn, hin1⟩ := hg
      have hle := hin1.sz
      have HP1 := Lib.hid HP1
      clear hr hin1
      simp only [G.bind]
      by_cases h41 : pk (by' s) p1 = 41
      · rw [if_pos h41]
        go_enter Tryd.func73, Tryd.ntmps73
        go_wp2_with fail
        refine HP1.out.mono ?_
        rintro e w1 ⟨rfl, ⟨nv1, hR1⟩, hb1⟩
        have HR1 := Lib.hid hR1
        clear hR1
        go_wp2_with fail
        refine (need_yes B s p1 (o + 1) nv1 pv 41 _ HR1.out.row hs (by decide) h41).mono ?_
        rintro e w2 ⟨rfl, hR2, hb2⟩
        have HR2 := Lib.hid (HR1.out.but hR2 hb2)
        have HB2 := Lib.hid ((HBw.out.trans hb1).trans (hb2.belowW HR1.out.row))
        obtain ⟨d0, d1, d2, -, -⟩ := hR2.cells
        have e2 := hR2.frozen 2
        clear hR2 hb1 hb2 c0 c1 c2 f2
        go_wp2_with fail
        go_ret
        refine ⟨rfl, ⟨nv1, ?_⟩, ?_⟩
        · have b := But.set0 B w2 2 (.int .i64 (o : Int))
          refine ⟨?_, own_kept HR2.out.on fun g hg => b.block g (HR2.out.on.lt g hg).2 (fun e => by have := (HR2.out.on.lt g hg).1; omega), own_kept HR2.out.op fun g hg => b.block g (HR2.out.op.lt g hg).2 (fun e => by have := (HR2.out.op.lt g hg).1; omega)⟩
          exact HR2.out.row.putO o
        · exact HB2.out.trans ((But.set0 B w2 2 _).belowB HR2.out.row.lt)
      · rw [if_neg h41]
        go_enter Tryd.func73, Tryd.ntmps73
        go_wp2_with fail
        refine HP1.out.mono ?_
        rintro e w1 ⟨rfl, ⟨nv1, hR1⟩, hb1⟩
        have HR1 := Lib.hid hR1
        clear hR1
        go_wp2_with fail
        refine (need_no B s p1 (o + 1) nv1 pv 41 _ HR1.out.row hle h41).mono ?_
        rintro e w2 ⟨rfl, hb2⟩
        exact ⟨rfl, rfl, (HBw.out.trans hb1).trans (hb2.belowW HR1.out.row)⟩
end Go.Proofs.YtcgllipcnmlkbaaDoor
