/- add: a node is appended. -/
import Derived.Test.YtbmoanhdpnaocaaRexE
import Derived.Maps.AppendAt
import Derived.Deep.OwnRows
namespace Go.Proofs.Ytbmoanhdpnaocaa
open Go.RowKit Sets Tr Rx
def nds (N : List Nd) : List Value := N.flatMap nd9
theorem nds_length (N : List Nd) : (nds N).length = N.length * 9 := by
  induction N with
  | nil => rfl
  | cons x N ih => unfold nds at *; rw [List.flatMap_cons, List.length_append, ih, List.length_cons]; simp [nd9]; omega
theorem nds_append (N M : List Nd) : nds (N ++ M) = nds N ++ nds M := by unfold nds; simp
theorem nds_get (N : List Nd) (i q : Nat) (hi : i < N.length) (v : Value) (hq : (nd9 (N.getD i default))[q]? = some v) : (nds N)[i * 9 + q]? = some v := by
  induction N generalizing i with
  | nil => simp at hi
  | cons x N ih =>
    have hl : (nd9 x).length = 9 := by simp [nd9]
    cases i with
    | zero =>
      simp only [List.getD_cons_zero] at hq
      unfold nds
      rw [List.flatMap_cons, Nat.zero_mul, Nat.zero_add, List.getElem?_append_left (List.getElem?_eq_some_iff.1 hq).1]
      exact hq
    | succ i =>
      simp only [List.getD_cons_succ] at hq
      unfold nds
      rw [List.flatMap_cons, List.getElem?_append_right (by rw [hl]; omega), hl, show (i + 1) * 9 + q - 9 = i * 9 + q from by omega]
      exact ih i (by simpa using hi) hq
theorem nds_ones (N : List Nd) : ∀ u ∈ nds N, u.oneCell' = true := by
  intro u hu
  unfold nds at hu
  obtain ⟨S, -, hS⟩ := List.mem_flatMap.1 hu
  simp [nd9] at hS
  rcases hS with rfl | rfl | rfl | rfl | rfl | rfl | rfl | rfl | rfl <;> rfl
theorem infoNode : (Try.prog.info? 36).map (fun i => (i.zero, i.size, i.bytes)) = some (some (.agg #[.int .u8 0, .int .u64 0, .int .u64 0, .int .u64 0, .int .u64 0, .int .i64 0, .int .i64 0, .int .i64 0, .int .i64 0]), 9, 72) := by kernel_rfl
theorem infoPart : (Try.prog.info? 47).map (fun i => (i.zero, i.size, i.bytes)) = some (some (.agg #[.int .i64 0, .bool false]), 2, 16) := by kernel_rfl
/-- v holds the nodes N, in memory of the reader's own, behind block B -/
def OwnN (B : Nat) (w : World) (v : Value) (N : List Nd) : Prop := w.ownsRow (B + 1) 36 9 v N.length (nds N)
def pts (R : List (Int × Bool)) : List Value := R.flatMap pt2
theorem pts_length (N : List (Int × Bool)) : (pts N).length = N.length * 2 := by
  induction N with
  | nil => rfl
  | cons x N ih => unfold pts at *; rw [List.flatMap_cons, List.length_append, ih, List.length_cons]; simp [pt2]; omega
theorem pts_append (N M : List (Int × Bool)) : pts (N ++ M) = pts N ++ pts M := by unfold pts; simp
theorem pts_ones (N : List (Int × Bool)) : ∀ u ∈ pts N, u.oneCell' = true := by
  intro u hu
  unfold pts at hu
  obtain ⟨S, -, hS⟩ := List.mem_flatMap.1 hu
  simp [pt2] at hS
  rcases hS with rfl | rfl <;> rfl
def OwnP (B : Nat) (w : World) (v : Value) (R : List (Int × Bool)) : Prop := w.ownsRow (B + 1) 47 2 v R.length (pts R)
theorem own_kept {w w' : World} {base : Nat} {e : TypeId} {size : Nat} {v : Value} {n : Nat} {xs : List Value} (h : w.ownsRow base e size v n xs) (hk : ∀ g, v.ownBlock = some g → w'.heap[g]? = w.heap[g]?) : w'.ownsRow base e size v n xs := by
  obtain ⟨h1, h2⟩ := h
  refine ⟨h1, ?_⟩
  rcases h2 with h2 | ⟨g, cap, cur, h3, h4, h5, h6⟩
  · exact .inl h2
  · exact .inr ⟨g, cap, cur, h3, h4, by rw [hk g (by rw [h3]; rfl)]; exact h5, h6⟩
theorem own_slice {w : World} {base : Nat} {e : TypeId} {size : Nat} {v : Value} {n : Nat} {xs : List Value} (h : w.ownsRow base e size v n xs) : ∃ a c, v = .slice a n c := by
  rcases h.2 with ⟨h1, h2⟩ | ⟨g, cap, cur, h1, -, -, h2, -⟩
  · exact ⟨none, 0, by rw [h1, h2]⟩
  · exact ⟨_, cap, h1⟩
/-- the reader in block B, and what it laid -/
structure RdAt (w : World) (B : Nat) (s : ByteArray) (p o : Nat) (ns : List Nd) (ps : List (Int × Bool)) (nv pv : Value) : Prop where
  row : Row w B s p o nv pv
  on : OwnN B w nv ns
  op : OwnP B w pv ps
theorem RdAt.apart {w : World} {B : Nat} {s : ByteArray} {p o : Nat} {ns : List Nd} {ps : List (Int × Bool)} {nv pv : Value} (h : RdAt w B s p o ns ps nv pv) : ∀ g, nv.ownBlock = some g → pv.ownBlock ≠ some g := by
  intro g h1 h2
  rcases h.on.2 with ⟨h3, -⟩ | ⟨k, cap, cur, h3, -, h4, -⟩
  · rw [h3] at h1; cases h1
  · rcases h.op.2 with ⟨h5, -⟩ | ⟨k', cap', cur', h5, -, h6, -⟩
    · rw [h5] at h2; cases h2
    · rw [h3] at h1
      rw [h5] at h2
      have e1 : k = g := by simpa [Value.ownBlock] using h1
      have e2 : k' = g := by simpa [Value.ownBlock] using h2
      subst e1 e2
      rw [h4] at h6
      injection h6 with h6
      injection h6 with h6 h7
      exact absurd h7 (by decide)
theorem RdAt.but {w w' : World} {B : Nat} {s : ByteArray} {p q o : Nat} {ns : List Nd} {ps : List (Int × Bool)} {nv pv : Value} (h : RdAt w B s p o ns ps nv pv) (hR : Row w' B s q o nv pv) (hb : But B w w') : RdAt w' B s q o ns ps nv pv :=
  ⟨hR, own_kept h.on fun g hg => hb.block g (h.on.lt g hg).2 (fun e => by have := (h.on.lt g hg).1; omega), own_kept h.op fun g hg => hb.block g (h.op.lt g hg).2 (fun e => by have := (h.op.lt g hg).1; omega)⟩
theorem RdAt.below {w w' : World} {B : Nat} {s : ByteArray} {p o : Nat} {ns : List Nd} {ps : List (Int × Bool)} {nv pv : Value} (h : RdAt w B s p o ns ps nv pv) (hb : Below w.heap.size w w') : RdAt w' B s p o ns ps nv pv :=
  h.but (h.row.below hb) (.of_below hb)
theorem But.belowB {B : Nat} {w w' : World} (h : But B w w') (hB : B < w.heap.size) : Below B w w' := ⟨h.os, h.tape, h.output, h.size, fun k hk => h.block k (by omega) (by omega)⟩
theorem fold_get (l : List Value) : ∀ (k : Nat) (z : Array Value) (i : Nat), (((l.zipIdx k).foldl (fun cs x => cs.setIfInBounds (0 + x.2) x.1) z)[i]?) = if k ≤ i ∧ i < k + l.length ∧ i < z.size then l[i - k]? else z[i]? := by
  induction l with
  | nil => intro k z i; rw [if_neg (by simp; omega)]; rfl
  | cons x l ih =>
    intro k z i
    rw [List.zipIdx_cons, List.foldl_cons, ih, Array.size_setIfInBounds, Nat.zero_add]
    by_cases hi : i = k
    · subst hi
      rw [if_neg (by omega), Array.getElem?_setIfInBounds_self]
      by_cases hz : i < z.size
      · rw [if_pos hz, if_pos ⟨by omega, by simp, hz⟩, Nat.sub_self]; rfl
      · rw [if_neg hz, if_neg (by omega), Array.getElem?_eq_none (by omega)]
    · rw [Array.getElem?_setIfInBounds_ne (by omega)]
      by_cases h : k ≤ i ∧ i < k + (x :: l).length ∧ i < z.size
      · rw [if_pos h, if_pos (by simp at h; omega), show i - k = i - (k + 1) + 1 from by omega]; rfl
      · rw [if_neg h, if_neg (by simp at h; omega)]
theorem fill_whole (place : Nat → Option (Nat × Nat)) (z c : Array Value) (n : Nat) (hp : place 0 = some (0, n)) (hn : c.size = n) (hz : z.size = n) : Instr.fill place z [(0, .agg c)] = some c := by
  unfold Instr.fill
  rw [hp]
  show (if (decide (c.size ≠ n) || decide (0 + c.size > z.size)) = true then none else Instr.fill place _ []) = _
  rw [if_neg (by simp; omega)]
  unfold Instr.fill
  congr 1
  show (c.zipIdx.foldl (fun cs x => cs.setIfInBounds (0 + x.2) x.1) z) = c
  rw [← Array.foldl_toList, Array.toList_zipIdx]
  apply Array.ext_getElem?
  intro i
  rw [fold_get]
  by_cases h : i < n
  · rw [if_pos ⟨by omega, by rw [Array.length_toList]; omega, by omega⟩, Nat.sub_zero, Array.getElem?_toList]
  · rw [if_neg (by omega), Array.getElem?_eq_none (by omega), Array.getElem?_eq_none (by omega)]
theorem run_buildNode (x : Nd) (w : World) : (Instr.buildSlice 24 1 #[(0, .agg (nd9 x).toArray)]).run Try.prog w = .ok (.slice (some ⟨w.heap.size, 0, none⟩) 1 1) (w.alloc (.cells (nd9 x).toArray 36)) := by
  have h1 : (underlying 24).run Try.prog w = .ok (.slice 36) w := by kernel_rfl
  have h2 : (sizeOf 36).run Try.prog w = .ok 9 w := by kernel_rfl
  unfold Instr.buildSlice
  simp only [Sem.run_bind, h1, h2, Result.andThen_ok]
  rw [if_neg (by decide), if_neg (by decide)]
  simp only [Sem.run_bind, Sem.run_pure, zeroNode, Result.andThen_ok]
  rw [fill_whole _ _ (nd9 x).toArray 9 rfl rfl (by rw [Array.size_map, Array.size_range])]
  rfl
theorem wpList_buildNode {ops : Array Oper} {rest : List Oper} {o : Oper} {a : Act} {w : World} {Q : Exit → Act → World → Prop} (hgd : o.guard = none) (y : Operand)
    (ho : o.op = .buildSlice 24 1 #[(0, y)]) (x : Nd) (hx : a.eval y = .agg (nd9 x).toArray) (h : wpList Try.prog ops Q rest (a.put o.dst (.slice (some ⟨w.heap.size, 0, none⟩) 1 1)) (w.alloc (.cells (nd9 x).toArray 36))) : wpList Try.prog ops Q (o :: rest) a w := by
  refine wpList_plain hgd fun K hK => ?_
  unfold Oper.wp execOp
  simp only [ho]
  have e : (#[((0 : Nat), y)].map fun y : Nat × Operand => (y.1, a.eval y.2)) = #[(0, .agg (nd9 x).toArray)] := by simp [hx]
  rw [e]
  simp only [Sem.run_bind, Sem.run_pure, run_buildNode, Result.andThen_ok]
  exact hK _ _ h
/-- one node, just laid, is appended -/
theorem wpList_append_node {ops : Array Oper} {rest : List Oper} {o : Oper} {a : Act} {w : World} {Q : Exit → Act → World → Prop} (hgd : o.guard = none) (s y : Operand)
    (ho : o.op = .call { callee := .builtin .append, args := #[s, y], argTypes := #[24, 24] }) (B : Nat) (v : Value) (N : List Nd) (x : Nd) (hs : a.eval s = v)
    (g : Nat) (hc : w.rangeAt g 0 (nd9 x)) (hown : OwnN B w v N) (hx : a.eval y = .slice (some ⟨g, 0, none⟩) 1 1) (hN : N.length ≤ 1000) (hbase : B + 1 ≤ w.heap.size)
    (h : ∀ v' w', OwnN B w' v' (N ++ [x]) → w.grownBy w' v.ownBlock → (v'.ownBlock = v.ownBlock ∨ v'.ownBlock = some w.heap.size) → wpList Try.prog ops Q rest (a.put o.dst v') w') :
    wpList Try.prog ops Q (o :: rest) a w := by
  obtain ⟨i0, hi, hz0, hz1, hz2⟩ := info_parts infoNode
  refine wpList_append_own_at _ hgd s y 24 ho (B + 1) 36 i0 _ 9 72 Try.underlying24 hi hz0 hz1 hz2 rfl (by decide) v _ _ hs hown ⟨g, 0, none⟩ 1 1 (nd9 x) hx rfl ?_ ?_ ?_ ?_ hbase ?_
  · intro j u hj
    rw [Addr.add_lit]
    exact hc j u hj
  · have := nds_ones [x]
    simpa [nds] using this
  · unfold maxLen; omega
  · omega
  · intro v' w' h1 h2 _ h4
    refine h v' w' ?_ h2 h4
    unfold OwnN
    rw [nds_append, List.length_append]
    simpa [nds] using h1
set_option maxHeartbeats 3200000 in
set_option maxRecDepth 100000 in
theorem add_any (B : Nat) (s : ByteArray) (p o : Nat) (ns : List Nd) (ps : List (Int × Bool)) (nv pv : Value) (x : Nd) (w : World) (h : RdAt w B s p o ns ps nv pv) (hn : ns.length ≤ 1000) :
    Calls Try.prog 23 #[.pointer (some ⟨B, 0, none⟩), .agg (nd9 x).toArray] w fun e w' =>
      e = .returned (.int .i64 (ns.length : Nat)) ∧ (∃ nv', RdAt w' B s p o (ns ++ [x]) ps nv' pv) ∧ Below B w w' := by
  have hB := h.row.lt
  have hBx := BoxAt.new w x
  have hR := h.row.alloc (.cells (nd9 x).toArray 36)
  have hal := (Below.refl w.heap.size w).alloc (Nat.le_refl _) (.cells (nd9 x).toArray 36)
  have H := Lib.hid (h.below hal)
  have HNB := Lib.hid (fun g hg => (h.on.lt g hg).2)
  have HBx := Lib.hid hBx
  have HAl := Lib.hid hal
  have HSz : Hid ((w.alloc (.cells (nd9 x).toArray 36)).heap.size = w.heap.size + 1) := Lib.hid (by simp)
  clear h hBx hR hal
  go_enter Try.func23, Try.ntmps23
  go_wp2_with (refine wpList_store_node rfl _ _ rfl x rfl rfl ?_)
  generalize (w.alloc (.cells (nd9 x).toArray 36)) = w1 at *
  obtain ⟨c0, c1, c2, c3, c4⟩ := H.out.row.cells
  obtain ⟨na, nc, hnv⟩ := own_slice H.out.on
  have hBB : B ≠ w.heap.size := by omega
  refine region_mix [(false, 0), (false, 1), (false, 2), (false, 3), (false, 4), (false, 5), (false, 6), (true, 7), (true, 8), (false, 9), (false, 10), (false, 11)] (fun w' => w'.heap[B]? = w1.heap[B]? ∧ w'.heap[w.heap.size]? = w1.heap[w.heap.size]?) (by kernel_rfl) (by kernel_rfl) ⟨rfl, rfl⟩ ?_
  simp only [planOps, List.map_cons, List.map_nil, List.getD_cons_zero, List.getD_cons_succ, List.length_cons, List.length_nil, List.drop_succ_cons, List.drop_zero]
  refine mix_seg (seg := [_, _, _, _, _, _, _]) rfl ⟨rfl, rfl⟩ ?_
  intro ι hι F hF
  have g3 : ∀ n, (F n).cell? ⟨B, 3, none⟩ = some nv := fun n => (H.out.row.kept (hF n).1).cells.2.2.2.1
  have gx : ∀ w', (∃ n, w' = F n) → BoxAt w' w.heap.size x := fun w' ⟨n, e⟩ => ⟨by rw [e, (hF n).2]; exact HBx.out.row⟩
  have GX := Lib.hid gx
  clear gx
  repeat (first | (go_big_quiet_step (fail)) | (refine BigFrame.wpQuiet_want rfl (fun K hK => ?_); refine quiet_load_node (.tmp 3) rfl w.heap.size x rfl GX.out ?_; refine hK _ ?_; clear hK K; simp only [Act.put, List.setIfInBounds_toArray, List.set_cons_zero, List.set_cons_succ]))
  refine wpQuiet_nil ?_
  clear GX g3 hF hι F
  refine mix_eff (fun K hK => ?_)
  go_wp2_with (refine wpList_buildNode rfl _ rfl x rfl ?_)
  refine mix_on hK ⟨Below.heap_alloc _ _ _ H.out.row.lt, Below.heap_alloc _ _ _ HBx.out.lt⟩ ?_
  clear hK K
  have hal2 := ((Below.refl w1.heap.size w1).alloc (Nat.le_refl _) (.cells (nd9 x).toArray 36)).drew
  have HA2 := Lib.hid hal2
  have H2 := Lib.hid (H.out.below hal2)
  have HB2 := Lib.hid (((HAl.out.trans (hal2.mono (by have := HSz.out; omega)))))
  have HC2 : Hid ((w1.alloc (.cells (nd9 x).toArray 36)).drew.rangeAt w1.heap.size 0 (nd9 x)) := Lib.hid (BoxAt.new w1 x).range
  have HS2 : Hid ((w1.alloc (.cells (nd9 x).toArray 36)).drew.heap.size = w1.heap.size + 1) := Lib.hid (by show (w1.alloc _).heap.size = _; simp)
  clear hal2
  generalize (w1.alloc (.cells (nd9 x).toArray 36)).drew = w2 at *
  refine mix_eff (fun K hK => ?_)
  have HOn := Lib.hid H2.out.on
  rw [hnv] at HOn
  go_wp2_with (refine wpList_append_node rfl _ _ rfl B _ ns x rfl w1.heap.size HC2.out HOn.out rfl hn H2.out.row.lt ?_; intro v3 w3 hO3 hG3 hE3; have HO3 := Lib.hid hO3; have HG3 := Lib.hid hG3; have HE3 := Lib.hid hE3; clear hO3 hG3 hE3)
  rw [← hnv] at HG3 HE3
  clear HOn
  obtain ⟨a3, c3', hv3⟩ := own_slice HO3.out
  have hrow : w3.heap[B]? = w2.heap[B]? := HG3.out.block B H2.out.row.lt (fun e => by have := (H2.out.on.lt B e.symm).1; omega)
  have HRow3 := Lib.hid (H2.out.row.kept hrow)
  have hbox : w3.heap[w.heap.size]? = w2.heap[w.heap.size]? := HG3.out.block _ (by have := HS2.out; have := HSz.out; omega) (fun e => by
    have h1 := HNB.out w.heap.size e.symm
    omega)
  have hCC : w3.heap[B]? = w1.heap[B]? ∧ w3.heap[w.heap.size]? = w1.heap[w.heap.size]? :=
    ⟨hrow.trans (HA2.out.block B H.out.row.lt), hbox.trans (HA2.out.block _ HBx.out.lt)⟩
  have HP3 := Lib.hid (own_kept H2.out.op (fun g hg => HG3.out.block g (H2.out.op.lt g hg).2 (fun e => H2.out.apart g e.symm hg)))
  have HB3 : Hid (Below B w w3) := Lib.hid ⟨HG3.out.os.trans HB2.out.os, HG3.out.tape.trans HB2.out.tape, HG3.out.output.trans HB2.out.output, Nat.le_trans HB2.out.size HG3.out.size, fun k hk => by
    rw [HG3.out.block k (by have := H2.out.row.lt; omega) (fun e => by have := (H2.out.on.lt k e.symm).1; omega)]
    exact HB2.out.block k (by omega)⟩
  clear hrow hbox
  refine mix_on hK hCC ?_
  clear hK K
  refine mix_seg (seg := [_, _, _]) rfl hCC ?_
  intro ι hι F hF
  repeat (go_big_quiet_step (fail))
  refine wpQuiet_nil ?_
  clear hF hι F
  obtain ⟨d0, d1, d2, d3, d4⟩ := HRow3.out.cells
  have f3 := HRow3.out.frozen 3
  subst hv3
  show wpList _ _ _ _ _ _
  go_wp2
  refine NoPanic.normal ?_
  go_wp2
  go_ret
  refine ⟨rfl, ⟨Value.slice a3 (ns ++ [x]).length c3', ?_, ?_, ?_⟩, ?_⟩
  · have := HRow3.out
    unfold Row at *
    simp [World.setCell, Array.getElem?_modify, this]
  · exact own_kept HO3.out (fun g hg => Below.heap_setCell _ _ _ _ (by have := (HO3.out.lt g hg).1; simp only; omega))
  · exact own_kept HP3.out (fun g hg => Below.heap_setCell _ _ _ _ (by have := (HP3.out.lt g hg).1; simp only; omega))
  · exact ⟨HB3.out.os, HB3.out.tape, HB3.out.output, by simpa using HB3.out.size, fun k hk => by
      show (w3.setCell _ _).heap[k]? = _
      rw [Below.heap_setCell _ _ _ _ (by simp only; omega)]
      exact HB3.out.block k hk⟩
end Go.Proofs.Ytbmoanhdpnaocaa
