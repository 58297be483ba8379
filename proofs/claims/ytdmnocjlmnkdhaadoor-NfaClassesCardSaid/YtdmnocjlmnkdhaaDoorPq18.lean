/- classes.Refine. -/
import Derived.Test.YtdmnocjlmnkdhaaDoorPq17
namespace Go.Proofs.YtdmnocjlmnkdhaaDoor
open Go.RowKit Go.Shelf Sets Cls
attribute [local go_sem] Oper.semAt_some
theorem wpListIn_load_row {F : Fence} {n l : Nat} {P : Program} {ops : Array Oper} {rest : List Oper} {o : Oper} {a : Act} {w : World} {Q : Exit → Act → World → Prop} (hF : F.round = some l) (hgd : o.guard = none) (ty : TypeId) (x : Operand) (ho : o.op = .load ty x)
    (g : Nat) (hx : a.eval x = .pointer (some ⟨g, 0, none⟩)) (t : TypeId) (cs : Array Value) (fr : Nat × Nat) (d : TypeDesc) (hg : w.heap[g]? = some (.cells cs t fr))
    (hu : P.underlying ty = some d) (hd : (match d with | .struct _ | .array _ _ => true | _ => false) = true) (hi : (P.info? ty).map (·.size) = some cs.size)
    (h : wpListIn F n P ops Q rest (a.put o.dst (.agg cs)) w) : wpListIn F n P ops Q (o :: rest) a w := by
  refine wpListIn_plain hgd fun K hK => ⟨fun f hf => (by unfold Oper.about at hf; simp only [ho] at hf; cases hf), ?_⟩
  rw [hF, Oper.semAt_some l _ o (fun c e => by rw [ho] at e; cases e)]
  unfold execOp
  simp only [ho, hx, Instr.loadAt, Instr.sureAddr, Sem.run_bind, Sem.run_pure, Result.andThen_ok, run_loadVar_row w g t ty cs fr d hg hu hd hi]
  exact hK _ _ h
theorem wpListIn_store_row {F : Fence} {n l : Nat} {P : Program} {ops : Array Oper} {rest : List Oper} {o : Oper} {a : Act} {w : World} {Q : Exit → Act → World → Prop} (hF : F.round = some l) (hgd : o.guard = none) (ty : TypeId) (x y : Operand) (ho : o.op = .store ty x y)
    (g : Nat) (cells : Array Value) (hx : a.eval x = .pointer (some ⟨g, 0, none⟩)) (hy : a.eval y = .agg cells)
    (t : TypeId) (old : Array Value) (hg : w.heap[g]? = some (.cells old t (0, 0))) (hi : (P.info? ty).map (·.size) = some cells.size)
    (hold : old.size = cells.size) (h1 : cells.all (·.oneCell') = true)
    (h : wpListIn F n P ops Q rest (a.put o.dst undef) (w.setRow g cells)) : wpListIn F n P ops Q (o :: rest) a w := by
  refine wpListIn_plain hgd fun K hK => ⟨fun f hf => (by unfold Oper.about at hf; simp only [ho] at hf; cases hf), ?_⟩
  rw [hF, Oper.semAt_some l _ o (fun c e => by rw [ho] at e; cases e)]
  unfold execOp
  simp only [ho, hx, hy, Instr.storeAt, Instr.sureAddr, Sem.run_bind, Sem.run_pure, Result.andThen_ok, run_storeVar_row w g t ty old cells hg hi hold h1]
  exact hK _ _ h
/-- The relation of the parts that have come. -/
def partsE (L : List Nat) (pre : List Nat) (a b : Nat) : Bool := pre.all fun k => same (chunkL L k) a b
theorem partsE_eqv (L pre : List Nat) : Eqv (partsE L pre) :=
  ⟨fun a => by unfold partsE; rw [List.all_eq_true]; exact fun k _ => (same_eqv _).refl a,
   fun a b h => by unfold partsE at *; rw [List.all_eq_true] at *; exact fun k hk => (same_eqv _).symm a b (h k hk),
   fun a b c h g => by unfold partsE at *; rw [List.all_eq_true] at *; exact fun k hk => (same_eqv _).trans a b c (h k hk) (g k hk)⟩
theorem partsE_snoc (L pre : List Nat) (k : Nat) : byKey (keyC (partsE L pre) (chunkL L k)) = partsE L (pre ++ [k]) := by
  funext a b
  rw [byKey_keyC _ (partsE_eqv L pre)]
  unfold partsE
  simp
theorem partsE_all (L : List Nat) (k : Nat) (h : L.length ≤ 64 * k) : partsE L (upto k) = same L := by
  funext a b
  rw [Bool.eq_iff_iff]
  unfold partsE
  rw [List.all_eq_true, same_iff]
  constructor
  · intro hp S hS
    obtain ⟨i, hi, rfl⟩ := List.mem_iff_getElem.1 hS
    have := hp (i / 64) (by unfold upto; rw [List.mem_range]; omega)
    rw [same_iff] at this
    refine this _ ?_
    unfold chunkL
    rw [List.mem_iff_getElem?]
    exact ⟨i % 64, by rw [List.getElem?_take_of_lt (by omega), List.getElem?_drop, show 64 * (i / 64) + i % 64 = i from by omega, List.getElem?_eq_getElem hi]⟩
  · intro hp j _
    rw [same_iff]
    intro S hS
    exact hp S (List.mem_of_mem_drop (List.mem_of_mem_take hS))
theorem partsE_nil (L : List Nat) : (∀ c, cls (partsE L []) c = 0) ∧ nh (partsE L []) 256 = 1 := by
  have hh : ∀ c, head (partsE L []) c = decide (c = 0) := by
    intro c
    rw [Bool.eq_iff_iff, head_iff, decide_eq_true_iff]
    constructor
    · intro h; rcases Nat.eq_zero_or_pos c with h0 | h0
      · exact h0
      · have := h 0 h0; cases this
    · rintro rfl d hd; omega
  have h1 : ∀ c, nh (partsE L []) (c + 1) = 1 := by
    intro c
    induction c with
    | zero => simp [nh, hh]
    | succ c ih => rw [nh, ih, hh]; simp
  refine ⟨fun c => ?_, h1 255⟩
  have hE := partsE_eqv L []
  have := cls_lt_nh (partsE L []) hE c (c + 1) (by omega)
  rw [h1] at this; omega
theorem keeps_of_below {w w' : World} (h : Below w.heap.size w w') : KeepsOthers w w' := ⟨h.size, fun k _ hk _ => (h.block k (Array.getElem?_eq_some_iff.1 hk).1).trans hk⟩
theorem keeps_setRow {w : World} {g : Nat} {t : TypeId} {old cs : Array Value} (hg : w.heap[g]? = some (.cells old t (0, 0))) : KeepsOthers w (w.setRow g cs) :=
  ⟨by simp, fun k o hk ho => by
    by_cases e : k = g
    · subst e; rw [hg] at hk; cases hk; cases ho
    · rw [setRow_other _ _ _ _ e]; exact hk⟩
theorem wpList_build {P : Program} {ops : Array Oper} {rest : List Oper} {o : Oper} {a : Act} {w : World} {Q : Exit → Act → World → Prop} (hgd : o.guard = none) (t : TypeId) (parts : Array (Nat × Operand)) (ho : o.op = .build t parts)
    (vs : Array (Nat × Value)) (hv : (parts.map fun (i, x) => (i, a.eval x)) = vs) (v : Value) (hrun : (Instr.build t vs).run P w = .ok v w) (h : wpList P ops Q rest (a.put o.dst v) w) : wpList P ops Q (o :: rest) a w := by
  refine wpList_plain hgd fun K hK => ?_
  unfold Oper.wp execOp
  simp only [ho, hv, Sem.run_bind, Sem.run_pure, hrun, Result.andThen_ok]
  exact hK _ _ h
theorem cell_putObj (W : World) (l : Nat) (o : Obj) (p : Addr) (h : p.block ≠ l) : (W.putObj l o).cell? p = W.cell? p := by
  unfold World.cell?
  rw [World.putObj_heap_other h]
theorem cell_setRow (W : World) (g : Nat) (cs : Array Value) (p : Addr) (h : p.block ≠ g) : (W.setRow g cs).cell? p = W.cell? p := by
  unfold World.cell?
  rw [setRow_other _ _ _ _ h]
theorem PartAt.grown {w w' : World} {row : Option Nat} {B : Nat} {of : Nat → Nat} {n : Int} (h : PartAt w B of n) (hg : w.grownBy w' row) (hne : some B ≠ row) : PartAt w' B of n := by
  have hl := h.lt
  unfold PartAt at *; rw [hg.block B hl hne]; exact h
theorem buildP (w : World) : (Instr.build 33 #[(1, .int .i64 1)]).run Tryd.prog w = .ok (.agg (partC (fun _ => 0) 1)) w := by
  rw [show partC (fun _ => 0) 1 = (List.replicate 256 (Value.int .u8 0) ++ [Value.int .i64 1]).toArray from by unfold partC ofL; rw [List.map_const', List.length_range]; rfl]
  kernel_rfl
set_option maxHeartbeats 3200000 in
set_option maxRecDepth 100000 in
theorem Refine_any (v : Value) (L : List Nat) (w : World) (hv : SetsIn w v L) (hreach : L.length * 32 ≤ 140737488351232) :
    Calls Tryd.prog 6 #[v] w fun e w' => e = .returned (.agg (partC (cls (same L)) (nh (same L) 256 : Nat))) ∧ Below w.heap.size w w' := by
  have hz := zeroP
  obtain ⟨a, cap, rfl⟩ : ∃ a cap, v = .slice a L.length cap := by obtain ⟨-, a, cap, h, -⟩ := hv; exact ⟨a, cap, h⟩
  have hP : PartAt ((w.alloc (.cells (partC (fun _ => 0) 0) 33)).alloc (.cells (partC (fun _ => 0) 0) 33)) (w.heap.size + 1) (fun _ => 0) 0 := by
    have := PartAt.new (w.alloc (.cells (partC (fun _ => 0) 0) 33)) (fun _ => 0) 0
    simpa using this
  refine (callsIn_wide (n := 9)).1 ?_
  refine callsIn_of_wp_marks Tryd.func6 rfl trivial ?_ rfl
  simp only [Tryd.ntmps6, List.size_toArray, List.length_cons, List.length_nil, Nat.reduceAdd, Nat.reduceSub, Array.replicate_succ, Array.replicate_zero, List.push_toArray, List.append_toArray, List.nil_append, List.cons_append]
  refine wpIn_wide.2 ?_
  go_wp2_with (first
    | (refine wpList_build rfl 33 _ rfl #[(1, .int .i64 1)] (by simp [Act.eval]) _ (buildP _) ?_)
    | (refine wpList_store_row rfl 33 (.tmp 3) (.tmp 5) rfl (w.heap.size + 1) (partC (fun _ => 0) 1) rfl rfl 33 (partC (fun _ => 0) 0) hP (sizeP _ _) (by rw [partC_size, partC_size]) (partC_one _ _) ?_)
    | (go_at_call 14; refine (chunk_any _ _ _ _).mono ?_; rintro e w' ⟨rfl, rfl⟩))
  have hR0 : PartAt ((w.alloc (.cells (partC (fun _ => 0) 0) 33)).alloc (.cells (partC (fun _ => 0) 0) 33)) w.heap.size (fun _ => 0) 0 := (PartAt.new w (fun _ => 0) 0).alloc _
  have hB0 : Below w.heap.size w ((w.alloc (.cells (partC (fun _ => 0) 0) 33)).alloc (.cells (partC (fun _ => 0) 0) 33)) := ((Below.refl _ _).alloc (Nat.le_refl _) _).alloc (by simp) _
  have hsz0 : ((w.alloc (.cells (partC (fun _ => 0) 0) 33)).alloc (.cells (partC (fun _ => 0) 0) 33)).heap.size = w.heap.size + 1 + 1 := by simp
  generalize (w.alloc (.cells (partC (fun _ => 0) 0) 33)).alloc (.cells (partC (fun _ => 0) 0) 33) = W0 at *
  have hP1 : PartAt (W0.setRow (w.heap.size + 1) (partC (fun _ => 0) 1)) (w.heap.size + 1) (fun _ => 0) 1 := setRow_heap W0 _ _ _ _ _ hP
  have hR1 : PartAt (W0.setRow (w.heap.size + 1) (partC (fun _ => 0) 1)) w.heap.size (fun _ => 0) 0 := by unfold PartAt at *; rw [setRow_other _ _ _ _ (by omega)]; exact hR0
  have hB1 : Below w.heap.size w (W0.setRow (w.heap.size + 1) (partC (fun _ => 0) 1)) := hB0.trans ⟨rfl, rfl, rfl, by simp, fun k hk => setRow_other _ _ _ _ (by omega)⟩
  have hsz1 : (W0.setRow (w.heap.size + 1) (partC (fun _ => 0) 1)).heap.size = w.heap.size + 1 + 1 := by simp [hsz0]
  generalize W0.setRow (w.heap.size + 1) (partC (fun _ => 0) 1) = W1 at *
  rw [← hsz1]
  have hP2 := (hP1.alloc (.cells #[.slice a L.length cap] 35)).alloc (.cells #[.int .i64 64] 3)
  have hR2 := (hR1.alloc (.cells #[.slice a L.length cap] 35)).alloc (.cells #[.int .i64 64] 3)
  have hB2 : Below w.heap.size w ((W1.alloc (.cells #[.slice a L.length cap] 35)).alloc (.cells #[.int .i64 64] 3)) := (hB1.alloc (by omega) _).alloc (by simp; omega) _
  have hcs : ((W1.alloc (.cells #[.slice a L.length cap] 35)).alloc (.cells #[.int .i64 64] 3)).cell? ⟨W1.heap.size, 0, none⟩ = some (.slice a L.length cap) := by simp
  have hcn : ((W1.alloc (.cells #[.slice a L.length cap] 35)).alloc (.cells #[.int .i64 64] 3)).cell? ⟨W1.heap.size + 1, 0, none⟩ = some (.int .i64 64) := by simp
  have hsz2 : ((W1.alloc (.cells #[.slice a L.length cap] 35)).alloc (.cells #[.int .i64 64] 3)).heap.size = W1.heap.size + 1 + 1 := by simp
  generalize (W1.alloc (.cells #[.slice a L.length cap] 35)).alloc (.cells #[.int .i64 64] 3) = W2 at *
  have hI2 : SetsIn W2 (.slice a L.length cap) L := hv.kept hB2
  clear hP hR0 hB0 hP1 hR1 hB1 hsz0
  refine (wpIn_wide (n := 9)).1 ?_
  have hS1 := Lib.hid hsz1
  have hS2 := Lib.hid hsz2
  have hlt1 : w.heap.size + 1 < W1.heap.size := by omega
  have hlt2 : W1.heap.size + 1 < W2.heap.size := by omega
  clear hsz1 hsz2
  refine wpIn_rangeFunc_ownF rfl (by decide) (gf := 32) (lb := #[.pointer (some ⟨W1.heap.size, 0, none⟩), .pointer (some ⟨W1.heap.size + 1, 0, none⟩)]) rfl trivial (enters_of Tryd.func32 (by kernel_rfl) rfl)
    (chunk_stops 8 (by decide) W1.heap.size (W1.heap.size + 1) a cap L hreach W2 (by omega) (by omega) hcs hcn hI2) KeepC.trans ?hkb (Below.refl _ _) (fun _ => rfl)
    (fun pre W => PartAt W (w.heap.size + 1) (cls (partsE L pre)) (nh (partsE L pre) 256 : Nat) ∧ PartAt W w.heap.size (fun _ => 0) 0 ∧ Below w.heap.size w W ∧ W2.heap.size ≤ W.heap.size)
    (fun _ _ _ => False) ?hI (fun _ _ _ _ _ hs _ _ => hs) ?h0
    (fun k => { tmps := #[.slice a L.length cap, undef, .pointer (some ⟨w.heap.size, 0, none⟩), .pointer (some ⟨w.heap.size + 1, 0, none⟩), chunkV a L.length k, .agg (partC (fun _ => 0) 1), .slice a L.length cap, .func (.func 32) #[] #[.pointer (some ⟨W1.heap.size, 0, none⟩), .pointer (some ⟨W1.heap.size + 1, 0, none⟩)], chunkV a L.length k, undef, undef, undef, undef], defers := [] }) ?assign ?body ?done ?stop
  case hkb =>
    intro W l o o' hl h hc hw
    exact ⟨cell_putObj _ _ _ _ (by simp; omega), cell_putObj _ _ _ _ (by simp; omega)⟩
  case hI =>
    rintro s W W' row ⟨h1, h2, h3, h4⟩ hg hr
    exact ⟨h1.grown hg (fun e => by have := (hr _ e.symm).1; omega), h2.grown hg (fun e => by have := (hr _ e.symm).1; omega), h3.grown hg h3.size (fun k e => by have := (hr k e).1; omega), Nat.le_trans h4 hg.size⟩
  case h0 =>
    obtain ⟨e1, e2⟩ := partsE_nil L
    rw [e2]
    exact ⟨hP2.congr (fun c _ => (e1 c).symm), hR2, hB2, Nat.le_refl _⟩
  case assign =>
    intro l x W K hK
    gi_wp2
    exact hK
  case body =>
    rintro l pre k W ⟨hP, hR, hB, hW2⟩ _
    have hck := chunk_in (hv.kept hB) k
    have hcl : (chunkL L k).length ≤ 64 := by rw [chunkL_length]; omega
    have hsz3 : w.heap.size + 1 < W.heap.size := hP.lt
    gi_wp2_with (refine wpListIn_load_row rfl rfl 33 (.tmp 3) rfl (w.heap.size + 1) rfl 33 (partC (cls (partsE L pre)) (nh (partsE L pre) 256 : Nat)) (0, 0) _ hP Tryd.underlying33 rfl (sizeP _ _) ?_)
    refine ⟨trivial, ?_⟩
    refine (CallsIn.inRound l (callsIn_wide.2 (refine_any (partsE L pre) (partsE_eqv L pre) (nh (partsE L pre) 256 : Nat) _ (chunkL L k) _ hck hcl))).mono ?_
    rintro e W5 ⟨rfl, hb5⟩
    rw [partsE_snoc]
    have hP5 := hP.kept hb5 hsz3
    have hR5 := hR.kept hb5 (by omega)
    have hB5 := hB.trans (hb5.mono hB.size)
    gi_wp2_with (refine wpListIn_store_row rfl rfl 33 (.tmp 3) (.tmp 11) rfl (w.heap.size + 1) (partC (cls (partsE L (pre ++ [k]))) (nh (partsE L (pre ++ [k])) 256 : Nat)) rfl rfl 33 (partC (cls (partsE L pre)) (nh (partsE L pre) 256 : Nat)) hP5 (sizeP _ _) (by rw [partC_size, partC_size]) (partC_one _ _) ?_)
    refine ⟨(keeps_of_below hb5).trans (keeps_setRow hP5), ⟨?_, ?_⟩, ?_, ?_, ?_, ?_⟩
    · rw [cell_setRow _ _ _ _ (by simp; omega)]; exact hb5.cell (by simp; omega)
    · rw [cell_setRow _ _ _ _ (by simp; omega)]; exact hb5.cell (by simp; omega)
    · exact setRow_heap W5 _ _ _ _ _ hP5
    · unfold PartAt at *; rw [setRow_other _ _ _ _ (by omega)]; exact hR5
    · exact hB5.trans ⟨rfl, rfl, rfl, by simp, fun k hk => setRow_other _ _ _ _ (by omega)⟩
    · have := hb5.size; simp; omega
  case done =>
    rintro D ys W hD ⟨m, h1, h2, rfl⟩ ⟨hP, hR, hB, -⟩ hK
    rw [partsE_all L m h2] at hP
    go_wp2_with (first
      | (refine wpList_load_row rfl 33 (.tmp 3) rfl (w.heap.size + 1) rfl 33 (partC (cls (same L)) (nh (same L) 256 : Nat)) (0, 0) _ hP Tryd.underlying33 rfl (sizeP _ _) ?_)
      | (refine wpList_store_row rfl 33 (.tmp 2) (.tmp 12) rfl w.heap.size (partC (cls (same L)) (nh (same L) 256 : Nat)) rfl rfl 33 (partC (fun _ => 0) 0) hR (sizeP _ _) (by rw [partC_size, partC_size]) (partC_one _ _) ?_))
    have hK2 : (W.setRow w.heap.size (partC (cls (same L)) (nh (same L) 256 : Nat))).heap[D]? = some (.deferred (some [])) := by rw [setRow_other _ _ _ _ (by omega)]; exact hK
    have hR3 : (W.setRow w.heap.size (partC (cls (same L)) (nh (same L) 256 : Nat))).heap[w.heap.size]? = some (.cells (partC (cls (same L)) (nh (same L) 256 : Nat)) 33 (0, 0)) := setRow_heap W _ _ _ _ _ hR
    have hB3 : Below w.heap.size w (W.setRow w.heap.size (partC (cls (same L)) (nh (same L) 256 : Nat))) := hB.trans ⟨rfl, rfl, rfl, by simp, fun k hk => setRow_other _ _ _ _ (by omega)⟩
    generalize W.setRow w.heap.size (partC (cls (same L)) (nh (same L) 256 : Nat)) = W9 at *
    have hR4 : (W9.putObj D (.deferred none)).heap[w.heap.size]? = some (.cells (partC (cls (same L)) (nh (same L) 256 : Nat)) 33 (0, 0)) := by rw [World.putObj_heap_other (by omega)]; exact hR3
    refine ⟨by simp, .inl ⟨_, _, rfl, run_takeDeferred hK2, ?_⟩⟩
    refine ⟨.agg (partC (cls (same L)) (nh (same L) 256 : Nat)), results_cell_row (p := 2) Tryd.results6 _ _ w.heap.size 33 _ (0, 0) _ rfl hR4 Tryd.underlying33 rfl (sizeP _ _), rfl, ?_⟩
    exact hB3.trans (belowK_b (w := w) (Nat.le_refl _) W9 D _ _ (by omega) hK2 rfl rfl)
  case stop =>
    rintro D c pre W _ _ h _
    exact h.elim
end Go.Proofs.YtdmnocjlmnkdhaaDoor
