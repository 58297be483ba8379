/- Several texts in one. -/
import Derived.Test.YtmjjkamndlefmaaDoorPq03
import Derived.Laws.StructEq
import Derived.Test.YtmjjkamndlefmaaDoorPq39
namespace Go.Proofs.YtmjjkamndlefmaaDoor
open Go.RowKit Sets Cls
theorem partC_cut (of : Nat → Nat) (n : Int) : (partC of n).extract 0 256 = (ofL of).toArray := by
  unfold partC
  rw [List.extract_toArray]
  congr 1
  simp [ofL_length, List.extract_eq_take_drop]
theorem partO (of : Nat → Nat) (n : Int) (w : World) : (part 22 (partC of n) 0).run Tryd.prog w = .ok (.agg (ofL of).toArray) w := by
  have h1 : (isAgg 22).run Tryd.prog w = .ok true w := by kernel_rfl
  have h2 : (sizeOf 22).run Tryd.prog w = .ok 256 w := by kernel_rfl
  unfold part
  simp only [Sem.run_bind, h1, h2, Result.andThen_ok, if_true, Sem.run_pure, Nat.zero_add, partC_cut]
theorem partN' (of : Nat → Nat) (n : Int) (w : World) : (part 3 (partC of n) 256).run Tryd.prog w = .ok (.int .i64 n) w := by
  have h1 : (isAgg 3).run Tryd.prog w = .ok false w := by kernel_rfl
  unfold part
  simp only [Sem.run_bind, h1, Result.andThen_ok, partC_n]
  rfl
theorem forIn_yield {σ : Type} {P : Program} {w : World} (f : Nat → σ → Sem (ForInStep σ)) (l : List Nat) (b : σ) (h : ∀ i ∈ l, (f i b).run P w = .ok (.yield b) w) : (forIn l b f).run P w = .ok b w := by
  induction l with
  | nil => rfl
  | cons x l ih =>
    rw [List.forIn_cons, Sem.run_bind, h x (by simp)]
    exact ih (fun i hi => h i (by simp [hi]))
theorem eqOf (of : Nat → Nat) (d : Nat) (w : World) : (Op.equalIn (d + 2) 22 (.agg (ofL of).toArray) (.agg (ofL of).toArray)).run Tryd.prog w = .ok true w := by
  have u3 := Tryd.underlying5
  have a3 : (isAgg 5).run Tryd.prog w = .ok false w := by kernel_rfl
  have z3 : (sizeOf 5).run Tryd.prog w = .ok 1 w := by kernel_rfl
  rw [Op.equalIn]
  simp only [Sem.run_bind, run_underlying Tryd.underlying22, Result.andThen_ok, z3]
  simp only [Std.Legacy.Range.forIn_eq_forIn_range', Std.Legacy.Range.size, Nat.sub_zero, Nat.add_sub_cancel, Nat.div_one]
  rw [forIn_yield]
  · rfl
  · intro i hi
    simp at hi
    have hp : (part 5 (ofL of).toArray (i * 1)).run Tryd.prog w = .ok (.int .u8 (of i)) w := by
      unfold part
      simp only [Sem.run_bind, a3, Result.andThen_ok, Nat.mul_one, List.getElem?_toArray, ofL_get of i hi]
      rfl
    simp only [Sem.run_bind, hp, Result.andThen_ok, run_equalIn_int w (d) 5 .u8 .u8 _ _ u3]
    simp
theorem partEq (of : Nat → Nat) (n : Int) (w : World) : (Op.equalIn 10000 24 (.agg (partC of n)) (.agg (partC of n))).run Tryd.prog w = .ok true w := by
  rw [show (10000 : Nat) = 9999 + 1 from rfl, run_equalIn_struct w 9999 24 _ _ (by kernel_rfl) (by kernel_rfl)]
  have hf : (Tryd.prog.fieldsOf 24).toList.map (fun f => (f.name, f.type, f.offset)) = [("Of", 22, 0), ("N", 3, 256)] := by kernel_rfl
  generalize (Tryd.prog.fieldsOf 24).toList = fs at hf ⊢
  obtain ⟨f1, fs1, rfl⟩ : ∃ f1 fs1, fs = f1 :: fs1 := by
    cases fs with
    | nil => simp at hf
    | cons a l => exact ⟨a, l, rfl⟩
  obtain ⟨f2, fs2, rfl⟩ : ∃ f2 fs2, fs1 = f2 :: fs2 := by
    cases fs1 with
    | nil => simp at hf
    | cons a l => exact ⟨a, l, rfl⟩
  obtain rfl : fs2 = [] := by
    cases fs2 with
    | nil => rfl
    | cons a l => simp at hf
  · have h := hf
    simp only [List.map_cons, List.map_nil, List.cons.injEq, Prod.mk.injEq, and_true] at h
    obtain ⟨⟨n1, t1, o1⟩, n2, t2, o2⟩ := h
    unfold Op.eqFields
    rw [n1, t1, o1, if_pos (by decide)]
    simp only [Sem.run_bind, partO, Result.andThen_ok]
    rw [show (9999 : Nat) = 9997 + 2 from rfl, eqOf]
    simp only [Result.andThen_ok, Bool.not_true, Bool.false_eq_true, if_false]
    unfold Op.eqFields
    rw [n2, t2, o2, if_pos (by decide)]
    simp only [Sem.run_bind, partN', Result.andThen_ok]
    rw [run_equalIn_int w 9998 3 .i64 .i64 _ _ Tryd.underlying3]
    simp only [Result.andThen_ok, BEq.rfl, Bool.not_true, Bool.false_eq_true, if_false]
    rfl
end Go.Proofs.YtmjjkamndlefmaaDoor
namespace Go.Proofs.YtmjjkamndlefmaaDoor
open Go.RowKit Sets Nf Cls Df DfR
namespace Df
structure NtI (w0 : World) (s db : Nat) (x : Dx) (d : Dm) (nv fv : Value) (vs : List Value) (R : List (List Int)) (F : List Bool) (W : World) : Prop where
  box : BoxD W s x d
  row : W.heap[db]? = some (.cells (dfC d.of d.n nv fv) 28 (0, 0))
  res : W.heap[s + 1]? = some (.cells (dfC (fun _ => 0) 0 nilS nilS) 28 (0, 0))
  own : OwnD s W R F nv fv vs
  low : s + 1 < db
  bel : Below s w0 W
section
variable {w0 W W' : World} {s db : Nat} {x : Dx} {d : Dm} {nv fv : Value} {vs : List Value} {R : List (List Int)} {F : List Bool}
theorem NtI.size (h : NtI w0 s db x d nv fv vs R F W) : s ≤ W.heap.size := Nat.le_of_lt h.box.lt
theorem NtI.stay (h : NtI w0 s db x d nv fv vs R F W) (hb : Below W.heap.size W W') : NtI w0 s db x d nv fv vs R F W' :=
  ⟨h.box.stay hb, (hb.block _ (Array.getElem?_eq_some_iff.1 h.row).1).trans h.row, (hb.block _ (Array.getElem?_eq_some_iff.1 h.res).1).trans h.res, h.own.stay hb, h.low, h.bel.trans (hb.mono h.size)⟩
theorem NtI.pushN (h : NtI w0 s db x d nv fv vs R F W) {W2 : World} {nv' v : Value} {row : List Int} (ho : W2.ownsRow s 41 1 nv' (R.length + 1) (vs ++ [v])) (hv : OwnN s W v row) (hb : Below s W W2) (ha : Ap W nv W2 nv') :
    NtI w0 s db x d nv' fv (vs ++ [v]) (R ++ [row]) F (W2.setCell ⟨db, 257, none⟩ nv') := by
  have hk : ∀ k o, W.heap[k]? = some o → (∀ cs : Array Value, o ≠ Obj.cells cs 41 (0, 0)) → W2.heap[k]? = some o := fun k o hk hn => by
    rw [ha.block k (Array.getElem?_eq_some_iff.1 hk).1 (fun e => ?_)]
    · exact hk
    · obtain ⟨cs, hc⟩ := own_type h.own.nx e
      rw [hk] at hc; injection hc with hc; exact hn cs hc
  have hr2 := hk _ _ h.row (fun cs e => by injection e with _ e; exact absurd e (by decide))
  have hset : ∀ k, k ≠ db → (W2.setCell ⟨db, 257, none⟩ nv').heap[k]? = W2.heap[k]? := fun k hk => Below.heap_setCell W2 ⟨db, 257, none⟩ nv' k hk
  have hlow := h.low
  have hk2 : ∀ k o, W.heap[k]? = some o → (∀ (cs : Array Value) (t : TypeId), o = Obj.cells cs t (0, 0) → t ≠ 41 ∧ t ≠ 28) → (W2.setCell ⟨db, 257, none⟩ nv').heap[k]? = some o := fun k o hko hn => by
    rw [hset k (fun e => ?_)]
    · exact hk k o hko (fun cs e => (hn cs _ e).1 rfl)
    · rw [e, h.row] at hko; injection hko with hko; exact (hn _ _ hko.symm).2 rfl
  refine ⟨⟨(hset s (by omega)).trans (hk _ _ h.box.row (fun cs e => by injection e with _ e; exact absurd e (by decide)))⟩, ?_, (hset (s + 1) (by omega)).trans (hk _ _ h.res (fun cs e => by injection e with _ e; exact absurd e (by decide))), ⟨?_, by simp [h.own.len], fun i hi => ?_, ?_⟩, h.low, (h.bel.trans hb).setCell (by show s ≤ db; omega) _⟩
  · rw [heap_setCell_same _ _ _ _ _ _ hr2, dfC_setN]
  · rw [List.length_append, List.length_singleton]
    refine own_kept ho fun g hg => hset g (fun e => ?_)
    obtain ⟨cs, hc⟩ := own_type ho hg
    rw [e, hr2] at hc; injection hc with hc; injection hc with _ hc; exact absurd hc (by decide)
  · rw [List.length_append, List.length_singleton] at hi
    have key : ∀ {v : Value} {l : List Int}, OwnN s W v l → OwnN s (W2.setCell ⟨db, 257, none⟩ nv') v l := fun {v l} h0 => own_kept h0 fun g hg => by
      obtain ⟨cs, hc⟩ := own_type h0 hg
      rw [hk2 _ _ hc (fun cs t e => by injection e with _ e; subst e; exact ⟨by decide, by decide⟩), hc]
    by_cases e : i < R.length
    · rw [List.getD_eq_getElem?_getD, List.getElem?_append_left (by rw [h.own.len]; exact e), ← List.getD_eq_getElem?_getD, List.getD_eq_getElem?_getD (l := R ++ [row]), List.getElem?_append_left e, ← List.getD_eq_getElem?_getD]
      exact key (h.own.each i e)
    · have e2 : i = R.length := by omega
      rw [List.getD_eq_getElem?_getD, List.getElem?_append_right (by rw [h.own.len]; omega), List.getD_eq_getElem?_getD (l := R ++ [row]), List.getElem?_append_right (by omega), h.own.len, e2, Nat.sub_self]
      exact key hv
  · refine own_kept h.own.fl fun g hg => ?_
    obtain ⟨cs, hc⟩ := own_type h.own.fl hg
    rw [hk2 _ _ hc (fun cs t e => by injection e with _ e; subst e; exact ⟨by decide, by decide⟩), hc]
theorem NtI.pushF (h : NtI w0 s db x d nv fv vs R F W) {W2 : World} {fv' : Value} {b : Bool} (ho : W2.ownsRow s 4 1 fv' (F.length + 1) (bL F ++ [.bool b])) (hb : Below s W W2) (ha : Ap W fv W2 fv') :
    NtI w0 s db x d nv fv' vs R (F ++ [b]) (W2.setCell ⟨db, 258, none⟩ fv') := by
  have hk : ∀ k o, W.heap[k]? = some o → (∀ cs : Array Value, o ≠ Obj.cells cs 4 (0, 0)) → W2.heap[k]? = some o := fun k o hk hn => by
    rw [ha.block k (Array.getElem?_eq_some_iff.1 hk).1 (fun e => ?_)]
    · exact hk
    · obtain ⟨cs, hc⟩ := own_type h.own.fl e
      rw [hk] at hc; injection hc with hc; exact hn cs hc
  have hr2 := hk _ _ h.row (fun cs e => by injection e with _ e; exact absurd e (by decide))
  have hset : ∀ k, k ≠ db → (W2.setCell ⟨db, 258, none⟩ fv').heap[k]? = W2.heap[k]? := fun k hk => Below.heap_setCell W2 ⟨db, 258, none⟩ fv' k hk
  have hlow := h.low
  have hk2 : ∀ k o, W.heap[k]? = some o → (∀ (cs : Array Value) (t : TypeId), o = Obj.cells cs t (0, 0) → t ≠ 4 ∧ t ≠ 28) → (W2.setCell ⟨db, 258, none⟩ fv').heap[k]? = some o := fun k o hko hn => by
    rw [hset k (fun e => ?_)]
    · exact hk k o hko (fun cs e => (hn cs _ e).1 rfl)
    · rw [e, h.row] at hko; injection hko with hko; exact (hn _ _ hko.symm).2 rfl
  refine ⟨⟨(hset s (by omega)).trans (hk _ _ h.box.row (fun cs e => by injection e with _ e; exact absurd e (by decide)))⟩, ?_, (hset (s + 1) (by omega)).trans (hk _ _ h.res (fun cs e => by injection e with _ e; exact absurd e (by decide))), ⟨?_, h.own.len, fun i hi => ?_, ?_⟩, h.low, (h.bel.trans hb).setCell (by show s ≤ db; omega) _⟩
  · rw [heap_setCell_same _ _ _ _ _ _ hr2, dfC_setF]
  · refine own_kept h.own.nx fun g hg => ?_
    obtain ⟨cs, hc⟩ := own_type h.own.nx hg
    rw [hk2 _ _ hc (fun cs t e => by injection e with _ e; subst e; exact ⟨by decide, by decide⟩), hc]
  · refine own_kept (h.own.each i hi) fun g hg => ?_
    obtain ⟨cs, hc⟩ := own_type (h.own.each i hi) hg
    rw [hk2 _ _ hc (fun cs t e => by injection e with _ e; subst e; exact ⟨by decide, by decide⟩), hc]
  · rw [List.length_append, List.length_singleton, show bL (F ++ [b]) = bL F ++ [.bool b] from by unfold bL; rw [List.map_append]; rfl]
    refine own_kept ho fun g hg => hset g (fun e => ?_)
    obtain ⟨cs, hc⟩ := own_type ho hg
    rw [e, hr2] at hc; injection hc with hc; injection hc with _ hc; exact absurd hc (by decide)
end
def notD (d : Dm) : Dm := ⟨d.of, d.n, d.R, d.F.map (!·)⟩
theorem take_snocL {α : Type} (l : List α) (j : Nat) (dd : α) (h : j < l.length) : l.take (j + 1) = l.take j ++ [l.getD j dd] := by
  rw [List.take_succ_eq_append_getElem h, List.getD_eq_getElem?_getD, List.getElem?_eq_getElem h]; rfl
set_option maxHeartbeats 12800000 in
set_option maxRecDepth 100000 in
theorem dnot_any (x : Dx) (d : Dm) (w : World) (h : DAt w x d) (hf : DFine d) (hr : DRt d) :
    Calls Tryd.prog 25 #[.agg (dvC x d)] w fun e w' => ∃ z, e = .returned (.tuple #[.agg (dvC z (notD d)), .int .i64 0]) ∧ OwnDm w.heap.size w' z (notD d) ∧ Below w.heap.size w w' := by
  have HM0 := Lib.hid h
  have HF := Lib.hid hf
  have HRT := Lib.hid hr
  have HRI := Lib.hid ((dright_iff d).2 hr)
  have hz := zeroD
  clear h hf hr
  go_enter Tryd.func25, Tryd.ntmps25
  go_upto_region 1 with fail
  obtain ⟨s, hs⟩ : ∃ s, Hid (w.heap.size = s) := ⟨_, Lib.hid rfl⟩
  have hal := (Below.refl _ (w.alloc (.cells (dvC x d) 28))).alloc (Nat.le_refl _) (.cells (dfC (fun _ => 0) 0 nilS nilS) 28)
  have HX1 : Hid (BoxD ((w.alloc (.cells (dvC x d) 28)).alloc (.cells (dfC (fun _ => 0) 0 nilS nilS) 28)) s x d) := Lib.hid (by rw [← hs.out]; exact (BoxD.new w x d).stay hal)
  have HR1 : Hid (((w.alloc (.cells (dvC x d) 28)).alloc (.cells (dfC (fun _ => 0) 0 nilS nilS) 28)).heap[s + 1]? = some (.cells (dfC (fun _ => 0) 0 nilS nilS) 28 (0, 0))) := Lib.hid (by rw [← hs.out]; exact new1 _ _ (by simp))
  have HB1 : Hid (Below s w ((w.alloc (.cells (dvC x d) 28)).alloc (.cells (dfC (fun _ => 0) 0 nilS nilS) 28))) := Lib.hid (by rw [← hs.out]; exact ((Below.refl _ _).alloc (Nat.le_refl _) _).alloc (by simp) _)
  rw [hs.out]
  clear hal
  generalize (w.alloc (.cells (dvC x d) 28)).alloc (.cells (dfC (fun _ => 0) 0 nilS nilS) 28) = w1 at *
  have HRD := Lib.hid (dright_any x d w1 (HM0.out.kept (hs.out ▸ HB1.out)) HF.out)
  rw [HRI.out] at HRD
  go_upto_region 3 with (first
    | (refine wpList_load_df rfl _ rfl s x d rfl HX1.out ?_)
    | (go_at_call 14; refine HRD.out.mono ?_; rintro e w2 ⟨rfl, hb2⟩; have HB2 := Lib.hid (HB1.out.trans (hb2.mono (Nat.le_of_lt HX1.out.lt))); have HX2 := Lib.hid (HX1.out.stay hb2); have HR2 : Hid (w2.heap[s + 1]? = some (.cells (dfC (fun _ => 0) 0 nilS nilS) 28 (0, 0))) := Lib.hid ((hb2.block _ (Array.getElem?_eq_some_iff.1 HR1.out).1).trans HR1.out); clear hb2))
  clear HX1 HR1 HB1 HRD
  clear w1
  go_upto_region 4 with (first
    | (refine wpList_load_mid rfl 24 _ rfl s 0 rfl (partC d.of d.n).toList _ (partC_mid _ _ _ _ _ _ HX2.out.row) Tryd.underlying24 rfl (sizePL _ _) ?_; rw [Array.toArray_toList])
    | (refine wpList_build_df rfl (.tmp 12) rfl d.of d.n rfl ?_)
    | (refine wpList_lay_df rfl (.tmp 4) (.tmp 13) rfl d.of d.n rfl rfl ?_))
  rw [show ∀ a : Act, a.put none undef = a from fun _ => rfl]
  have hal := (Below.refl w2.heap.size w2).alloc (Nat.le_refl _) (.cells (dfC d.of d.n nilS nilS) 28)
  obtain ⟨db, hdb⟩ : ∃ db, Hid (w2.heap.size = db) := ⟨_, Lib.hid rfl⟩
  have HNT : Hid (NtI w s db x d nilS nilS [] (d.R.take 0) ((d.F.take 0).map (!·)) (w2.alloc (.cells (dfC d.of d.n nilS nilS) 28))) := Lib.hid ⟨HX2.out.stay hal, by rw [← hdb.out]; exact heap_alloc_new w2 _, keep1 HR2.out _, OwnD.nil _ _, by have h1 := (Array.getElem?_eq_some_iff.1 HR2.out).1; have h2 := hdb.out; omega, HB2.out.trans (hal.mono (Nat.le_of_lt HX2.out.lt))⟩
  rw [hdb.out]
  clear hal HX2 HR2 HB2
  generalize w2.alloc (.cells (dfC d.of d.n nilS nilS) 28) = w3 at *
  clear hdb w2
  have c257 := HNT.out.box.c257
  go_upto_region 5 with fail
  clear c257
  go_loopw [17] (fun i wr => ∃ (j : Nat) (nv fv : Value) (vs : List Value), i = .int .i64 j ∧ j ≤ d.R.length ∧ Hid (NtI w s db x d nv fv vs (d.R.take j) ((d.F.take j).map (!·)) wr)) (fun i _ => ((d.R.length : Int) - intOf i).toNat)
  case atStart => exact ⟨0, _, _, _, rfl, Nat.zero_le _, HNT⟩
  case round =>
    clear HNT
    obtain ⟨j, nv, fv, vs, rfl, hj, HNT⟩ := hrel
    generalize hwr : wr = w4 at *
    clear hwr wr w3
    by_cases hlt : j < d.R.length
    · have hdd : decide ((j : Int) < (d.R.length : Int)) = true := decide_eq_true (by omega)
      have hd2 : decide (j < d.R.length) = true := decide_eq_true hlt
      have HJ := Lib.hid hlt
      have hjl : (j : Int) < (d.R.length : Int) := by omega
      have hjf : (j : Int) < (d.F.length : Int) := by have := HRT.out.fl; omega
      have HW1 : Hid (wrap64 ((j : Int) + 1) = ((j + 1 : Nat) : Int)) := Lib.hid (nat_wrap (by have := HF.out.many; omega))
      obtain ⟨b, o, y, cy, hxa, hcj, hn⟩ := (HM0.out.kept (hs.out ▸ HNT.out.bel)).nx j hlt
      rw [hxa]
      have HXA := Lib.hid hxa
      clear hxa
      have HEA := Lib.hid (HF.out.each _ (getD_mem (d := []) hlt))
      have HTR := Lib.hid (take_snocL d.R j [] hlt)
      have HTF : Hid ((d.F.take (j + 1)).map (!·) = (d.F.take j).map (!·) ++ [!d.F.getD j false]) := Lib.hid (by
        rw [take_snocL d.F j false (by rw [HRT.out.fl]; exact hlt), List.map_append]; rfl)
      have HRL : Hid ((d.R.take j).length = j) := Lib.hid (by rw [List.length_take]; omega)
      have HFL : Hid (((d.F.take j).map (!·)).length = j) := Lib.hid (by rw [List.length_map, List.length_take, HRT.out.fl]; omega)
      have HCL := Lib.hid (fun w5 (hb : Below w4.heap.size w4 w5) => cloneN_any y cy (d.R.getD j []) w5 (hn.kept hb) HEA.out.1)
      have HJB : Hid (j ≤ 100000) := Lib.hid (by have := HF.out.many; omega)
      clear hn hlt
      generalize d.R.getD j [] = l at *
      go_upto_region 7 with fail
      clear hcj
      have HC0 : Hid (w4.drew.cell? ⟨db, 257, none⟩ = some nv) := Lib.hid (by
        show w4.cell? _ = _
        rw [cell_of_row w4 db 257 _ _ _ HNT.out.row]; exact dfC_nv _ _ _ _)
      refine region_mix [(false, 0), (false, 1), (false, 2), (true, 3), (true, 4), (true, 5), (false, 6)] (fun w' => w'.cell? ⟨db, 257, none⟩ = some nv) (by kernel_rfl) (by kernel_rfl) HC0.out ?_
      simp only [planOps, List.map_cons, List.map_nil, List.getD_cons_zero, List.getD_cons_succ, List.length_cons, List.length_nil, List.drop_succ_cons, List.drop_zero]
      refine mix_seg (seg := [_, _, _]) rfl HC0.out ?_
      intro ι hι F2 hF
      have f1 := fun n => (hF n)
      iterate 3 (go_big_quiet_step (fail))
      refine wpQuiet_nil ?_
      clear f1 hF hι F2
      have HBD : Hid (Below w4.heap.size w4 w4.drew) := Lib.hid ((Below.refl _ _).drew)
      refine mix_eff (fun K hK => ?_)
      go_wp2_with (go_at_call 47; refine (HCL.out _ HBD.out).mono ?_; rintro e w5 ⟨v5, rfl, ho5, hb5⟩; obtain ⟨a5, c5, rfl, -⟩ := own_slice ho5; have HO5 : Hid (OwnN s w5 (.slice a5 l.length c5) l) := Lib.hid (own_mono ho5 (Nat.le_trans HNT.out.size HBD.out.size)); have HB5 := Lib.hid (HBD.out.trans hb5); clear ho5 hb5)
      have HNT5 := Lib.hid (HNT.out.stay HB5.out)
      have HC5 : Hid (w5.cell? ⟨db, 257, none⟩ = some nv) := Lib.hid (by rw [cell_of_row w5 db 257 _ _ _ HNT5.out.row]; exact dfC_nv _ _ _ _)
      refine mix_on hK HC5.out ?_
      clear hK K HC0 HNT HBD HCL HB5
      refine mix_eff (fun K hK => ?_)
      go_wp2_with fail
      refine mix_on hK (by rw [World.cell?_alloc_past _ _ _ (World.block_lt_of_cell? _ _ HC5.out)]; exact HC5.out) ?_
      clear hK K
      have HSW : Hid (s ≤ w5.heap.size) := Lib.hid HNT5.out.size
      refine mix_eff (fun K hK => ?_)
      refine wpList_push 25 41 nilS 1 24 Tryd.underlying25 infoSl rfl (by decide) rfl (.tmp 23) (.tmp 26) rfl s nv (d.R.take j).length vs rfl HNT5.out.own.nx [.slice a5 l.length c5] _ rfl rfl (fun u hu => by rw [List.mem_singleton] at hu; rw [hu]; rfl) rfl (by rw [HRL.out]; exact HJB.out) (by decide) HSW.out ?_
      intro nv2 w6 ho6 hb6 ha6
      obtain ⟨a9, c9, hnv2, -⟩ := own_slice ho6
      rw [HRL.out] at hnv2
      have HNV2 := Lib.hid hnv2
      clear hnv2
      have hr6 := (ha6.block db (Array.getElem?_eq_some_iff.1 HNT5.out.row).1 (fun e => by
        obtain ⟨cs, hc⟩ := own_type HNT5.out.own.nx e
        rw [HNT5.out.row] at hc; injection hc with hc; injection hc with _ hc; exact absurd hc (by decide))).trans HNT5.out.row
      have HC6 : Hid (w6.cell? ⟨db, 257, none⟩ = some nv) := Lib.hid (by rw [cell_of_row w6 db 257 _ _ _ hr6]; exact dfC_nv _ _ _ _)
      have HZ6 := Lib.hid (frozen_of_row w6 db 257 _ _ hr6)
      have HNT7 := Lib.hid (HNT5.out.pushN ho6 HO5.out hb6 ha6)
      clear hr6 ho6 hb6 ha6 HNT5 HC5
      refine wpList_nil ?_
      refine mix_on hK HC6.out ?_
      clear hK K
      refine mix_seg (seg := [_]) (rest := []) rfl HC6.out ?_
      intro ι hι F2 hF
      simp only [Act.put, List.setIfInBounds_toArray, List.set_cons_zero, List.set_cons_succ]
      iterate 1 (go_big_quiet_step (fail))
      refine wpQuiet_nil ?_
      clear hF hι F2
      show wpList _ _ _ _ _ _
      have c15 := HC6.out
      have z15 := HZ6.out
      rw [HNV2.out] at HNT7 ⊢
      go_wp2_with fail
      refine NoPanic.normal ?_
      clear c15 z15 HC6 HZ6 HNV2
      rw [← HTR.out] at HNT7
      generalize w6.setCell ⟨db, 257, none⟩ (.slice a9 (j + 1) c9) = w7 at *
      have HDF := Lib.hid (HM0.out.kept (hs.out ▸ HNT7.out.bel))
      obtain ⟨b2, o2, hxb, hcb⟩ := HDF.out.fl j (by rw [HRT.out.fl]; exact HJ.out)
      have HCB := Lib.hid hcb
      have HB2L : Hid (b2 < s) := Lib.hid (by
        obtain ⟨b3, o3, h3, h4⟩ := HM0.out.fl j (by rw [HRT.out.fl]; exact HJ.out)
        rw [hxb] at h3
        injection h3 with h3
        injection h3 with h3 _
        rw [h3, ← hs.out]
        exact World.block_lt_of_cell? _ _ h4)
      have HXB := Lib.hid hxb
      have c258 := HNT7.out.box.c258
      rw [hxb] at c258
      clear hcb hxb
      generalize d.F.getD j false = bt at *
      go_upto_region 8 with fail
      have HC0 : Hid (w7.drew.cell? ⟨db, 258, none⟩ = some fv ∧ w7.drew.cell? ⟨s, 258, none⟩ = some (.slice (some ⟨b2, o2, none⟩) d.F.length x.bc) ∧ w7.drew.cell? ⟨b2, o2 + j, none⟩ = some (.bool bt)) := Lib.hid ⟨by
        show w7.cell? _ = _
        rw [cell_of_row w7 db 258 _ _ _ HNT7.out.row]; exact dfC_fv _ _ _ _, c258, HCB.out⟩
      clear c258
      refine region_mix [(false, 0), (false, 1), (false, 2), (false, 3), (false, 4), (false, 5), (false, 6), (false, 7), (true, 8), (true, 9), (false, 10)] (fun w' => w'.cell? ⟨db, 258, none⟩ = some fv ∧ w'.cell? ⟨s, 258, none⟩ = some (.slice (some ⟨b2, o2, none⟩) d.F.length x.bc) ∧ w'.cell? ⟨b2, o2 + j, none⟩ = some (.bool bt)) (by kernel_rfl) (by kernel_rfl) HC0.out ?_
      simp only [planOps, List.map_cons, List.map_nil, List.getD_cons_zero, List.getD_cons_succ, List.length_cons, List.length_nil, List.drop_succ_cons, List.drop_zero]
      refine mix_seg (seg := [_, _, _, _, _, _, _, _]) rfl HC0.out ?_
      intro ι hι F2 hF
      have f1 := fun n => (hF n).1
      have f2 := fun n => (hF n).2.1
      have f3 := fun n => (hF n).2.2
      iterate 8 (go_big_quiet_step (fail))
      refine wpQuiet_nil ?_
      clear f1 f2 f3 hF hι F2
      have HBD : Hid (Below w7.heap.size w7 w7.drew) := Lib.hid ((Below.refl _ _).drew)
      have HNT8 := Lib.hid (HNT7.out.stay HBD.out)
      clear HNT7 HBD
      generalize w7.drew = w8 at *
      refine mix_eff (fun K hK => ?_)
      go_wp2_with fail
      have hp1 := HC0.out.1
      have hp2 := HC0.out.2.1
      have hp3 := HC0.out.2.2
      refine mix_on hK ⟨by rw [World.cell?_alloc_past _ _ _ (World.block_lt_of_cell? _ _ hp1)]; exact hp1, by rw [World.cell?_alloc_past _ _ _ (World.block_lt_of_cell? _ _ hp2)]; exact hp2, by rw [World.cell?_alloc_past _ _ _ (World.block_lt_of_cell? _ _ hp3)]; exact hp3⟩ ?_
      clear hK K hp1 hp2
      have HSW : Hid (s ≤ w8.heap.size) := Lib.hid HNT8.out.size
      refine mix_eff (fun K hK => ?_)
      refine wpList_push 26 4 (.bool false) 1 1 Tryd.underlying26 infoBl rfl (by decide) rfl (.tmp 30) (.tmp 37) rfl s fv ((d.F.take j).map (!·)).length (bL ((d.F.take j).map (!·))) rfl HNT8.out.own.fl [.bool (!bt)] _ rfl rfl (fun u hu => by rw [List.mem_singleton] at hu; rw [hu]; rfl) rfl (by rw [HFL.out]; exact HJB.out) (by decide) HSW.out ?_
      intro fv2 w9 ho9 hb9 ha9
      obtain ⟨a10, c10, hfv2, -⟩ := own_slice ho9
      rw [HFL.out] at hfv2
      have HFV2 := Lib.hid hfv2
      clear hfv2
      have hnd : ∀ {k : Nat} {cs : Array Value}, w8.heap[k]? = some (.cells cs 28 (0, 0)) → fv.ownBlock ≠ some k := fun {k cs} hk e => by
        obtain ⟨cs', hc⟩ := own_type HNT8.out.own.fl e
        rw [hk] at hc; injection hc with hc; injection hc with _ hc; exact absurd hc (by decide)
      have hr9 := (ha9.block db (Array.getElem?_eq_some_iff.1 HNT8.out.row).1 (hnd HNT8.out.row)).trans HNT8.out.row
      have hx9 := (ha9.block s HNT8.out.box.lt (hnd HNT8.out.box.row)).trans HNT8.out.box.row
      have HC9 : Hid (w9.cell? ⟨db, 258, none⟩ = some fv ∧ w9.cell? ⟨s, 258, none⟩ = some (.slice (some ⟨b2, o2, none⟩) d.F.length x.bc) ∧ w9.cell? ⟨b2, o2 + j, none⟩ = some (.bool bt)) := Lib.hid ⟨by rw [cell_of_row w9 db 258 _ _ _ hr9]; exact dfC_fv _ _ _ _, by rw [cell_of_row w9 s 258 _ _ _ hx9, ← HXB.out]; exact dfC_fv _ _ _ _, (hb9.cell (HB2L.out)).trans hp3⟩
      have HZ9 := Lib.hid (frozen_of_row w9 db 258 _ _ hr9)
      have HNT9 := Lib.hid (HNT8.out.pushF ho9 hb9 ha9)
      clear hr9 hx9 hnd ho9 hb9 ha9 HNT8 hp3
      refine wpList_nil ?_
      refine mix_on hK HC9.out ?_
      clear hK K
      refine mix_seg (seg := [_]) (rest := []) rfl HC9.out ?_
      intro ι hι F2 hF
      simp only [Act.put, List.setIfInBounds_toArray, List.set_cons_zero, List.set_cons_succ]
      iterate 1 (go_big_quiet_step (fail))
      refine wpQuiet_nil ?_
      clear hF hι F2
      show wpList _ _ _ _ _ _
      have c15 := HC9.out.1
      have z15 := HZ9.out
      rw [HFV2.out] at HNT9 ⊢
      rw [← HTF.out] at HNT9
      go_wp2_with fail
      refine NoPanic.normal ?_
      clear c15 z15
      go_wp2_with fail
      go_roundw
      case rel => exact ⟨j + 1, _, _, _, by rw [HW1.out], HJ.out, HNT9⟩
      case measure => rw [HW1.out]; exact meas9 HJ.out
    · have hdd : decide ((j : Int) < (d.R.length : Int)) = false := decide_eq_false (by omega)
      have hd2 : decide (j < d.R.length) = false := decide_eq_false hlt
      have HE : Hid (d.R.take j = d.R ∧ (d.F.take j).map (!·) = (notD d).F) := Lib.hid ⟨List.take_of_length_le (by omega), by rw [List.take_of_length_le (by rw [HRT.out.fl]; omega)]; rfl⟩
      rw [HE.out.1, HE.out.2] at HNT
      obtain ⟨a2, k2, hnv, -⟩ := own_slice HNT.out.own.nx
      obtain ⟨a3, k3, hfv, -⟩ := own_slice HNT.out.own.fl
      have HNV := Lib.hid hnv
      have HFV := Lib.hid hfv
      obtain ⟨z, hzz⟩ : ∃ z : Dx, Hid (z = ⟨a2, k2, a3, k3⟩) := ⟨_, Lib.hid rfl⟩
      have HDV : Hid (dfC d.of d.n nv fv = dvC z (notD d)) := Lib.hid (by rw [hzz.out, hnv, hfv]; rfl)
      have HBX : Hid (BoxD w4 db z (notD d)) := Lib.hid ⟨by rw [← HDV.out]; exact HNT.out.row⟩
      have HRS := Lib.hid HNT.out.res
      clear hnv hfv hlt
      go_wp2_with (first
        | (refine wpList_load_df rfl _ rfl db z (notD d) rfl HBX.out ?_)
        | (refine wpList_store_row rfl 28 (.tmp 2) (.tmp 41) rfl (s + 1) (dvC z (notD d)) rfl rfl 28 _ HRS.out (sizeDf _ _ _ _) (by unfold dvC; rw [dfC_size, dfC_size]) (oneDf _ _ _ _ _ _ _ _) ?_))
      refine bodyPost_ret (v := .tuple #[.agg (dvC z (notD d)), .int .i64 0]) (res_cell_tmp (p := 2) (q := 3) Tryd.results25 _ _ (s + 1) 28 _ (0, 0) _ (.int .i64 0) rfl rfl (setRow_heap w4 _ _ _ _ _ HRS.out) Tryd.underlying28 rfl (sizeDf _ _ _ _)) rfl ⟨z, rfl, ?_, ?_⟩
      · rw [hs.out]
        have ho := HNT.out.own.kept (w' := w4.setRow (s + 1) (dvC z (notD d))) fun k cs t hc ht => setRow_other _ _ _ _ (fun e => by
          rw [e, HRS.out] at hc; injection hc with hc; injection hc with _ hc; subst hc
          rcases ht with h | h | h <;> exact absurd h (by decide))
        rw [HNV.out, HFV.out] at ho
        refine ⟨vs, ?_⟩
        rw [hzz.out]
        rw [hzz.out] at ho
        exact ho
      · rw [hs.out]
        exact But.below HNT.out.bel (But.setRow _ _ _) (by omega) HNT.out.size
end Df
end Go.Proofs.YtmjjkamndlefmaaDoor
