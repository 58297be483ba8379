/- FstMarks: the law's walk. -/
import Derived.Test.YtghbgfkkdknmnaaDoorPqC9
import Derived.Test.YtghbgfkkdknmnaaDoorPqC7
import Derived.Test.YtghbgfkkdknmnaaDoorPq43
namespace Go.Proofs.YtghbgfkkdknmnaaDoor
open Go.RowKit Sets Nf Fs
namespace Ft
theorem tab_drew {w : World} (h : Tab w) : Tab w.drew := fun i hi => h i hi
theorem tells_one {m : Mc} {ws L L' : List Nat} (h1 : takesM m ws = false → L = []) (h2 : takesM m ws = true → ∀ R, Lr m none ws R → L = mkR m R) (h1' : takesM m ws = false → L' = []) (h2' : takesM m ws = true → ∀ R, Lr m none ws R → L' = mkR m R) : L = L' := by
  cases ht : takesM m ws with
  | false => rw [h1 ht, h1' ht]
  | true =>
    obtain ⟨l0, hl0⟩ := tk_runs.1 ((takes_iff m _).1 ht).2
    obtain ⟨R, hR⟩ := lr_ex hl0
    rw [h2 ht R hR, h2' ht R hR]
theorem tells_len {m : Mc} {ws L : List Nat} (h1 : takesM m ws = false → L = []) (h2 : takesM m ws = true → ∀ R, Lr m none ws R → L = mkR m R) : L.length ≤ ws.length := by
  cases ht : takesM m ws with
  | false => rw [h1 ht]; exact Nat.zero_le _
  | true =>
    obtain ⟨l0, hl0⟩ := tk_runs.1 ((takes_iff m _).1 ht).2
    obtain ⟨R, hR⟩ := lr_ex hl0
    rw [h2 ht R hR, ← hR.len]
    unfold mkR
    rw [List.length_map]
    exact Nat.le_refl _
theorem rmarks_any (x : Ma) (m : Mc) (s : ByteArray) (w : World) (h : MAt w x m) (hf : Fine m) (hs : s.size ≤ 1000) :
    Calls Tryd.prog 12 #[.agg (mc x m), .string s] w (MEnd m (Nf.bs s) w) := by
  refine (marks14_any x m s w h hf hs).mono ?_
  rintro e w' ⟨⟨v, rfl, h1, h2⟩, hb⟩
  cases ht : takesM m (Nf.bs s) with
  | false =>
    exact ⟨v, [], by rw [ht], by rw [h1 ht]; exact bytes_nil _, fun _ => rfl, fun h => (by rw [ht] at h; cases h), hb⟩
  | true =>
    have hT := (takes_iff m _).1 ht
    obtain ⟨l0, hl0⟩ := tk_runs.1 hT.2
    obtain ⟨R, hR⟩ := lr_ex hl0
    have ho := h2 ht R hR
    have hlen : (mkR m R).length = R.length := List.length_map _
    refine ⟨v, mkR m R, by rw [ht], owns_bytes (by rw [hlen]; exact ho) (fun y hy => ?_) (by rw [hlen, hR.len, Nf.bs_len]; unfold maxLen; omega), fun h => (by rw [ht] at h; cases h), fun _ R2 hR2 => by rw [Lr.one hR hR2], hb⟩
    obtain ⟨k, -, rfl⟩ := List.mem_map.1 hy
    exact tg_lt hT.1 k
theorem rrun14_any (x : Ma) (m : Mc) (s : ByteArray) (w : World) (h : MAt w x m) (hf : Fine m) (hs : s.size ≤ 1000) :
    Calls Tryd.prog 15 #[.agg (mc x m), .string s] w (REnd m (Nf.bs s) w) := by
  refine (run14_any x m s w h hf hs).mono ?_
  rintro e w' ⟨⟨L, hS, pS, rfl, h1, h2, h3, h4⟩, hb⟩
  exact ⟨L, hS, pS, rfl, h1, h2, h3, h4, hb⟩
theorem quiet_eql_pa {C : World → Prop} {a : Act} {K : Act → Prop} {o : Oper} (t : TypeId) (x y : Operand) (ho : o.op = .binOp .eql 35 x y t)
    (u : Bool) (h p : ByteArray) (v : Bool) (h' p' : ByteArray) (hx : a.eval x = .agg (pcV u h p)) (hy : a.eval y = .agg (pcV v h' p')) (hk : K (a.put o.dst (.bool (paB u h p v h' p')))) : o.quiet Tryd.prog a C K := by
  refine ⟨.bool (paB u h p v h' p'), fun w hw => ?_, hk⟩
  unfold Oper.quietAt execOp
  have he := eqPa u v h p h' p' w
  rw [bs_beq, bs_beq] at he
  unfold Op.equal Op.maxDepth at he
  simp only [ho, hx, hy, Sem.run_bind, run_eqGuard_agg w .eql 35 x y _ _ guardPa, run_eql_struct, he, Result.andThen_ok, Sem.run_pure]
  exact ⟨rfl, rfl⟩
set_option maxHeartbeats 6400000 in
set_option maxRecDepth 100000 in
theorem fmar_any (x : Ma) (m : Mc) (s : ByteArray) (w : World) (h : UnM w x m) (hT : Tab w) :
    Calls Tryd.prog 3 #[.agg (mc x m), .string s] w fun e w' => e = .returned (.bool true) ∧ Below w.heap.size w w' := by
  have HG : Hid (0 < w.heap.size) := Lib.hid (World.block_lt_of_cell? _ _ (hT 0 (by decide)))
  have HU := Lib.hid h
  have HT := Lib.hid hT
  clear h hT
  go_enter Tryd.func3, Tryd.ntmps3
  go_upto_region 1 with fail
  have HX := Lib.hid (BoxM.new w x m)
  have HB := Lib.hid ((Below.refl w.heap.size w).alloc (Nat.le_refl _) (.cells (mc x m) 27))
  generalize w.alloc (.cells (mc x m) 27) = w1 at *
  have HM1 := Lib.hid (HU.out.1.kept HB.out)
  have HR := Lib.hid (ngreat_any x m w1 HM1.out.fo)
  have HAW := Lib.hid (fun w' (h : Below w.heap.size w w') => awake14_any w' (HT.out.below h HG.out))
  have HMW := Lib.hid (fun w' (h : Below w.heap.size w w') => HU.out.1.kept (w' := w') h)
  have HTW := Lib.hid (fun w' (h : Below w.heap.size w w') => HT.out.below (w' := w') h HG.out)
  generalize hBq : w.heap.size = B at *
  have HBq := Lib.hid hBq
  clear hBq
  have HBX := Lib.hid HX.out.lt
  have HSZ : Hid (∀ w', Below B w w' → B ≤ w'.heap.size) := Lib.hid (fun w' h => by rw [← HBq.out]; exact h.size)
  cases hgr : greatM m with
  | true =>
    rw [hgr] at HR
    clear hgr
    go_wp2_with (first
      | (refine wpList_load_mach rfl (.tmp 2) rfl B x m rfl HX.out ?_)
      | (go_at_call 9; refine HR.out.mono ?_; rintro e w2 ⟨rfl, hb2⟩; have HB2 := Lib.hid (HB.out.trans (hb2.mono (Nat.le_of_lt HBX.out))); clear hb2; have HA2 := Lib.hid (HAW.out w2 HB2.out))
      | (go_at_call 10; refine HA2.out.mono ?_; rintro e w3 ⟨rfl, hb3⟩; have HB3 := Lib.hid (HB2.out.trans (hb3.mono (HSZ.out _ HB2.out))); clear hb3))
    go_ret
    exact ⟨rfl, by rw [HBq.out]; exact HB3.out⟩
  | false =>
    rw [hgr] at HR
    have HF := Lib.hid (HU.out.2 hgr)
    clear hgr
    by_cases hs : 40 < s.size
    · have hd : decide ((40 : Int) < (s.size : Int)) = true := decide_eq_true (by omega)
      have hd' : decide (40 < s.size) = true := decide_eq_true hs
      clear hs
      go_wp2_with (first
        | (refine wpList_load_mach rfl (.tmp 2) rfl B x m rfl HX.out ?_)
        | (go_at_call 9; refine HR.out.mono ?_; rintro e w2 ⟨rfl, hb2⟩; have HB2 := Lib.hid (HB.out.trans (hb2.mono (Nat.le_of_lt HBX.out))); clear hb2; have HA2 := Lib.hid (HAW.out w2 HB2.out))
        | (go_at_call 10; refine HA2.out.mono ?_; rintro e w3 ⟨rfl, hb3⟩; have HB3 := Lib.hid (HB2.out.trans (hb3.mono (HSZ.out _ HB2.out))); clear hb3))
      go_ret
      exact ⟨rfl, by rw [HBq.out]; exact HB3.out⟩
    · have hd : decide ((40 : Int) < (s.size : Int)) = false := decide_eq_false (by omega)
      have hd' : decide (40 < s.size) = false := decide_eq_false hs
      have HS : Hid (s.size ≤ 1000) := Lib.hid (by omega)
      clear hs
      go_upto_region 3 with (first
        | (refine wpList_load_mach rfl (.tmp 2) rfl B x m rfl HX.out ?_)
        | (go_at_call 9; refine HR.out.mono ?_; rintro e w2 ⟨rfl, hb2⟩; have HX2 := Lib.hid (HX.out.kept hb2 HBX.out); have HB2 := Lib.hid (HB.out.trans (hb2.mono (Nat.le_of_lt HBX.out))); clear hb2))
      have HA := Lib.hid (fmarks_any x m s w2 (HMW.out _ HB2.out) HF.out HS.out (HTW.out _ HB2.out))
      unfold MEnd at HA
      go_upto_region 4 with (first
        | (refine wpList_load_mach rfl (.tmp 2) rfl B x m rfl HX2.out ?_)
        | (go_at_call 11; refine HA.out.mono ?_; rintro e w3 ⟨v, L, rfl, hy, h1, h2, hb3⟩; have HY := Lib.hid hy; have H1 := Lib.hid h1; have H2 := Lib.hid h2; have HB3 := Lib.hid (HB2.out.trans (hb3.mono (HSZ.out _ HB2.out))); have HX3 := Lib.hid (bxStay HX2.out hb3); clear hy h1 h2 hb3))
      have HA' := Lib.hid (rmarks_any x m s w3 (HMW.out _ HB3.out) HF.out HS.out)
      unfold MEnd at HA'
      go_upto_region 5 with (first
        | (refine wpList_load_mach rfl (.tmp 2) rfl B x m rfl HX3.out ?_)
        | (go_at_call 12; refine HA'.out.mono ?_; rintro e w4 ⟨v', L', rfl, hy, h1, h2, hb4⟩; have HY' := Lib.hid hy; have H1' := Lib.hid h1; have H2' := Lib.hid h2; have HB4 := Lib.hid (HB3.out.trans (hb4.mono (HSZ.out _ HB3.out))); have HX4 := Lib.hid (bxStay HX3.out hb4); have HY4 := Lib.hid (HY.out.kept hb4); clear hy h1 h2 hb4))
      have HEL : Hid (L = L') := Lib.hid (tells_one H1.out H2.out H1'.out H2'.out)
      have HLL : Hid (L.length ≤ 1000) := Lib.hid (by have h1 := tells_len H1.out H2.out; rw [Nf.bs_len] at h1; have := HS.out; omega)
      rw [← HEL.out] at HY'
      clear H1' H2' HEL HY HA HA' HX2 HX3 HB3 HB2 HR H1 H2
      have hbd : Below w4.heap.size w4 w4.drew := (Below.refl _ _).drew
      have HW : Hid (∀ W, Below w4.heap.size w4 W → Below B w W) := Lib.hid (fun W hW => HB4.out.trans (hW.mono (HSZ.out _ HB4.out)))
      have HBX4 := Lib.hid HX4.out.lt
      refine region_mix [(false, 0), (false, 1), (true, 2), (false, 3), (false, 4), (false, 5), (false, 6), (false, 7), (false, 8), (false, 9), (false, 10), (false, 12), (false, 13), (true, 11), (true, 14), (false, 15), (false, 16), (false, 17), (true, 18), (false, 19)] (fun w' => Below w4.heap.size w4 w') (by kernel_rfl) (by kernel_rfl) hbd ?_
      simp only [planOps, List.map_cons, List.map_nil, List.getD_cons_zero, List.getD_cons_succ, List.length_cons, List.length_nil, List.drop_succ_cons, List.drop_zero]
      refine mix_seg (seg := [_, _]) rfl hbd ?_
      intro ι hι F hF
      iterate 2 (go_big_quiet_step (fail))
      refine wpQuiet_nil ?_
      clear hF hι F
      have HMK := Lib.hid (marked14_any v v' L L w4.drew (HY4.out.kept hbd) (HY'.out.kept hbd) HLL.out)
      rw [decide_eq_true (rfl : L = L)] at HMK
      refine mix_eff (fun K hK => ?_)
      go_wp2_with (go_at_call 13; refine HMK.out.mono ?_; rintro e w5 ⟨rfl, hb⟩; have HB5 := Lib.hid (hbd.trans (hb.mono hbd.size)); clear hb)
      refine mix_on hK HB5.out ?_
      clear hK K HMK
      refine mix_seg (seg := [_, _, _, _, _, _, _, _, _, _]) rfl HB5.out ?_
      intro ι hι F hF
      have f2 := Lib.hid (fun n => HX4.out.kept (hF n) HBX4.out)
      clear hF
      iterate 6 (go_big_quiet_step (fail))
      refine BigFrame.wpQuiet_want rfl (fun K hK => ?_); refine quiet_load_mach _ rfl B x m rfl (fun w' ⟨n, e⟩ => e ▸ f2.out n) ?_; refine hK _ ?_; clear hK K; simp only [Act.put, List.setIfInBounds_toArray, List.set_cons_zero, List.set_cons_succ]
      go_big_quiet_step (fail)
      refine BigFrame.wpQuiet_want rfl (fun K hK => ?_); refine quiet_load_mach _ rfl B x m rfl (fun w' ⟨n, e⟩ => e ▸ f2.out n) ?_; refine hK _ ?_; clear hK K; simp only [Act.put, List.setIfInBounds_toArray, List.set_cons_zero, List.set_cons_succ]
      go_big_quiet_step (fail)
      refine wpQuiet_nil ?_
      clear f2 hι F
      have HR5 := Lib.hid (frun_any x m s w5 (HMW.out _ (HW.out _ HB5.out)) HF.out HS.out (HTW.out _ (HW.out _ HB5.out)))
      unfold REnd at HR5
      refine mix_eff (fun K hK => ?_)
      go_wp2_with (go_at_call 14; refine HR5.out.mono ?_; rintro e w6 ⟨L1, hS, pS, rfl, h1, h2, h3, h4, hb⟩; have H1 := Lib.hid h1; have H2 := Lib.hid h2; have H3 := Lib.hid h3; have H4 := Lib.hid h4; have HB6 := Lib.hid (HB5.out.trans (hb.mono HB5.out.size)); clear h1 h2 h3 h4 hb)
      refine mix_on hK HB6.out ?_
      clear hK K HR5
      have HR6 := Lib.hid (rrun14_any x m s w6 (HMW.out _ (HW.out _ HB6.out)) HF.out HS.out)
      unfold REnd at HR6
      refine mix_eff (fun K hK => ?_)
      go_wp2_with (go_at_call 15; refine HR6.out.mono ?_; rintro e w7 ⟨L2, hS', pS', rfl, h1, h2, h3, h4, hb⟩; have H1' := Lib.hid h1; have H2' := Lib.hid h2; have H3' := Lib.hid h3; have H4' := Lib.hid h4; have HB7 := Lib.hid (HB6.out.trans (hb.mono HB6.out.size)); clear h1 h2 h3 h4 hb)
      refine mix_on hK HB7.out ?_
      clear hK K HR6
      have HEL : Hid (L1 = L2) := Lib.hid (tells_one H1.out H2.out H1'.out H2'.out)
      have HPA : Hid (paB (takesM m (Nf.bs s)) hS pS (takesM m (Nf.bs s)) hS' pS' = true) := Lib.hid (by
        unfold paB
        rw [H3.out, H3'.out, H4.out, H4'.out, HEL.out]
        simp)
      clear H1 H2 H3 H4 H1' H2' H3' H4' HEL
      generalize takesM m (Nf.bs s) = tk at *
      refine mix_seg (seg := [_, _, _]) rfl HB7.out ?_
      intro ι hι F hF
      clear hF
      refine BigFrame.wpQuiet_want rfl (fun K hK => ?_); refine quiet_eql_pa _ _ _ rfl tk hS pS tk hS' pS' rfl rfl ?_; refine hK _ ?_; clear hK K; rw [HPA.out]; simp only [Act.put, List.setIfInBounds_toArray, List.set_cons_zero, List.set_cons_succ]
      iterate 2 (go_big_quiet_step (fail))
      refine wpQuiet_nil ?_
      clear hι F
      have HA7 := Lib.hid (HAW.out w7 (HW.out _ HB7.out))
      refine mix_eff (fun K hK => ?_)
      go_wp2_with (go_at_call 10; refine HA7.out.mono ?_; rintro e w8 ⟨rfl, hb⟩; have HB8 := Lib.hid (HB7.out.trans (hb.mono HB7.out.size)); clear hb)
      refine mix_on hK HB8.out ?_
      clear hK K HA7
      refine mix_seg (seg := [_]) (rest := []) rfl HB8.out ?_
      intro ι hι F hF
      clear hF
      iterate 1 (go_big_quiet_step (fail))
      refine wpQuiet_nil ?_
      clear hι F
      show wpList _ _ _ _ _ _
      go_wp2_with fail
      refine NoPanic.normal ?_
      go_wp2_with fail
      go_ret
      exact ⟨rfl, by rw [HBq.out]; exact HW.out _ HB8.out⟩
end Ft
end Go.Proofs.YtghbgfkkdknmnaaDoor
