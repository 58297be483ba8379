/- FstTrims: the law's walk. -/
import Derived.Test.YtghbgfkkdknmnaaDoorPqL2
namespace Go.Proofs.YtghbgfkkdknmnaaDoor
open Go.RowKit Sets Nf Fs
namespace Ft
theorem takes_trim {m : Mc} (h : Rt m) (ws : List Nat) : takesM (trimM m (useN m)) ws = takesM m ws := by
  have hU := useN_us h
  rw [Bool.eq_iff_iff, takes_iff, takes_iff, tk_runs, tk_runs]
  constructor
  · rintro ⟨-, l, hl⟩
    obtain ⟨l2, -, h2⟩ := rn_from h hU ws l none Pk.none hl
    exact ⟨h, l2, h2⟩
  · rintro ⟨-, l, hl⟩
    exact ⟨trim_right h, _, (rn_to h hU ws l none Pk.none hl).1⟩
theorem tells_trim {m : Mc} (h : Rt m) {ws L L' : List Nat} (h1 : takesM m ws = false → L = []) (h2 : takesM m ws = true → ∀ R, Lr m none ws R → L = mkR m R)
    (h1' : takesM (trimM m (useN m)) ws = false → L' = []) (h2' : takesM (trimM m (useN m)) ws = true → ∀ R, Lr (trimM m (useN m)) none ws R → L' = mkR (trimM m (useN m)) R) : L = L' := by
  have ht := takes_trim h ws
  have hU := useN_us h
  cases hk : takesM m ws with
  | false => rw [h1 hk, h1' (ht.trans hk)]
  | true =>
    obtain ⟨l0, hl0⟩ := tk_runs.1 ((takes_iff m _).1 hk).2
    obtain ⟨R, hR⟩ := lr_ex hl0
    have h3 := lr_trim h hU ws R none Pk.none hR
    rw [h2 hk R hR, h2' (ht.trans hk) _ h3]
    exact (marks_trim h hU hR h3).symm
set_option maxHeartbeats 6400000 in
set_option maxRecDepth 100000 in
theorem ftrm_any (x : Ma) (m : Mc) (s : ByteArray) (w : World) (h : UnM w x m) (hT : Tab w) :
    Calls Tryd.prog 7 #[.agg (mc x m), .string s] w fun e w' => e = .returned (.bool true) ∧ Below w.heap.size w w' := by
  have HG : Hid (0 < w.heap.size) := Lib.hid (World.block_lt_of_cell? _ _ (hT 0 (by decide)))
  have HU := Lib.hid h
  have HT := Lib.hid hT
  clear h hT
  go_enter Tryd.func7, Tryd.ntmps7
  go_upto_region 1 with fail
  have HX := Lib.hid (BoxM.new w x m)
  have HB := Lib.hid ((Below.refl w.heap.size w).alloc (Nat.le_refl _) (.cells (mc x m) 27))
  generalize w.alloc (.cells (mc x m) 27) = w1 at *
  have HM1 := Lib.hid (HU.out.1.kept HB.out)
  have HR := Lib.hid (small14_any x m w1 HM1.out.fo)
  have HAW := Lib.hid (fun w' (h : Below w.heap.size w w') => awake14_any w' (HT.out.below h HG.out))
  have HMW := Lib.hid (fun w' (h : Below w.heap.size w w') => HU.out.1.kept (w' := w') h)
  have HTW := Lib.hid (fun w' (h : Below w.heap.size w w') => HT.out.below (w' := w') h HG.out)
  generalize hBq : w.heap.size = B at *
  have HBq := Lib.hid hBq
  clear hBq
  have HBX := Lib.hid HX.out.lt
  have HSZ : Hid (∀ w', Below B w w' → B ≤ w'.heap.size) := Lib.hid (fun w' h => by rw [← HBq.out]; exact h.size)
  cases hgr : big20 m with
  | true =>
    rw [hgr] at HR
    clear hgr
    go_wp2_with (first
      | (refine wpList_load_mach rfl (.tmp 2) rfl B x m rfl HX.out ?_)
      | (go_at_call 16; refine HR.out.mono ?_; rintro e w2 ⟨rfl, hb2⟩; have HB2 := Lib.hid (HB.out.trans (hb2.mono (Nat.le_of_lt HBX.out))); clear hb2; have HA2 := Lib.hid (HAW.out w2 HB2.out))
      | (go_at_call 10; refine HA2.out.mono ?_; rintro e w3 ⟨rfl, hb3⟩; have HB3 := Lib.hid (HB2.out.trans (hb3.mono (HSZ.out _ HB2.out))); clear hb3))
    go_ret
    exact ⟨rfl, by rw [HBq.out]; exact HB3.out⟩
  | false =>
    rw [hgr] at HR
    have HF := Lib.hid (small14_fine HU.out hgr).1
    have HF20 : Hid (m.sp.length ≤ 100) := Lib.hid (Nat.le_trans (small14_fine HU.out hgr).2 (by decide))
    clear hgr
    by_cases hs : 40 < s.size
    · have hd : decide ((40 : Int) < (s.size : Int)) = true := decide_eq_true (by omega)
      have hd' : decide (40 < s.size) = true := decide_eq_true hs
      clear hs
      go_wp2_with (first
        | (refine wpList_load_mach rfl (.tmp 2) rfl B x m rfl HX.out ?_)
        | (go_at_call 16; refine HR.out.mono ?_; rintro e w2 ⟨rfl, hb2⟩; have HB2 := Lib.hid (HB.out.trans (hb2.mono (Nat.le_of_lt HBX.out))); clear hb2; have HA2 := Lib.hid (HAW.out w2 HB2.out))
        | (go_at_call 10; refine HA2.out.mono ?_; rintro e w3 ⟨rfl, hb3⟩; have HB3 := Lib.hid (HB2.out.trans (hb3.mono (HSZ.out _ HB2.out))); clear hb3))
      go_ret
      exact ⟨rfl, by rw [HBq.out]; exact HB3.out⟩
    · have hd : decide ((40 : Int) < (s.size : Int)) = false := decide_eq_false (by omega)
      have hd' : decide (40 < s.size) = false := decide_eq_false hs
      have HS : Hid (s.size ≤ 1000) := Lib.hid (by omega)
      clear hs
      go_upto_region 3 with (first
        | (refine wpList_load_mach rfl (.tmp 2) rfl B x m rfl HX.out ?_)
        | (go_at_call 16; refine HR.out.mono ?_; rintro e w2 ⟨rfl, hb2⟩; have HX2 := Lib.hid (HX.out.kept hb2 HBX.out); have HB2 := Lib.hid (HB.out.trans (hb2.mono (Nat.le_of_lt HBX.out))); clear hb2))
      cases hr : rightM m with
      | false =>
        have HTR := Lib.hid (trim_wrong x m w2 (HMW.out _ HB2.out) HF.out hr)
        have HNS : Hid (¬ Sv m) := Lib.hid (fun h => by have := (right_iff m).2 h.right; rw [hr] at this; cases this)
        have HTK : Hid (takesM m (Nf.bs s) = false) := Lib.hid (by unfold takesM; rw [hr]; rfl)
        clear hr
        go_upto_region 5 with (first
          | (refine wpList_load_mach rfl (.tmp 2) rfl B x m rfl HX2.out ?_)
          | (go_at_call 23; refine HTR.out.mono ?_; rintro e w3 ⟨rfl, hb3⟩; have HB3 := Lib.hid (HB2.out.trans (hb3.mono (HSZ.out _ HB2.out))); have HX3 := Lib.hid (bxStay HX2.out hb3); clear hb3)
          | (refine wpList_lay_mach rfl (.tmp 5) (.tmp 23) rfl ⟨none, 0, none, 0, none, 0, none, 0⟩ ⟨[], [], [], [], false⟩ _ rfl rfl rfl ?_))
        have HA3 : Hid (Below w3.heap.size w3 (w3.alloc (.cells (mc ⟨none, 0, none, 0, none, 0, none, 0⟩ ⟨[], [], [], [], false⟩) 27))) := Lib.hid ((Below.refl _ _).alloc (Nat.le_refl _) _)
        have HB4 := Lib.hid (HB3.out.trans (HA3.out.mono (HSZ.out _ HB3.out)))
        have HX4 := Lib.hid (bxStay HX3.out HA3.out)
        generalize w3.alloc (.cells (mc ⟨none, 0, none, 0, none, 0, none, 0⟩ ⟨[], [], [], [], false⟩) 27) = w4 at *
        have HS4 := Lib.hid (fsingle_any x m w4 (HMW.out _ HB4.out) HF.out HF20.out (HTW.out _ HB4.out))
        go_wp2_with (first
          | (refine wpList_load_machG rfl (.tmp 2) rfl B x m rfl HX4.out ?_)
          | (refine wpList_load_machG rfl (.tmp 2) rfl B x m rfl HX5.out ?_)
          | (go_at_call 17; refine HS4.out.mono ?_; rintro e w5 ⟨q, rfl, hq, hb5⟩; obtain rfl : q = false := (by cases q with | false => rfl | true => exact absurd (hq.1 rfl) HNS.out); have HB5 := Lib.hid (HB4.out.trans (hb5.mono (HSZ.out _ HB4.out))); have HX5 := Lib.hid (bxStay HX4.out hb5); clear hq hb5; have HR5 := Lib.hid (frun_any x m s w5 (HMW.out _ HB5.out) HF.out HS.out (HTW.out _ HB5.out)))
          | (go_at_call 14; unfold REnd at HR5; rw [HTK.out] at HR5; refine HR5.out.mono ?_; rintro e w6 ⟨L, hS, pS, rfl, h1, -, h3, h4, hb6⟩; have HB6 := Lib.hid (HB5.out.trans (hb6.mono (HSZ.out _ HB5.out))); have HPA : Hid (paB false hS pS false ⟨#[]⟩ ⟨#[]⟩ = true) := Lib.hid (by unfold paB; rw [h3, h4, h1 rfl]; rfl); clear h1 h3 h4 hb6; have HA6 := Lib.hid (HAW.out w6 HB6.out))
          | (refine wpList_eql_pa rfl _ (.tmp 33) (.tmp 34) rfl false hS pS false ⟨#[]⟩ ⟨#[]⟩ rfl rfl ?_; rw [HPA.out])
          | (go_at_call 10; refine HA6.out.mono ?_; rintro e w7 ⟨rfl, hb7⟩; have HB7 := Lib.hid (HB6.out.trans (hb7.mono (HSZ.out _ HB6.out))); clear hb7))
        go_ret
        exact ⟨rfl, by rw [HBq.out]; exact HB7.out⟩
      | true =>
        have HRT := Lib.hid ((right_iff m).1 hr)
        clear hr
        have HTR := Lib.hid (trim_any x m w2 (HMW.out _ HB2.out) HF.out HRT.out (HTW.out _ HB2.out))
        have HTF := Lib.hid (trim_fine HF.out HRT.out (useN m))
        have HTN : Hid ((trimM m (useN m)).sp.length ≤ 100) := Lib.hid (Nat.le_trans (trim_many m (useN m)) HF20.out)
        have HTE : Hid (∀ L L', (takesM m (Nf.bs s) = false → L = []) → (takesM m (Nf.bs s) = true → ∀ R, Lr m none (Nf.bs s) R → L = mkR m R) → (takesM (trimM m (useN m)) (Nf.bs s) = false → L' = []) → (takesM (trimM m (useN m)) (Nf.bs s) = true → ∀ R, Lr (trimM m (useN m)) none (Nf.bs s) R → L' = mkR (trimM m (useN m)) R) → L = L') := Lib.hid (fun L L' h1 h2 h3 h4 => tells_trim HRT.out h1 h2 h3 h4)
        have HTT := Lib.hid (takes_trim HRT.out (Nf.bs s))
        have HSV := Lib.hid (sv_trim HRT.out (useN_us HRT.out))
        obtain ⟨t, ht⟩ : ∃ t, Hid (trimM m (useN m) = t) := ⟨_, Lib.hid rfl⟩
        rw [ht.out] at HTR HTF HTN HTE HTT HSV
        go_upto_region 6 with (first
          | (refine wpList_load_mach rfl (.tmp 2) rfl B x m rfl HX2.out ?_)
          | (go_at_call 23; refine HTR.out.mono ?_; rintro e w3 ⟨y, rfl, hy, hb3⟩; have HY := Lib.hid hy; have HB3 := Lib.hid (HB2.out.trans (hb3.mono (HSZ.out _ HB2.out))); have HX3 := Lib.hid (bxStay HX2.out hb3); clear hy hb3)
          | (refine wpList_lay_mach rfl (.tmp 5) (.tmp 23) rfl y t _ rfl rfl rfl ?_))
        have HA3 : Hid (Below w3.heap.size w3 (w3.alloc (.cells (mc y t) 27))) := Lib.hid ((Below.refl _ _).alloc (Nat.le_refl _) _)
        have HB4 := Lib.hid (HB3.out.trans (HA3.out.mono (HSZ.out _ HB3.out)))
        have HX4 := Lib.hid (bxStay HX3.out HA3.out)
        have HZ4 := Lib.hid (BoxM.new w3 y t)
        have HY4 := Lib.hid (HY.out.stay HA3.out).mat
        obtain ⟨B5, hB5⟩ : ∃ b, Hid (w3.heap.size = b) := ⟨_, Lib.hid rfl⟩
        rw [hB5.out] at HZ4 ⊢
        generalize w3.alloc (.cells (mc y t) 27) = w4 at *
        clear HA3 HY HX3 HB3 HX2 HB2 HTR HR hB5 ht w3 w2
        have HM4 := Lib.hid (fmarks_any x m s w4 (HMW.out _ HB4.out) HF.out HS.out (HTW.out _ HB4.out))
        unfold MEnd at HM4
        go_upto_region 7 with (first
          | (refine wpList_load_mach rfl (.tmp 2) rfl B x m rfl HX4.out ?_)
          | (go_at_call 11; refine HM4.out.mono ?_; rintro e w5 ⟨v, L, rfl, hy, h1, h2, hb⟩; have HY := Lib.hid hy; have H1 := Lib.hid h1; have H2 := Lib.hid h2; have HK5 := Lib.hid hb; have HB5 := Lib.hid (HB4.out.trans (hb.mono (HSZ.out _ HB4.out))); have HX5 := Lib.hid (bxStay HX4.out hb); have HZ5 := Lib.hid (bxStay HZ4.out hb); clear hy h1 h2 hb))
        have HM5 := Lib.hid (fmarks_any y t s w5 (HY4.out.kept HK5.out) HTF.out HS.out (HTW.out _ HB5.out))
        unfold MEnd at HM5
        rw [HTT.out] at HM5
        go_upto_region 8 with (first
          | (refine wpList_load_mach rfl (.tmp 5) rfl B5 y t rfl HZ5.out ?_)
          | (go_at_call 11; refine HM5.out.mono ?_; rintro e w6 ⟨v', L', rfl, hy, h1, h2, hb⟩; have HY' := Lib.hid hy; have H1' := Lib.hid h1; have H2' := Lib.hid h2; have HK6 := Lib.hid (HK5.out.trans (hb.mono HK5.out.size)); have HB6 := Lib.hid (HB5.out.trans (hb.mono (HSZ.out _ HB5.out))); have HX6 := Lib.hid (bxStay HX5.out hb); have HZ6 := Lib.hid (bxStay HZ5.out hb); have HY6 := Lib.hid (HY.out.kept hb); clear hy h1 h2 hb))
        have HEL : Hid (L = L') := Lib.hid (HTE.out L L' H1.out H2.out (by rw [HTT.out]; exact H1'.out) (by rw [HTT.out]; exact H2'.out))
        have HLL : Hid (L.length ≤ 1000) := Lib.hid (by have h1 := tells_len H1.out H2.out; rw [Nf.bs_len] at h1; have := HS.out; omega)
        rw [← HEL.out] at HY'
        clear H1 H2 H1' H2' HEL HTE HTT HM4 HM5 HX4 HX5 HZ4 HZ5 HB4 HB5 HK5 HY
        generalize takesM m (Nf.bs s) = tk at *
        have hbd : Below w6.heap.size w6 w6.drew := (Below.refl _ _).drew
        have HW : Hid (∀ W, Below w6.heap.size w6 W → Below B w W) := Lib.hid (fun W hW => HB6.out.trans (hW.mono (HSZ.out _ HB6.out)))
        have HBX6 := Lib.hid HX6.out.lt
        have HBZ6 := Lib.hid HZ6.out.lt
        refine region_mix [(false, 0), (false, 1), (true, 2), (false, 3), (false, 4), (false, 5), (false, 6), (false, 7), (false, 8), (false, 9), (false, 11), (true, 10), (true, 12), (false, 13), (false, 14), (false, 15), (true, 16), (false, 17)] (fun w' => Below w6.heap.size w6 w') (by kernel_rfl) (by kernel_rfl) hbd ?_
        simp only [planOps, List.map_cons, List.map_nil, List.getD_cons_zero, List.getD_cons_succ, List.length_cons, List.length_nil, List.drop_succ_cons, List.drop_zero]
        refine mix_seg (seg := [_, _]) rfl hbd ?_
        intro ι hι F hF
        iterate 2 (go_big_quiet_step (fail))
        refine wpQuiet_nil ?_
        clear hF hι F
        have HMK := Lib.hid (marked14_any v v' L L w6.drew (HY6.out.kept hbd) (HY'.out.kept hbd) HLL.out)
        rw [decide_eq_true (rfl : L = L)] at HMK
        refine mix_eff (fun K hK => ?_)
        go_wp2_with (go_at_call 13; refine HMK.out.mono ?_; rintro e w7 ⟨rfl, hb⟩; have HB7 := Lib.hid (hbd.trans (hb.mono hbd.size)); clear hb)
        refine mix_on hK HB7.out ?_
        clear hK K HMK
        refine mix_seg (seg := [_, _, _, _, _, _, _, _]) rfl HB7.out ?_
        intro ι hι F hF
        have f2 := Lib.hid (fun n => HX6.out.kept (hF n) HBX6.out)
        have f3 := Lib.hid (fun n => HZ6.out.kept (hF n) HBZ6.out)
        clear hF
        iterate 6 (go_big_quiet_step (fail))
        refine BigFrame.wpQuiet_want rfl (fun K hK => ?_); refine quiet_load_mach _ rfl B x m rfl (fun w' ⟨n, e⟩ => e ▸ f2.out n) ?_; refine hK _ ?_; clear hK K; simp only [Act.put, List.setIfInBounds_toArray, List.set_cons_zero, List.set_cons_succ]
        refine BigFrame.wpQuiet_want rfl (fun K hK => ?_); refine quiet_load_mach _ rfl B5 y t rfl (fun w' ⟨n, e⟩ => e ▸ f3.out n) ?_; refine hK _ ?_; clear hK K; simp only [Act.put, List.setIfInBounds_toArray, List.set_cons_zero, List.set_cons_succ]
        refine wpQuiet_nil ?_
        clear f2 f3 hι F
        have HS7 := Lib.hid (fsingle_any x m w7 (HMW.out _ (HW.out _ HB7.out)) HF.out HF20.out (HTW.out _ (HW.out _ HB7.out)))
        refine mix_eff (fun K hK => ?_)
        go_wp2_with (go_at_call 17; refine HS7.out.mono ?_; rintro e w8 ⟨q, rfl, hq, hb⟩; have HQ := Lib.hid hq; have HB8 := Lib.hid (HB7.out.trans (hb.mono HB7.out.size)); clear hq hb)
        refine mix_on hK HB8.out ?_
        clear hK K HS7
        have HS8 := Lib.hid (fsingle_any y t w8 (HY4.out.kept (HK6.out.trans (HB8.out.mono HK6.out.size))) HTF.out HTN.out (HTW.out _ (HW.out _ HB8.out)))
        refine mix_eff (fun K hK => ?_)
        go_wp2_with (go_at_call 17; refine HS8.out.mono ?_; rintro e w9 ⟨q', rfl, hq, hb⟩; have HQ' := Lib.hid hq; have HB9 := Lib.hid (HB8.out.trans (hb.mono HB8.out.size)); clear hq hb)
        refine mix_on hK HB9.out ?_
        clear hK K HS8
        have HQE : Hid (q' = q) := Lib.hid (by rw [Bool.eq_iff_iff, HQ'.out, HQ.out, HSV.out])
        rw [HQE.out]
        refine mix_seg (seg := [_, _, _]) rfl HB9.out ?_
        intro ι hι F hF
        clear hF
        iterate 3 (go_big_quiet_step (fail))
        refine wpQuiet_nil ?_
        clear hι F
        have HA9 := Lib.hid (HAW.out w9 (HW.out _ HB9.out))
        refine mix_eff (fun K hK => ?_)
        go_wp2_with (go_at_call 10; refine HA9.out.mono ?_; rintro e wA ⟨rfl, hb⟩; have HBA := Lib.hid (HB9.out.trans (hb.mono HB9.out.size)); clear hb)
        refine mix_on hK HBA.out ?_
        clear hK K HA9
        refine mix_seg (seg := [_]) (rest := []) rfl HBA.out ?_
        intro ι hι F hF
        clear hF
        iterate 1 (go_big_quiet_step (fail))
        refine wpQuiet_nil ?_
        clear hι F
        show wpList _ _ _ _ _ _
        go_wp2_with fail
        refine NoPanic.normal ?_
        go_wp2_with fail
        go_ret
        exact ⟨rfl, by rw [HBq.out]; exact HW.out _ HBA.out⟩
end Ft
end Go.Proofs.YtghbgfkkdknmnaaDoor
