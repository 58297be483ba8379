/- NfaRuns: the law's walk. -/
import Derived.Test.YtkpdggemhjhnbaaDoorNfO
import Derived.Test.YtkpdggemhjhnbaaDoorOpenM
namespace Go.Proofs.YtkpdggemhjhnbaaDoor
open Go.RowKit Sets Nf
namespace Nf
theorem tab_drew {w : World} (h : Tab w) : Tab w.drew := fun i hi => h i hi
set_option maxHeartbeats 6400000 in
set_option maxRecDepth 100000 in
theorem nruns_any (x : Ma) (m : Mc) (s : ByteArray) (w : World) (h : UnM w x m) (hT : Tab w) :
    Calls Tryd.prog 3 #[.agg (mc x m), .string s] w fun e w' => e = .returned (.bool true) ∧ Below w.heap.size w w' := by
  have HG : Hid (0 < w.heap.size) := Lib.hid (World.block_lt_of_cell? _ _ (hT 0 (by decide)))
  have HU := Lib.hid h
  have HT := Lib.hid hT
  clear h hT
  go_enter Tryd.func3, Tryd.ntmps3
  go_upto_region 1 with fail
  have HX := Lib.hid (BoxM.new w x m)
  have HB := Lib.hid ((Below.refl w.heap.size w).alloc (Nat.le_refl _) (.cells (mc x m) 27))
  generalize w.alloc (.cells (mc x m) 27) = w1 at *
  have HM1 := Lib.hid (HU.out.1.kept HB.out)
  have HR := Lib.hid (ngreat_any x m w1 HM1.out.fo)
  have HAW := Lib.hid (fun w' (h : Below w.heap.size w w') => awake10_any w' (HT.out.below h HG.out))
  generalize hBq : w.heap.size = B at *
  have HBq := Lib.hid hBq
  clear hBq
  have HBX := Lib.hid HX.out.lt
  have HSZ : Hid (∀ w', Below B w w' → B ≤ w'.heap.size) := Lib.hid (fun w' h => by rw [← HBq.out]; exact h.size)
  cases hgr : greatM m with
  | true =>
    rw [hgr] at HR
    clear hgr
    go_wp2_with (first
      | (refine wpList_load_mach rfl (.tmp 2) rfl B x m rfl HX.out ?_)
      | (go_at_call 9; refine HR.out.mono ?_; rintro e w2 ⟨rfl, hb2⟩; have HB2 := Lib.hid (HB.out.trans (hb2.mono (Nat.le_of_lt HBX.out))); clear hb2; have HA2 := Lib.hid (HAW.out w2 HB2.out))
      | (go_at_call 10; refine HA2.out.mono ?_; rintro e w3 ⟨rfl, hb3⟩; have HB3 := Lib.hid (HB2.out.trans (hb3.mono (HSZ.out _ HB2.out))); clear hb3))
    go_ret
    exact ⟨rfl, by rw [HBq.out]; exact HB3.out⟩
  | false =>
    rw [hgr] at HR
    have HF := Lib.hid (HU.out.2 hgr)
    clear hgr
    by_cases hs : 200 < s.size
    · have hd : decide ((200 : Int) < (s.size : Int)) = true := decide_eq_true (by omega)
      have hd' : decide (200 < s.size) = true := decide_eq_true hs
      clear hs
      go_wp2_with (first
        | (refine wpList_load_mach rfl (.tmp 2) rfl B x m rfl HX.out ?_)
        | (go_at_call 9; refine HR.out.mono ?_; rintro e w2 ⟨rfl, hb2⟩; have HB2 := Lib.hid (HB.out.trans (hb2.mono (Nat.le_of_lt HBX.out))); clear hb2; have HA2 := Lib.hid (HAW.out w2 HB2.out))
        | (go_at_call 10; refine HA2.out.mono ?_; rintro e w3 ⟨rfl, hb3⟩; have HB3 := Lib.hid (HB2.out.trans (hb3.mono (HSZ.out _ HB2.out))); clear hb3))
      go_ret
      exact ⟨rfl, by rw [HBq.out]; exact HB3.out⟩
    · have hd : decide ((200 : Int) < (s.size : Int)) = false := decide_eq_false (by omega)
      have hd' : decide (200 < s.size) = false := decide_eq_false hs
      have HS : Hid (s.size ≤ 1000) := Lib.hid (by omega)
      clear hs
      go_upto_region 3 with (first
        | (refine wpList_load_mach rfl (.tmp 2) rfl B x m rfl HX.out ?_)
        | (go_at_call 9; refine HR.out.mono ?_; rintro e w2 ⟨rfl, hb2⟩; have HX2 := Lib.hid (HX.out.kept hb2 HBX.out); have HB2 := Lib.hid (HB.out.trans (hb2.mono (Nat.le_of_lt HBX.out))); clear hb2))
      have HBX2 := Lib.hid HX2.out.lt
      have hbd : Below w2.heap.size w2 w2.drew := (Below.refl _ _).drew
      have HM2 := Lib.hid (fun (w' : World) (h : Below w2.heap.size w2 w') => HU.out.1.kept (w' := w') (by rw [HBq.out]; exact HB2.out.trans (h.mono (HSZ.out _ HB2.out))))
      have HT2 := Lib.hid (fun (w' : World) (h : Below w2.heap.size w2 w') => HT.out.below (w' := w') (B := B) (HB2.out.trans (h.mono (HSZ.out _ HB2.out))) HG.out)
      have HR1 := Lib.hid (nright_any x m w2.drew (HM2.out _ hbd) HF.out)
      rw [mv_eq] at HR1
      refine region_mix [(false, 0), (false, 2), (true, 1), (true, 3), (false, 4), (false, 5), (false, 6), (false, 7), (false, 9), (false, 10), (true, 8), (true, 11), (false, 12), (false, 13), (false, 14), (true, 15), (false, 16)] (fun w' => Below w2.heap.size w2 w') (by kernel_rfl) (by kernel_rfl) hbd ?_
      simp only [planOps, List.map_cons, List.map_nil, List.getD_cons_zero, List.getD_cons_succ, List.length_cons, List.length_nil, List.drop_succ_cons, List.drop_zero]
      refine mix_seg (seg := [_, _]) rfl hbd ?_
      intro ι hι F hF
      have f2 := Lib.hid (fun n => HX2.out.kept (hF n) HBX2.out)
      refine BigFrame.wpQuiet_want rfl (fun K hK => ?_); refine quiet_load_mach _ rfl B x m rfl (fun w' ⟨n, e⟩ => e ▸ f2.out n) ?_; refine hK _ ?_; clear hK K; simp only [Act.put, List.setIfInBounds_toArray, List.set_cons_zero, List.set_cons_succ]
      refine BigFrame.wpQuiet_want rfl (fun K hK => ?_); refine quiet_load_mach _ rfl B x m rfl (fun w' ⟨n, e⟩ => e ▸ f2.out n) ?_; refine hK _ ?_; clear hK K; simp only [Act.put, List.setIfInBounds_toArray, List.set_cons_zero, List.set_cons_succ]
      refine wpQuiet_nil ?_
      clear f2 hF hι F
      refine mix_eff (fun K hK => ?_)
      go_wp2_with (go_at_call 11; refine HR1.out.mono ?_; rintro e w3 ⟨rfl, hb⟩; have HB3 := Lib.hid (hbd.trans (hb.mono hbd.size)); clear hb)
      refine mix_on hK HB3.out ?_
      clear hK K HR1
      have HR2 := Lib.hid (rright_any x m w3 (HM2.out _ HB3.out) HF.out)
      refine mix_eff (fun K hK => ?_)
      go_wp2_with (go_at_call 12; refine HR2.out.mono ?_; rintro e w4 ⟨rfl, hb⟩; have HB4 := Lib.hid (HB3.out.trans (hb.mono HB3.out.size)); clear hb)
      refine mix_on hK HB4.out ?_
      clear hK K HR2
      have HR3 := Lib.hid (nrun_any x m s w4 (HM2.out _ HB4.out) HF.out HS.out (HT2.out _ HB4.out))
      generalize rightM m = r at *
      generalize htq : takesM m (bs s) = t at *
      have HTQ := Lib.hid htq
      clear htq
      refine mix_seg (seg := [_, _, _, _, _, _]) rfl HB4.out ?_
      intro ι hι F hF
      have f2 := Lib.hid (fun n => HX2.out.kept (hF n) HBX2.out)
      go_big_quiet_step (fail)
      go_big_quiet_step (fail)
      refine BigFrame.wpQuiet_want rfl (fun K hK => ?_); refine quiet_load_mach _ rfl B x m rfl (fun w' ⟨n, e⟩ => e ▸ f2.out n) ?_; refine hK _ ?_; clear hK K; simp only [Act.put, List.setIfInBounds_toArray, List.set_cons_zero, List.set_cons_succ]
      go_big_quiet_step (fail)
      refine BigFrame.wpQuiet_want rfl (fun K hK => ?_); refine quiet_load_mach _ rfl B x m rfl (fun w' ⟨n, e⟩ => e ▸ f2.out n) ?_; refine hK _ ?_; clear hK K; simp only [Act.put, List.setIfInBounds_toArray, List.set_cons_zero, List.set_cons_succ]
      go_big_quiet_step (fail)
      refine wpQuiet_nil ?_
      clear f2 hF hι F
      refine mix_eff (fun K hK => ?_)
      go_wp2_with (go_at_call 13; refine HR3.out.mono ?_; rintro e w5 ⟨rfl, hb⟩; have HB5 := Lib.hid (HB4.out.trans (hb.mono HB4.out.size)); clear hb)
      refine mix_on hK HB5.out ?_
      clear hK K HR3
      have HR4 := Lib.hid (rrun_any x m s w5 (HM2.out _ HB5.out) HF.out HS.out)
      rw [HTQ.out] at HR4
      refine mix_eff (fun K hK => ?_)
      go_wp2_with (go_at_call 14; refine HR4.out.mono ?_; rintro e w6 ⟨rfl, hb⟩; have HB6 := Lib.hid (HB5.out.trans (hb.mono HB5.out.size)); clear hb)
      refine mix_on hK HB6.out ?_
      clear hK K HR4
      refine mix_seg (seg := [_, _, _]) rfl HB6.out ?_
      intro ι hι F hF
      iterate 3 (go_big_quiet_step (fail))
      refine wpQuiet_nil ?_
      clear hF hι F
      have HA6 := Lib.hid (awake10_any w6 (HT2.out _ HB6.out))
      refine mix_eff (fun K hK => ?_)
      go_wp2_with (go_at_call 10; refine HA6.out.mono ?_; rintro e w7 ⟨rfl, hb⟩; have HB7 := Lib.hid (HB6.out.trans (hb.mono HB6.out.size)); clear hb)
      refine mix_on hK HB7.out ?_
      clear hK K HA6
      refine mix_seg (seg := [_]) (rest := []) rfl HB7.out ?_
      intro ι hι F hF
      iterate 1 (go_big_quiet_step (fail))
      refine wpQuiet_nil ?_
      clear hF hι F
      show wpList _ _ _ _ _ _
      go_wp2_with fail
      refine NoPanic.normal ?_
      go_wp2_with fail
      go_ret
      exact ⟨rfl, by rw [HBq.out]; exact HB2.out.trans (HB7.out.mono (HSZ.out _ HB2.out))⟩
end Nf
end Go.Proofs.YtkpdggemhjhnbaaDoor
