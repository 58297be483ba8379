/- NfaUseful: the law's walk. -/
import Derived.Test.YtkpdggemhjhnbaaDoorNgC
import Derived.Test.YtkpdggemhjhnbaaDoorOpenM
namespace Go.Proofs.YtkpdggemhjhnbaaDoor
open Go.RowKit Sets Nf
namespace Nf
theorem left_len2 (U : Nat) (l : List Int) : (leftL U l).length ≤ l.length := by
  unfold leftL
  rw [List.length_map]
  exact List.length_filter_le _ _
theorem rise_i64 {n : Nat} {l : List Int} (h : rise n l = true) (hn : n ≤ 1000) : ∀ k ∈ l, i64 k := fun k hk => by
  have := ((rise_iff n l).1 h).1 k hk
  unfold i64; omega
theorem trim_fine {m : Mc} (hf : Fine m) (hr : Rt m) (U : Nat) : Fine (trimM m U) := by
  have hR := trim_right (U := U) hr
  have hk : (kept U m.sp.length).length ≤ m.sp.length := by
    unfold kept
    refine Nat.le_trans (List.length_filter_le _ _) ?_
    rw [List.length_range]; exact Nat.le_refl _
  have h1 := hf.sp
  have h2 := hf.fi
  have h3 := hR.many
  refine ⟨by omega, ?_, by rw [hR.fol]; omega, by rw [hR.lal]; omega, fun l hl => ⟨?_, rise_i64 (hR.foR l hl) (by omega)⟩, rise_i64 hR.fiR (by omega), fun s hs => ?_⟩
  · show (leftL U m.fi).length ≤ 1000
    have := left_len2 U m.fi; omega
  · unfold trimM at hl
    obtain ⟨k, -, rfl⟩ := List.mem_map.1 hl
    refine Nat.le_trans (left_len2 U _) ?_
    rcases Nat.lt_or_ge k m.fo.length with h3 | h3
    · exact (hf.each _ (getD_mem h3)).1
    · rw [getD_ge h3]; exact Nat.zero_le _
  · unfold trimM at hs
    obtain ⟨k, hk, rfl⟩ := List.mem_map.1 hs
    exact hf.set _ (getD_mem (kept_mem.1 hk).1)
theorem trim_spots {m : Mc} (h : Rt m) {j : Nat} (hj : j < (trimM m (useN m)).sp.length) : stN (trimM m (useN m)) j ≠ 0 ∧ Co (trimM m (useN m)) j ∧ Gg (trimM m (useN m)) j := by
  have hU := useN_us h
  rw [trim_len] at hj
  obtain ⟨k, hk, hu, rfl⟩ := kept_at hj
  have := (hU k).1 hu
  exact ⟨(full_bit _ _).1 (trim_full hU hu), trim_co h hU this.1 this.2, trim_gg h hU this.2 this.1⟩
theorem same_id (m : Mc) : sameB m m = true := decide_eq_true ⟨rfl, rfl, rfl, rfl, rfl⟩
theorem way_ok (x : Ma) (m : Mc) (w : World) (h : MAt w x m) (hf : Fine m) (hr : Rt m) (hfull : ∀ k, k < m.sp.length → stN m k ≠ 0) (a : Option Addr) (cap : Nat) (l : List Int) (hn : NumsIn w a l) (hcap : a = none → cap = 0) (hl : rise m.sp.length l = true) (hll : l.length ≤ 1000)
    (z : Nat) (hto : z < m.sp.length) (hT : Tab w) (hrc : Rch m (frF l) z) :
    Calls Tryd.prog 23 #[.agg (mc x m), .slice a l.length cap, .int .i64 z] w fun e w' => (∃ s, e = .returned (.tuple #[.string s, .bool true]) ∧ Pt m (frF l) z (bs s) ∧ s.size ≤ m.sp.length) ∧ Below w.heap.size w w' := by
  refine (way_any x m w h hf hr hfull a cap l hn hcap hl hll z hto hT).mono ?_
  rintro e w' ⟨⟨s, b, rfl, h1, h2⟩, hb⟩
  cases b with
  | true => exact ⟨⟨s, rfl, h1 rfl⟩, hb⟩
  | false => exact absurd hrc (h2 rfl)
set_option maxHeartbeats 12800000 in
set_option maxRecDepth 100000 in
theorem nuse_any (x : Ma) (m : Mc) (s : ByteArray) (w : World) (h : UnM w x m) (hT : Tab w) :
    Calls Tryd.prog 6 #[.agg (mc x m), .string s] w fun e w' => e = .returned (.bool true) ∧ Below w.heap.size w w' := by
  have HG : Hid (0 < w.heap.size) := Lib.hid (World.block_lt_of_cell? _ _ (hT 0 (by decide)))
  have HU := Lib.hid h
  have HT := Lib.hid hT
  clear h hT
  go_enter Tryd.func6, Tryd.ntmps6
  go_upto_region 1 with fail
  have HX := Lib.hid (BoxM.new w x m)
  have HB := Lib.hid ((Below.refl w.heap.size w).alloc (Nat.le_refl _) (.cells (mc x m) 27))
  generalize w.alloc (.cells (mc x m) 27) = w1 at *
  have HM1 := Lib.hid (HU.out.1.kept HB.out)
  have HR := Lib.hid (ngreat_any x m w1 HM1.out.fo)
  have HAW := Lib.hid (fun w' (h : Below w.heap.size w w') => awake10_any w' (HT.out.below h HG.out))
  have HTB := Lib.hid (fun w' (h : Below w.heap.size w w') => HT.out.below (w' := w') h HG.out)
  have HMB := Lib.hid (fun w' (h : Below w.heap.size w w') => HU.out.1.kept (w' := w') h)
  generalize hBq : w.heap.size = B at *
  have HBq := Lib.hid hBq
  clear hBq
  have HBX := Lib.hid HX.out.lt
  have HSZ : Hid (∀ w', Below B w w' → B ≤ w'.heap.size) := Lib.hid (fun w' h => by rw [← HBq.out]; exact h.size)
  cases hgr : greatM m with
  | true =>
    rw [hgr] at HR
    clear hgr
    go_wp2_with (first
      | (refine wpList_load_mach rfl (.tmp 2) rfl B x m rfl HX.out ?_)
      | (go_at_call 9; refine HR.out.mono ?_; rintro e w2 ⟨rfl, hb2⟩; have HB2 := Lib.hid (HB.out.trans (hb2.mono (Nat.le_of_lt HBX.out))); clear hb2; have HA2 := Lib.hid (HAW.out w2 HB2.out))
      | (go_at_call 10; refine HA2.out.mono ?_; rintro e w3 ⟨rfl, hb3⟩; have HB3 := Lib.hid (HB2.out.trans (hb3.mono (HSZ.out _ HB2.out))); clear hb3))
    go_ret
    exact ⟨rfl, by rw [HBq.out]; exact HB3.out⟩
  | false =>
    rw [hgr] at HR
    have HF := Lib.hid (HU.out.2 hgr)
    clear hgr
    by_cases hsz : 200 < s.size
    · have hd : decide ((200 : Int) < (s.size : Int)) = true := decide_eq_true (by omega)
      have hd' : decide (200 < s.size) = true := decide_eq_true hsz
      clear hsz
      go_wp2_with (first
        | (refine wpList_load_mach rfl (.tmp 2) rfl B x m rfl HX.out ?_)
        | (go_at_call 9; refine HR.out.mono ?_; rintro e w2 ⟨rfl, hb2⟩; have HB2 := Lib.hid (HB.out.trans (hb2.mono (Nat.le_of_lt HBX.out))); clear hb2; have HA2 := Lib.hid (HAW.out w2 HB2.out))
        | (go_at_call 10; refine HA2.out.mono ?_; rintro e w3 ⟨rfl, hb3⟩; have HB3 := Lib.hid (HB2.out.trans (hb3.mono (HSZ.out _ HB2.out))); clear hb3))
      go_ret
      exact ⟨rfl, by rw [HBq.out]; exact HB3.out⟩
    · have hd : decide ((200 : Int) < (s.size : Int)) = false := decide_eq_false (by omega)
      have hd' : decide (200 < s.size) = false := decide_eq_false hsz
      have HS : Hid (s.size ≤ 1000) := Lib.hid (by omega)
      clear hsz
      go_upto_region 3 with (first
        | (refine wpList_load_mach rfl (.tmp 2) rfl B x m rfl HX.out ?_)
        | (go_at_call 9; refine HR.out.mono ?_; rintro e w2 ⟨rfl, hb2⟩; have HX2 := Lib.hid (HX.out.kept hb2 HBX.out); have HB2 := Lib.hid (HB.out.trans (hb2.mono (Nat.le_of_lt HBX.out))); clear hb2))
      cases hr : rightM m with
      | false =>
        have HTW := Lib.hid (trim_wrong x m w2 (HMB.out _ HB2.out) HF.out hr)
        have HRI := Lib.hid hr
        clear hr
        go_upto_region 4 with (first
          | (refine wpList_load_mach rfl (.tmp 2) rfl B x m rfl HX2.out ?_)
          | (go_at_call 16; refine HTW.out.mono ?_; rintro e w3 ⟨rfl, hb3⟩; have HB3 := Lib.hid hb3; clear hb3)
          | (refine wpList_lay_mach rfl (.tmp 5) (.tmp 25) rfl ⟨none, 0, none, 0, none, 0, none, 0⟩ ⟨[], [], [], [], false⟩ _ rfl rfl rfl ?_))
        have hal := HB3.out.alloc HB3.out.size (.cells (mc ⟨none, 0, none, 0, none, 0, none, 0⟩ ⟨[], [], [], [], false⟩) 27)
        have HX4 := Lib.hid (HX2.out.kept hal HX2.out.lt)
        have HB4 := Lib.hid (HB2.out.trans (hal.mono (HSZ.out _ HB2.out)))
        clear hal HTW HB3
        generalize w3.alloc (.cells (mc ⟨none, 0, none, 0, none, 0, none, 0⟩ ⟨[], [], [], [], false⟩) 27) = w4 at *
        have HRW := Lib.hid (nright_any x m w4 (HMB.out _ HB4.out) HF.out)
        rw [mv_eq, HRI.out] at HRW
        have HL4 := Lib.hid HX4.out.lt
        go_wp2_with (first
          | (refine BigFrame.wpList_want rfl (fun K' hK' => ?_); refine wp_load_mach (.tmp 2) rfl B x m rfl HX4.out ?_; refine hK' _ _ ?_; clear hK' K')
          | (go_at_call 11; refine HRW.out.mono ?_; rintro e w5 ⟨rfl, hb⟩; have HB5 := Lib.hid (HB4.out.trans (hb.mono (Nat.le_of_lt HL4.out))); clear hb HRW; have HA5 := Lib.hid (HAW.out _ HB5.out))
          | (go_at_call 10; refine HA5.out.mono ?_; rintro e w6 ⟨rfl, hb⟩; have HB6 := Lib.hid (HB5.out.trans (hb.mono (HSZ.out _ HB5.out))); clear hb))
        go_ret
        exact ⟨rfl, by rw [HBq.out]; exact HB6.out⟩
      | true =>
        have HRT := Lib.hid ((right_iff m).1 hr)
        have HRI := Lib.hid hr
        clear hr
        have HTR := Lib.hid (trim_any x m w2 (HMB.out _ HB2.out) HF.out HRT.out (HTB.out _ HB2.out))
        have HTK := Lib.hid (trim_takes HRT.out (useN_us HRT.out))
        have HTF := Lib.hid (trim_fine HF.out HRT.out (useN m))
        have HTRT := Lib.hid (trim_right (U := useN m) HRT.out)
        have HTS := Lib.hid (fun j hj => trim_spots HRT.out (j := j) hj)
        have HTT := Lib.hid (trim_twice HRT.out)
        generalize trimM m (useN m) = t at *
        go_upto_region 4 with (first
          | (refine wpList_load_mach rfl (.tmp 2) rfl B x m rfl HX2.out ?_)
          | (go_at_call 16; refine HTR.out.mono ?_; rintro e w3 ⟨y, rfl, ho, hb3⟩; have HO3 := Lib.hid ho; have HB3 := Lib.hid hb3; clear hb3 ho)
          | (refine wpList_lay_mach rfl (.tmp 5) (.tmp 25) rfl y t _ rfl rfl rfl ?_))
        have hal := (Below.refl w3.heap.size w3).alloc (Nat.le_refl _) (.cells (mc y t) 27)
        have h24 := HB3.out.trans (hal.mono HB3.out.size)
        have HX4 := Lib.hid (HX2.out.kept h24 HX2.out.lt)
        have HT4 := Lib.hid (BoxM.new w3 y t)
        have HO4 := Lib.hid (HO3.out.stay hal)
        have HB4 := Lib.hid (HB2.out.trans (h24.mono (HSZ.out _ HB2.out)))
        obtain ⟨b5, hb5⟩ : ∃ b, Hid (w3.heap.size = b) := ⟨_, Lib.hid rfl⟩
        rw [hb5.out] at HT4 ⊢
        clear hal h24 HO3 HB3 HTR HX2
        generalize w3.alloc (.cells (mc y t) 27) = w4 at *
        clear hb5
        have HTR2 := Lib.hid (trim_any y t w4 HO4.out.mat HTF.out HTRT.out (HTB.out _ HB4.out))
        rw [HTT.out] at HTR2
        go_upto_region 7 with (first
          | (refine wpList_load_mach rfl (.tmp 5) rfl b5 y t rfl HT4.out ?_)
          | (go_at_call 16; refine HTR2.out.mono ?_; rintro e w5 ⟨z, rfl, ho, hb⟩; have HO5 := Lib.hid ho; have HB5 := Lib.hid hb; clear hb ho)
          | (refine wpList_lay_mach rfl (.tmp 7) (.tmp 42) rfl z t _ rfl rfl rfl ?_))
        have hal := (Below.refl w5.heap.size w5).alloc (Nat.le_refl _) (.cells (mc z t) 27)
        have h46 := HB5.out.trans (hal.mono HB5.out.size)
        have HX6 := Lib.hid (HX4.out.kept h46 HX4.out.lt)
        have HT6 := Lib.hid (HT4.out.kept h46 HT4.out.lt)
        have HU6 := Lib.hid (BoxM.new w5 z t)
        have HOT6 := Lib.hid (HO4.out.stay h46)
        have HOU6 := Lib.hid (HO5.out.stay hal)
        have HB6 := Lib.hid (HB4.out.trans (h46.mono (HSZ.out _ HB4.out)))
        obtain ⟨b7, hb7⟩ : ∃ b, Hid (w5.heap.size = b) := ⟨_, Lib.hid rfl⟩
        rw [hb7.out] at HU6 ⊢
        clear hal h46 HO4 HO5 HB5 HTR2 HX4 HT4
        generalize w5.alloc (.cells (mc z t) 27) = w6 at *
        clear hb7
        have HXm := Lib.hid (fun W (h : Below w6.heap.size w6 W) => HX6.out.kept h HX6.out.lt)
        have HXt := Lib.hid (fun W (h : Below w6.heap.size w6 W) => HT6.out.kept h HT6.out.lt)
        have HXu := Lib.hid (fun W (h : Below w6.heap.size w6 W) => HU6.out.kept h HU6.out.lt)
        have HBB := Lib.hid (fun W (h : Below w6.heap.size w6 W) => HB6.out.trans (h.mono (HSZ.out _ HB6.out)))
        have HMm := Lib.hid (fun W (h : Below w6.heap.size w6 W) => HMB.out _ (HBB.out W h))
        have HMt := Lib.hid (fun W (h : Below w6.heap.size w6 W) => HOT6.out.mat.kept h)
        have HMu := Lib.hid (fun W (h : Below w6.heap.size w6 W) => HOU6.out.mat.kept h)
        have HTW := Lib.hid (fun W (h : Below w6.heap.size w6 W) => HTB.out _ (HBB.out W h))
        have hbd : Below w6.heap.size w6 w6.drew := (Below.refl _ _).drew
        have HR1 := Lib.hid (nright_any x m w6.drew (HMm.out _ hbd) HF.out)
        rw [mv_eq, HRI.out] at HR1
        refine region_mix [(false, 0), (true, 1), (false, 2), (false, 3), (false, 4), (true, 5), (false, 6), (false, 7), (false, 8), (false, 9), (false, 10), (false, 11), (false, 12), (false, 13), (false, 14), (true, 15), (false, 16), (false, 17), (false, 18), (false, 19), (false, 20), (false, 22), (false, 23), (true, 21), (true, 24), (false, 25)] (fun w' => Below w6.heap.size w6 w') (by kernel_rfl) (by kernel_rfl) hbd ?_
        simp only [planOps, List.map_cons, List.map_nil, List.getD_cons_zero, List.getD_cons_succ, List.length_cons, List.length_nil, List.drop_succ_cons, List.drop_zero]
        refine mix_seg (seg := [_]) rfl hbd ?_
        intro ι hι F hF
        have fm := Lib.hid (fun n => (HXm.out _ (hF n)))
        have ft := Lib.hid (fun n => (HXt.out _ (hF n)))
        have fu := Lib.hid (fun n => (HXu.out _ (hF n)))
        refine BigFrame.wpQuiet_want rfl (fun K hK => ?_); refine quiet_load_mach _ rfl B x m rfl (fun w' ⟨n, e⟩ => e ▸ fm.out n) ?_; refine hK _ ?_; clear hK K; simp only [Act.put, List.setIfInBounds_toArray, List.set_cons_zero, List.set_cons_succ]
        refine wpQuiet_nil ?_
        clear fm ft fu hF hι F
        refine mix_eff (fun K hK => ?_)
        go_wp2_with (go_at_call 11; refine HR1.out.mono ?_; rintro e w7 ⟨rfl, hb⟩; have HB7 := Lib.hid (hbd.trans (hb.mono hbd.size)); clear hb)
        refine mix_on hK HB7.out ?_
        clear hK K HR1
        have HR2 := Lib.hid (nright_any y t w7 (HMt.out _ HB7.out) HTF.out)
        rw [mv_eq, (right_iff t).2 HTRT.out] at HR2
        refine mix_seg (seg := [_, _, _]) rfl HB7.out ?_
        intro ι hι F hF
        have fm := Lib.hid (fun n => (HXm.out _ (hF n)))
        have ft := Lib.hid (fun n => (HXt.out _ (hF n)))
        have fu := Lib.hid (fun n => (HXu.out _ (hF n)))
        iterate 2 (go_big_quiet_step (fail))
        refine BigFrame.wpQuiet_want rfl (fun K hK => ?_); refine quiet_load_mach _ rfl b5 y t rfl (fun w' ⟨n, e⟩ => e ▸ ft.out n) ?_; refine hK _ ?_; clear hK K; simp only [Act.put, List.setIfInBounds_toArray, List.set_cons_zero, List.set_cons_succ]
        refine wpQuiet_nil ?_
        clear fm ft fu hF hι F
        refine mix_eff (fun K hK => ?_)
        go_wp2_with (go_at_call 11; refine HR2.out.mono ?_; rintro e w8 ⟨rfl, hb⟩; have HB8 := Lib.hid (HB7.out.trans (hb.mono HB7.out.size)); clear hb)
        refine mix_on hK HB8.out ?_
        clear hK K HR2
        have HR3 := Lib.hid (nsame_any y z t t w8 (HMt.out _ HB8.out) (HMu.out _ HB8.out) HTF.out HTF.out)
        rw [same_id] at HR3
        refine mix_seg (seg := [_, _, _, _, _, _, _, _, _]) rfl HB8.out ?_
        intro ι hι F hF
        have fm := Lib.hid (fun n => (HXm.out _ (hF n)))
        have ft := Lib.hid (fun n => (HXt.out _ (hF n)))
        have fu := Lib.hid (fun n => (HXu.out _ (hF n)))
        iterate 7 (go_big_quiet_step (fail))
        refine BigFrame.wpQuiet_want rfl (fun K hK => ?_); refine quiet_load_mach _ rfl b5 y t rfl (fun w' ⟨n, e⟩ => e ▸ ft.out n) ?_; refine hK _ ?_; clear hK K; simp only [Act.put, List.setIfInBounds_toArray, List.set_cons_zero, List.set_cons_succ]
        refine BigFrame.wpQuiet_want rfl (fun K hK => ?_); refine quiet_load_mach _ rfl b7 z t rfl (fun w' ⟨n, e⟩ => e ▸ fu.out n) ?_; refine hK _ ?_; clear hK K; simp only [Act.put, List.setIfInBounds_toArray, List.set_cons_zero, List.set_cons_succ]
        refine wpQuiet_nil ?_
        clear fm ft fu hF hι F
        refine mix_eff (fun K hK => ?_)
        go_wp2_with (go_at_call 18; refine HR3.out.mono ?_; rintro e w9 ⟨rfl, hb⟩; have HB9 := Lib.hid (HB8.out.trans (hb.mono HB8.out.size)); clear hb)
        refine mix_on hK HB9.out ?_
        clear hK K HR3
        have HR4 := Lib.hid (nrun_any y t s w9 (HMt.out _ HB9.out) HTF.out HS.out (HTW.out _ HB9.out))
        rw [HTK.out] at HR4
        refine mix_seg (seg := [_, _, _, _, _, _, _]) rfl HB9.out ?_
        intro ι hι F hF
        have fm := Lib.hid (fun n => (HXm.out _ (hF n)))
        have ft := Lib.hid (fun n => (HXt.out _ (hF n)))
        have fu := Lib.hid (fun n => (HXu.out _ (hF n)))
        iterate 3 (go_big_quiet_step (fail))
        refine BigFrame.wpQuiet_want rfl (fun K hK => ?_); refine quiet_load_mach _ rfl b5 y t rfl (fun w' ⟨n, e⟩ => e ▸ ft.out n) ?_; refine hK _ ?_; clear hK K; simp only [Act.put, List.setIfInBounds_toArray, List.set_cons_zero, List.set_cons_succ]
        iterate 1 (go_big_quiet_step (fail))
        refine BigFrame.wpQuiet_want rfl (fun K hK => ?_); refine quiet_load_mach _ rfl B x m rfl (fun w' ⟨n, e⟩ => e ▸ fm.out n) ?_; refine hK _ ?_; clear hK K; simp only [Act.put, List.setIfInBounds_toArray, List.set_cons_zero, List.set_cons_succ]
        iterate 1 (go_big_quiet_step (fail))
        refine wpQuiet_nil ?_
        clear fm ft fu hF hι F
        refine mix_eff (fun K hK => ?_)
        go_wp2_with (go_at_call 13; refine HR4.out.mono ?_; rintro e w10 ⟨rfl, hb⟩; have HB10 := Lib.hid (HB9.out.trans (hb.mono HB9.out.size)); clear hb)
        refine mix_on hK HB10.out ?_
        clear hK K HR4
        have HR5 := Lib.hid (nrun_any x m s w10 (HMm.out _ HB10.out) HF.out HS.out (HTW.out _ HB10.out))
        generalize takesM m (bs s) = tk at *
        refine mix_eff (fun K hK => ?_)
        go_wp2_with (go_at_call 13; refine HR5.out.mono ?_; rintro e w11 ⟨rfl, hb⟩; have HB11 := Lib.hid (HB10.out.trans (hb.mono HB10.out.size)); clear hb)
        refine mix_on hK HB11.out ?_
        clear hK K HR5
        have hne : (tk != tk) = false := by simp
        refine mix_seg (seg := [_]) (rest := []) rfl HB11.out ?_
        intro ι hι F hF
        iterate 1 (go_big_quiet_step (fail))
        refine wpQuiet_nil ?_
        clear hF hι F
        show wpList _ _ _ _ _ _
        go_wp2_with fail
        refine NoPanic.normal ?_
        have HCP := Lib.hid (caps_of HOT6.out.fi)
        have HCA := Lib.hid (fun W (h : Below w6.heap.size w6 W) => HOT6.out.caps.kept h)
        have HSB : Hid (∀ W, Below w6.heap.size w6 W → w6.heap.size ≤ W.heap.size) := Lib.hid (fun W h => h.size)
        clear hne hbd
        go_wp2_with fail
        go_loopw [9, 10, 11, 12, 13] (fun i _ _ _ _ wr => ∃ j : Nat, i = .int .i64 j ∧ j ≤ t.sp.length ∧ Hid (Below w6.heap.size w6 wr)) (fun i _ _ _ _ _ => ((t.sp.length : Int) - intOf i).toNat)
        case atStart => exact ⟨0, rfl, Nat.zero_le _, HB11⟩
        case round =>
          clear HB7 HB8 HB9 HB10 HB11 w7 w8 w9 w10
          obtain ⟨j, rfl, hj, HBr⟩ := hrel
          generalize hwr : wr = w12 at *
          clear hwr wr w11
          have HX12 := Lib.hid (HXt.out _ HBr.out)
          have c0 := HX12.out.c0
          have c1 := HX12.out.c1
          by_cases hlt : j < t.sp.length
          · have hdd : decide ((j : Int) < (t.sp.length : Int)) = true := decide_eq_true (by omega)
            have hd2 : decide (j < t.sp.length) = true := decide_eq_true hlt
            have HJ := Lib.hid hlt
            have HW1 : Hid (wrap64 ((j : Int) + 1) = ((j + 1 : Nat) : Int)) := Lib.hid (nat_wrap (by have := HTF.out.sp; omega))
            have HWY := Lib.hid (way_ok y t w12 (HMt.out _ HBr.out) HTF.out HTRT.out (fun k hk => (HTS.out k hk).1) y.fa y.fc t.fi (HMt.out _ HBr.out).fi HCP.out HTRT.out.fiR HTF.out.fi j hlt (HTW.out _ HBr.out) (co_rch (HTS.out j hlt).2.1))
            clear hlt
            go_upto_region 13 with (first
              | (refine wpList_load_mach rfl (.tmp 5) rfl b5 y t rfl HX12.out ?_)
              | (go_at_call 23; refine HWY.out.mono ?_; rintro e w13 ⟨⟨p, rfl, hp, hps⟩, hb⟩; have HPT := Lib.hid hp; have HPS := Lib.hid hps; have HB13 := Lib.hid (HBr.out.trans (hb.mono HBr.out.size)); clear hb hp hps HWY c0 c1))
            have HX13 := Lib.hid (HXt.out _ HB13.out)
            have HGO := Lib.hid (goes_any y t w13 (HMt.out _ HB13.out) (HCA.out _ HB13.out) HTF.out HTRT.out (fun k hk => (HTS.out k hk).1) j HJ.out (HTS.out j HJ.out).2.2 (HTW.out _ HB13.out))
            go_upto_region 14 with (first
              | (refine wpList_load_mach rfl (.tmp 5) rfl b5 y t rfl HX13.out ?_)
              | (go_at_call 24; refine HGO.out.mono ?_; rintro e w14 ⟨⟨q, rfl, hq, hqs⟩, hb⟩; have HQG := Lib.hid hq; have HQS := Lib.hid hqs; have HB14 := Lib.hid (HB13.out.trans (hb.mono HB13.out.size)); clear hb hq hqs HGO))
            have HTA : Hid (takesM t (bs (p ++ q)) = true) := Lib.hid (by rw [bs_app]; exact HPT.out.takes HQG.out HTRT.out)
            have HMA : Hid (takesM m (bs (p ++ q)) = true) := Lib.hid (by rw [← HTK.out]; exact HTA.out)
            have HSI : Hid ((p ++ q).size ≤ 1000) := Lib.hid (by rw [ByteArray.size_append]; have h1 := HPS.out; have h2 := HQS.out; have h3 := HTRT.out.many; omega)
            have hno := no_ovr p q (by have h1 := HPS.out; have h2 := HQS.out; have h3 := HTRT.out.many; omega)
            have HX14 := Lib.hid (HXt.out _ HB14.out)
            have HRN := Lib.hid (nrun_any y t (p ++ q) w14 (HMt.out _ HB14.out) HTF.out HSI.out (HTW.out _ HB14.out))
            rw [HTA.out] at HRN
            have HRM := Lib.hid (fun W (h : Below w6.heap.size w6 W) => nrun_any x m (p ++ q) W (HMm.out _ h) HF.out HSI.out (HTW.out _ h))
            rw [HMA.out] at HRM
            clear HPT HQG HTA HMA HSI
            go_wp2_with (first
              | (refine BigFrame.wpList_want rfl (fun K' hK' => ?_); refine wp_load_mach (.tmp 5) rfl b5 y t rfl HX14.out ?_; refine hK' _ _ ?_; clear hK' K')
              | (go_at_call 13; refine HRN.out.mono ?_; rintro e w15 ⟨rfl, hb⟩; have HB15 := Lib.hid (HB14.out.trans (hb.mono HB14.out.size)); clear hb HRN; have HX15 := Lib.hid (HXm.out _ HB15.out); have HRM2 := Lib.hid (HRM.out _ HB15.out))
              | (refine BigFrame.wpList_want rfl (fun K' hK' => ?_); refine wp_load_mach (.tmp 2) rfl B x m rfl HX15.out ?_; refine hK' _ _ ?_; clear hK' K')
              | (go_at_call 13; refine HRM2.out.mono ?_; rintro e w16 ⟨rfl, hb⟩; have HB16 := Lib.hid (HB15.out.trans (hb.mono HB15.out.size)); clear hb HRM2))
            go_roundw
            case rel => exact ⟨j + 1, by rw [HW1.out], HJ.out, HB16⟩
            case measure => rw [HW1.out]; have := HJ.out; simp only [intOf]; omega
          · have hdd : decide ((j : Int) < (t.sp.length : Int)) = false := decide_eq_false (by omega)
            have hd2 : decide (j < t.sp.length) = false := decide_eq_false hlt
            have HAG := Lib.hid (HAW.out _ (HBB.out _ HBr.out))
            clear hlt
            go_wp2_with (go_at_call 10; refine HAG.out.mono ?_; rintro e w16 ⟨rfl, hb⟩; have HBH := Lib.hid ((HBB.out _ HBr.out).trans (hb.mono (HSZ.out _ (HBB.out _ HBr.out)))); clear hb)
            go_ret
            exact ⟨rfl, by rw [HBq.out]; exact HBH.out⟩
end Nf
end Go.Proofs.YtkpdggemhjhnbaaDoor
