/- The document's Single: true just if the machine is single-valued. -/
import Derived.Test.YtghbgfkkdknmnaaDoorPqL6
namespace Go.Proofs.YtghbgfkkdknmnaaDoor
open Go.RowKit Sets Nf Fs
namespace Ft
set_option maxHeartbeats 12800000 in
set_option maxRecDepth 100000 in
theorem single14_any (x : Ma) (m : Mc) (w : World) (h : MAt w x m) (hf : Fine m) :
    Calls Tryd.prog 18 #[.agg (mc x m)] w fun e w' => ∃ b : Bool, e = .returned (.bool b) ∧ (b = true ↔ Sv m) ∧ Below w.heap.size w w' := by
  have HM := Lib.hid h
  have HF := Lib.hid hf
  clear h hf
  go_enter Tryd.func18, Tryd.ntmps18
  go_upto_region 1 with fail
  have HX := Lib.hid (BoxM.new w x m)
  have HB := Lib.hid ((Below.refl w.heap.size w).alloc (Nat.le_refl _) (.cells (mc x m) 27))
  have HZ : Hid ((w.alloc (.cells (mc x m) 27)).heap.size = w.heap.size + 1) := Lib.hid (by simp)
  obtain ⟨B, hBq⟩ : ∃ B, Hid (w.heap.size = B) := ⟨_, Lib.hid rfl⟩
  rw [hBq.out] at HX HB HZ ⊢
  generalize w.alloc (.cells (mc x m) 27) = w1 at *
  have HMW := Lib.hid (fun w' (h : Below B w w') => HM.out.kept (by rw [hBq.out]; exact h))
  have HR := Lib.hid (rright_any x m w1 (HMW.out w1 HB.out) HF.out)
  cases hr : rightM m with
  | false =>
    rw [hr] at HR
    have HNR : Hid (¬ Sv m) := Lib.hid (fun h => by have := (right_iff m).2 h.right; rw [hr] at this; cases this)
    clear hr
    go_wp2_with (first
      | (refine wpList_load_mach rfl (.tmp 1) rfl B x m rfl HX.out ?_)
      | (go_at_call 32; refine HR.out.mono ?_; rintro e w2 ⟨rfl, hb⟩; have HB2 := Lib.hid (HB.out.trans (hb.mono (by rw [HZ.out]; omega))); clear hb))
    go_ret
    exact ⟨false, rfl, ⟨fun h => (by cases h), fun h => absurd h HNR.out⟩, by rw [hBq.out]; exact HB2.out⟩
  | true =>
    rw [hr] at HR
    have HRT := Lib.hid ((right_iff m).1 hr)
    clear hr
    go_upto_region 3 with (first
      | (refine wpList_load_mach rfl (.tmp 1) rfl B x m rfl HX.out ?_)
      | (go_at_call 32; refine HR.out.mono ?_; rintro e w2 ⟨rfl, hb⟩; have HX2 := Lib.hid (bxStay HX.out hb); have HB2 := Lib.hid (HB.out.trans (hb.mono (by rw [HZ.out]; omega))); have HZ2 : Hid (B + 1 ≤ w2.heap.size) := Lib.hid (by rw [← HZ.out]; exact hb.size); clear hb))
    clear HX HB HZ HR w1
    have c0 := HX2.out.c0
    have HNL : Hid (m.sp.length ≤ 1000) := Lib.hid HF.out.sp
    have HG1 := Lib.hid (grid_any m.sp.length w2 HNL.out)
    go_upto_region 5 with (go_at_call 33; refine HG1.out.mono ?_; rintro e w3 ⟨O1, k1, b1, rfl, hg, hb⟩; have HA3 := Lib.hid hg; have HB3 := Lib.hid hb; clear hg hb)
    clear c0 HG1
    have HG1 := Lib.hid (grid_any m.sp.length w3 HNL.out)
    go_upto_region 6 with (go_at_call 33; refine HG1.out.mono ?_; rintro e w4 ⟨O2, k2, b2, rfl, hg, hb⟩; have HA4 := Lib.hid hg; have HB4 := Lib.hid hb; clear hg hb)
    clear HG1
    have HG1 := Lib.hid (grid_any m.sp.length w4 HNL.out)
    go_upto_region 7 with (go_at_call 33; refine HG1.out.mono ?_; rintro e w5 ⟨O3, k3, b3, rfl, hg, hb⟩; have HA5 := Lib.hid hg; have HB5 := Lib.hid hb; clear hg hb)
    clear HG1
    obtain ⟨s, hs⟩ : ∃ s, Hid (w2.heap.size = s) := ⟨_, Lib.hid rfl⟩
    have HG3 : Hid (G3 s m.sp.length O1 O2 O3 b1 b2 b3 (fun _ _ => false) (fun _ _ => false) (fun _ _ => false) w5) := Lib.hid (by
      have l3 := HB3.out.size
      have l4 := HB4.out.size
      have g1 := HA3.out.stay (HB4.out.trans (HB5.out.mono l4))
      have g2 := HA4.out.stay HB5.out
      refine ⟨?_, ?_, ?_, fun i k hi hk e => ?_, fun i k hi hk e => ?_, fun i k hi hk e => ?_⟩
      · rw [← hs.out]; exact g1
      · exact ⟨g2.out, g2.row, g2.inj, fun i hi => by rw [← hs.out]; exact Nat.le_trans l3 (g2.low i hi)⟩
      · exact ⟨HA5.out.out, HA5.out.row, HA5.out.inj, fun i hi => by rw [← hs.out]; exact Nat.le_trans (Nat.le_trans l3 l4) (HA5.out.low i hi)⟩
      · have h1 := HA3.out.lt hi
        have h2 := HA4.out.low k hk
        omega
      · have h1 := HA3.out.lt hi
        have h2 := HA5.out.low k hk
        omega
      · have h1 := HA4.out.lt hi
        have h2 := HA5.out.low k hk
        omega)
    have HB25 : Hid (Below s w2 w5) := Lib.hid (by rw [← hs.out]; exact HB3.out.trans ((HB4.out.trans (HB5.out.mono HB4.out.size)).mono HB3.out.size))
    have HS5 : Hid (s ≤ w5.heap.size) := Lib.hid (by rw [← hs.out]; exact Nat.le_trans HB3.out.size (Nat.le_trans HB4.out.size HB5.out.size))
    have HKE : Hid (∀ W, Below s w2 W → BoxM W B x m ∧ MAt W x m ∧ Below B w W) := Lib.hid (fun W hW => by
      have h1 := HB2.out.trans (hW.mono (by rw [← hs.out]; have := HZ2.out; omega))
      exact ⟨HX2.out.kept hW (by rw [← hs.out]; have := HZ2.out; omega), HMW.out _ h1, h1⟩)
    clear HA3 HA4 HA5 HB3 HB4 HB5 HX2 HB2 HZ2
    clear w3 w4
    go_upto_region 8 with fail
    go_loopw [7] (fun i wr => ∃ (a : Nat) (M C G : Nat → Nat → Bool), i = .int .i64 a ∧ a ≤ m.sp.length ∧ Hid (G3 s m.sp.length O1 O2 O3 b1 b2 b3 M C G wr) ∧ Hid (Ii m a 0 M C G) ∧ Hid (Below s w2 wr)) (fun i _ => ((m.sp.length : Int) - intOf i).toNat)
    case atStart => exact ⟨0, _, _, _, rfl, Nat.zero_le _, HG3, Lib.hid (Ii.start m _ _ _), HB25⟩
    case round =>
      obtain ⟨a, M, C, G, rfl, ha, HG, HI, HBE⟩ := hrel
      generalize hwr : wr = w6 at *
      clear hwr wr HG3 HB25 HS5 w5
      by_cases hlt : a < m.sp.length
      · have hdd : decide ((a : Int) < (m.sp.length : Int)) = true := decide_eq_true (by omega)
        have hd2 : decide (a < m.sp.length) = true := decide_eq_true hlt
        have hai : (a : Int) < (m.sp.length : Int) := by omega
        have HW1 : Hid (wrap64 ((a : Int) + 1) = ((a + 1 : Nat) : Int)) := Lib.hid (nat_wrap (by have := HNL.out; omega))
        have HA := Lib.hid hlt
        clear hlt
        go_upto_region 11 with fail
        go_loopw [8] (fun i wr => ∃ (b : Nat) (M C G : Nat → Nat → Bool), i = .int .i64 b ∧ b ≤ m.sp.length ∧ Hid (G3 s m.sp.length O1 O2 O3 b1 b2 b3 M C G wr) ∧ Hid (Ii m a b M C G) ∧ Hid (Below s w2 wr)) (fun i _ => ((m.sp.length : Int) - intOf i).toNat)
        case atStart => exact ⟨0, M, C, G, rfl, Nat.zero_le _, HG, HI, HBE⟩
        case round =>
          clear HG HI HBE M C G
          obtain ⟨b, M, C, G, rfl, hb, HG, HI, HBE⟩ := hrel
          generalize hwr : wr = w7 at *
          clear hwr wr
          by_cases hlt : b < m.sp.length
          · have hdd3 : decide ((b : Int) < (m.sp.length : Int)) = true := decide_eq_true (by omega)
            have hd4 : decide (b < m.sp.length) = true := decide_eq_true hlt
            have hbi : (b : Int) < (m.sp.length : Int) := by omega
            have HW2 : Hid (wrap64 ((b : Int) + 1) = ((b + 1 : Nat) : Int)) := Lib.hid (nat_wrap (by have := HNL.out; omega))
            have HBB := Lib.hid hlt
            clear hlt
            have HK7 := Lib.hid (HKE.out _ HBE.out)
            obtain ⟨sb, so, hsa, hra⟩ := HK7.out.2.1.sp a HA.out
            obtain ⟨sb2, so2, hsa2, hrb⟩ := HK7.out.2.1.sp b HBB.out
            rw [hsa] at hsa2
            injection hsa2 with hsa2
            injection hsa2 with e1 e2
            subst e1; subst e2
            have c0 := HK7.out.1.c0
            rw [hsa] at c0
            have HSA := Lib.hid hsa
            clear hsa
            have HRA : Hid (w7.rangeAt sb (so + a * 5) (setC (stN m a)).toList) := Lib.hid (spot_set hra)
            have HRB : Hid (w7.rangeAt sb (so + b * 5) (setC (stN m b)).toList) := Lib.hid (spot_set hrb)
            have HSL : Hid (sb < w7.heap.size) := Lib.hid (World.block_lt_of_cell? _ _ (hra 4 _ rfl))
            clear hra hrb
            obtain ⟨q1, k4, e1, hc1, hc2, hfr1⟩ := HG.out.m.at HA.out HBB.out
            subst e1
            have HQ1 := Lib.hid (World.block_lt_of_cell? _ _ hc1)
            have HME := Lib.hid (meet14_any (stN m a) (stN m b) w7.drew)
            go_upto_region 13 with fail
            refine region_mix [(false, 0), (false, 1), (false, 2), (false, 3), (false, 4), (false, 5), (false, 6), (false, 7), (false, 8), (false, 9), (false, 10), (false, 11), (false, 12), (false, 13), (false, 14), (false, 15), (false, 16), (true, 17), (false, 18)] (fun w' => Below w7.heap.size w7 w') (by kernel_rfl) (by kernel_rfl) ((Below.refl _ _).drew) ?_
            simp only [planOps, List.map_cons, List.map_nil, List.getD_cons_zero, List.getD_cons_succ, List.length_cons, List.length_nil, List.drop_succ_cons, List.drop_zero]
            refine mix_seg (seg := [_, _, _, _, _, _, _, _, _, _, _, _, _, _, _, _, _]) (rest := [_, _]) rfl ((Below.refl _ _).drew) ?_
            intro ι hι F hF
            have f1 := fun n => ((hF n).cell (p := ⟨B, 0, none⟩) HK7.out.1.lt).trans c0
            have f2 := fun n => ((hF n).cell (p := ⟨q1, a, none⟩) HQ1.out).trans hc1
            have f3 := Lib.hid (fun n => range_kept HRA.out (hF n) HSL.out)
            have f4 := Lib.hid (fun n => range_kept HRB.out (hF n) HSL.out)
            iterate 10 (go_big_quiet_step (fail))
            refine BigFrame.wpQuiet_want rfl (fun K hK => ?_); refine quiet_load_mid 41 _ rfl sb (so + a * 5) (by first | rfl | (simp; done)) (setC (stN m a)).toList _ (fun w' ⟨n, e⟩ => e ▸ f3.out n) Tryd.underlying41 rfl (sizeSetL _) ?_; refine hK _ ?_; clear hK K; simp only [Act.put, List.setIfInBounds_toArray, List.set_cons_zero, List.set_cons_succ]
            rw [show (setC (stN m a)).toList.toArray = setC (stN m a) from rfl]
            iterate 5 (go_big_quiet_step (fail))
            refine BigFrame.wpQuiet_want rfl (fun K hK => ?_); refine quiet_load_mid 41 _ rfl sb (so + b * 5) (by first | rfl | (simp; done)) (setC (stN m b)).toList _ (fun w' ⟨n, e⟩ => e ▸ f4.out n) Tryd.underlying41 rfl (sizeSetL _) ?_; refine hK _ ?_; clear hK K; simp only [Act.put, List.setIfInBounds_toArray, List.set_cons_zero, List.set_cons_succ]
            rw [show (setC (stN m b)).toList.toArray = setC (stN m b) from rfl]
            refine wpQuiet_nil ?_
            clear f1 f2 f3 f4 hF hι F HRA HRB HSL hc1 hc2 hfr1
            refine mix_eff (fun K hK => ?_)
            have HD7 : Hid (Below w7.heap.size w7 w7.drew) := Lib.hid ((Below.refl _ _).drew)
            go_wp2_with (go_at_call 34; refine HME.out.mono ?_; rintro e w8 ⟨⟨bo, rfl, hbo⟩, hb⟩; have HBO := Lib.hid (hbo.trans (bo_iff HF.out HA.out)); have HB8 := Lib.hid (HD7.out.trans (hb.mono (Nat.le_refl _))); clear hb hbo)
            refine mix_on hK HB8.out ?_
            clear hK K HME
            refine mix_seg (seg := [_]) (rest := []) rfl HB8.out ?_
            intro ι hι F hF
            iterate 1 (go_big_quiet_step (fail))
            refine wpQuiet_nil ?_
            clear hF hι F
            show wpList _ _ _ _ _ _
            have HG8 := Lib.hid (HG.out.stay HB8.out)
            have HBE8 := Lib.hid (HBE.out.trans (HB8.out.mono (by rw [← hs.out]; exact HBE.out.size)))
            have hc3 := World.rowIs.cell (HG8.out.m.row a HA.out) HBB.out
            have hfr3 := World.rowIs.frozen (HG8.out.m.row a HA.out) b
            go_wp2_with fail
            refine NoPanic.normal ?_
            have HS8 : Hid (s ≤ w8.heap.size) := Lib.hid (by rw [← hs.out]; exact HBE8.out.size)
            have HG9 := Lib.hid (HG8.out.setM HA.out b bo)
            have HBE9 := Lib.hid (below_set HBE8.out (HG8.out.m.low a HA.out) HS8.out b (.bool bo))
            have HS9 : Hid (s ≤ (w8.setCell ⟨b1 a, b, none⟩ (.bool bo)).heap.size) := Lib.hid (by rw [World.size_setCell]; exact HS8.out)
            generalize w8.setCell ⟨b1 a, b, none⟩ (.bool bo) = w9 at *
            clear HG HQ1 HD7 HB8 HG8 HBE8 hc3 hfr3 HK7 HBE HS8 c0 HSA w8 w7
            have HK9 := Lib.hid (HKE.out _ HBE9.out)
            have cc1 := HK9.out.1.c1
            obtain ⟨q1', k6, e1, cc2, cc3, -⟩ := HG9.out.m.at HA.out HBB.out
            injection e1 with e1
            injection e1 with e1
            subst e1
            rw [u2_same] at cc3
            obtain ⟨q2, k7, e2, cc4, cc5, hfr5⟩ := HG9.out.c.at HA.out HBB.out
            subst e2
            have HDA : Hid (Below w9.heap.size w9 w9.drew) := Lib.hid ((Below.refl _ _).drew)
            have HH1 := Lib.hid (has14_any x.fa x.fc (a : Int) m.fi w9.drew (HK9.out.2.1.fi.kept HDA.out) HF.out.fi)
            have HH2 := Lib.hid (has14_any x.fa x.fc (b : Int) m.fi w9.drew (HK9.out.2.1.fi.kept HDA.out) HF.out.fi)
            obtain ⟨fa, hfa⟩ : ∃ fa, Hid (m.fi.contains (a : Int) = fa) := ⟨_, Lib.hid rfl⟩
            obtain ⟨fb, hfb⟩ : ∃ fb, Hid (m.fi.contains (b : Int) = fb) := ⟨_, Lib.hid rfl⟩
            have HFA := Lib.hid (fi_has HRT.out a)
            have HFB := Lib.hid (fi_has HRT.out b)
            rw [hfa.out] at HH1 HFA
            rw [hfb.out] at HH2 HFB
            go_upto_region 14 with fail
            have hcase : bo = false ∨ (bo = true ∧ fa = false) ∨ (bo = true ∧ fa = true) := by
              cases bo
              · exact .inl rfl
              · cases fa
                · exact .inr (.inl ⟨rfl, rfl⟩)
                · exact .inr (.inr ⟨rfl, rfl⟩)
            rcases hcase with rfl | ⟨rfl, rfl⟩ | ⟨rfl, rfl⟩
            ·
              as_aux_lemma =>
                refine region_mix [(false, 0), (false, 1), (false, 2), (false, 3), (false, 4), (false, 5), (false, 6), (false, 7), (false, 8), (false, 9), (false, 10), (false, 11), (false, 12), (false, 13), (false, 14), (false, 15), (true, 16), (false, 17), (false, 18), (false, 19), (false, 20), (false, 21), (true, 22), (false, 23), (false, 24)] (fun w' => w' = w9.drew) (by kernel_rfl) (by kernel_rfl) rfl ?_
                simp only [planOps, List.map_cons, List.map_nil, List.getD_cons_zero, List.getD_cons_succ, List.length_cons, List.length_nil, List.drop_succ_cons, List.drop_zero]
                refine mix_seg (seg := [_, _, _, _, _, _, _, _, _, _, _, _, _, _, _, _]) rfl rfl ?_
                intro ι hι F hF
                have f1 : ∀ n, (F n).cell? ⟨B, 1, none⟩ = some (.slice x.fa m.fi.length x.fc) := fun n => by rw [hF n]; exact cc1
                have f2 : ∀ n, (F n).cell? ⟨q1, a, none⟩ = some (.slice (some ⟨b1 a, 0, none⟩) m.sp.length k6) := fun n => by rw [hF n]; exact cc2
                have f3 : ∀ n, (F n).cell? ⟨b1 a, b, none⟩ = some (.bool false) := fun n => by rw [hF n]; exact cc3
                have f4 : ∀ n, (F n).cell? ⟨q2, a, none⟩ = some (.slice (some ⟨b2 a, 0, none⟩) m.sp.length k7) := fun n => by rw [hF n]; exact cc4
                iterate 16 (go_big_quiet_step (fail))
                refine wpQuiet_nil ?_
                clear f1 f2 f3 f4 hF hι F
                refine mix_eff (fun K hK => ?_)
                go_wp2_with (go_at_call 35; refine HH1.out.mono ?_; rintro e wx ⟨rfl, rfl⟩)
                refine mix_on hK rfl ?_
                clear hK K
                refine mix_seg (seg := [_, _, _, _, _]) rfl rfl ?_
                intro ι hι F hF
                have f1 : ∀ n, (F n).cell? ⟨B, 1, none⟩ = some (.slice x.fa m.fi.length x.fc) := fun n => by rw [hF n]; exact cc1
                iterate 5 (go_big_quiet_step (fail))
                refine wpQuiet_nil ?_
                clear f1 hF hι F
                refine mix_eff (fun K hK => ?_)
                go_wp2_with (go_at_call 35; refine HH2.out.mono ?_; rintro e wx ⟨rfl, rfl⟩)
                refine mix_on hK rfl ?_
                clear hK K
                refine mix_seg (seg := [_, _]) (rest := []) rfl rfl ?_
                intro ι hι F hF
                iterate 2 (go_big_quiet_step (fail))
                refine wpQuiet_nil ?_
                clear hF hι F
                show wpList _ _ _ _ _ _
                go_wp2_with fail
                refine NoPanic.normal ?_
                have HVC : Hid (false = true ↔ Bo m a b ∧ (grp m.fi).testBit a = true ∧ (grp m.fi).testBit b = true) := Lib.hid ⟨fun h => (by cases h), fun h => HBO.out.2 h.1⟩
                have HVM : Hid (false = true ↔ Bo m a b) := Lib.hid (by simpa using HBO.out)
                have HGA := Lib.hid (HG9.out.setC HA.out b false)
                have HGC := Lib.hid (HGA.out.stay ((Below.refl (w9.setCell ⟨b2 a, b, none⟩ (.bool false)).heap.size (w9.setCell ⟨b2 a, b, none⟩ (.bool false))).drew))
                have HBD := Lib.hid ((below_set HBE9.out (HG9.out.c.low a HA.out) HS9.out b (.bool false)).drew)
                have HSD : Hid (s ≤ (w9.setCell ⟨b2 a, b, none⟩ (.bool false)).drew.heap.size) := Lib.hid (by rw [World.size_drew, World.size_setCell]; exact HS9.out)
                generalize (w9.setCell ⟨b2 a, b, none⟩ (.bool false)).drew = w10 at *
                clear HG9 HGA HDA HH1 HH2 HBE9 HS9 HK9 cc1 cc2 cc3 cc4 cc5 hfr5 HBO w9
                have HKA := Lib.hid (HKE.out _ HBD.out)
                obtain ⟨lb, lo, hla, dd6⟩ := HKA.out.2.1.la a (by rw [HRT.out.lal]; exact HA.out)
                obtain ⟨lb2, lo2, hla2, dd7⟩ := HKA.out.2.1.la b (by rw [HRT.out.lal]; exact HBB.out)
                rw [hla] at hla2
                injection hla2 with hla2
                injection hla2 with e1 e2
                subst e1; subst e2
                have dd1 := HKA.out.1.c3
                rw [hla] at dd1
                clear hla
                have hal : (a : Int) < (m.la.length : Int) := by have := HRT.out.lal; have := HA.out; omega
                have hbl : (b : Int) < (m.la.length : Int) := by have := HRT.out.lal; have := HBB.out; omega
                obtain ⟨q1', k8, e1, dd2, dd3, -⟩ := HGC.out.m.at HA.out HBB.out
                injection e1 with e1
                injection e1 with e1
                subst e1
                rw [u2_same] at dd3
                obtain ⟨q3, k9, e2, dd4, dd5, hfr6⟩ := HGC.out.g.at HA.out HBB.out
                subst e2
                obtain ⟨ga, hga⟩ : ∃ ga, Hid (m.la.getD a false = ga) := ⟨_, Lib.hid rfl⟩
                obtain ⟨gb, hgb⟩ : ∃ gb, Hid (m.la.getD b false = gb) := ⟨_, Lib.hid rfl⟩
                rw [hga.out] at dd6
                rw [hgb.out] at dd7
                go_upto_region 15 with fail
                refine region_mix [(false, 0), (false, 1), (false, 2), (false, 3), (false, 4), (false, 5), (false, 6), (false, 7), (false, 8), (false, 9), (false, 10), (false, 11), (false, 12), (false, 13), (false, 14), (false, 15), (false, 16), (false, 17), (false, 18), (false, 19), (false, 20), (false, 21), (false, 22), (false, 23), (false, 24), (false, 25), (false, 26)] (fun w' => w' = w10.drew) (by kernel_rfl) (by kernel_rfl) rfl ?_
                simp only [planOps, List.map_cons, List.map_nil, List.getD_cons_zero, List.getD_cons_succ, List.length_cons, List.length_nil, List.drop_succ_cons, List.drop_zero]
                refine mix_seg (seg := [_, _, _, _, _, _, _, _, _, _, _, _, _, _, _, _, _, _, _, _, _, _, _, _, _, _, _]) (rest := []) rfl rfl ?_
                intro ι hι F hF
                have f1 : ∀ n, (F n).cell? ⟨B, 3, none⟩ = some (.slice (some ⟨lb, lo, none⟩) m.la.length x.lc) := fun n => by rw [hF n]; exact dd1
                have f2 : ∀ n, (F n).cell? ⟨q1, a, none⟩ = some (.slice (some ⟨b1 a, 0, none⟩) m.sp.length k8) := fun n => by rw [hF n]; exact dd2
                have f3 : ∀ n, (F n).cell? ⟨b1 a, b, none⟩ = some (.bool false) := fun n => by rw [hF n]; exact dd3
                have f4 : ∀ n, (F n).cell? ⟨q3, a, none⟩ = some (.slice (some ⟨b3 a, 0, none⟩) m.sp.length k9) := fun n => by rw [hF n]; exact dd4
                have f5 : ∀ n, (F n).cell? ⟨lb, lo + a, none⟩ = some (.bool ga) := fun n => by rw [hF n]; exact dd6
                have f6 : ∀ n, (F n).cell? ⟨lb, lo + b, none⟩ = some (.bool gb) := fun n => by rw [hF n]; exact dd7
                iterate 27 (go_big_quiet_step (fail))
                refine wpQuiet_nil ?_
                clear f1 f2 f3 f4 f5 f6 hF hι F
                show wpList _ _ _ _ _ _
                go_wp2_with fail
                refine NoPanic.normal ?_
                have HVG : Hid (false = true ↔ Bo m a b ∧ m.la.getD a false = true ∧ m.la.getD b false = true) := Lib.hid ⟨fun h => (by cases h), fun h => HVM.out.2 h.1⟩
                have HGD := Lib.hid ((HGC.out.setG HA.out b false).stay ((Below.refl (w10.setCell ⟨b3 a, b, none⟩ (.bool false)).heap.size (w10.setCell ⟨b3 a, b, none⟩ (.bool false))).drew))
                have HBF := Lib.hid ((below_set HBD.out (HGC.out.g.low a HA.out) HSD.out b (.bool false)).drew)
                go_wp2_with fail
                go_roundw
                case rel => exact ⟨b + 1, _, _, _, by rw [HW2.out], HBB.out, HGD, Lib.hid (HI.out.next (by simpa using HVM.out) (by simpa using HVC.out) (by simpa using HVG.out)), HBF⟩
                case measure => rw [HW2.out]; have := HBB.out; simp only [intOf]; omega
            ·
              as_aux_lemma =>
                refine region_mix [(false, 0), (false, 1), (false, 2), (false, 3), (false, 4), (false, 5), (false, 6), (false, 7), (false, 8), (false, 9), (false, 10), (false, 11), (false, 12), (false, 13), (false, 14), (false, 15), (true, 16), (false, 17), (false, 18), (false, 19), (false, 20), (false, 21), (true, 22), (false, 23), (false, 24)] (fun w' => w' = w9.drew) (by kernel_rfl) (by kernel_rfl) rfl ?_
                simp only [planOps, List.map_cons, List.map_nil, List.getD_cons_zero, List.getD_cons_succ, List.length_cons, List.length_nil, List.drop_succ_cons, List.drop_zero]
                refine mix_seg (seg := [_, _, _, _, _, _, _, _, _, _, _, _, _, _, _, _]) rfl rfl ?_
                intro ι hι F hF
                have f1 : ∀ n, (F n).cell? ⟨B, 1, none⟩ = some (.slice x.fa m.fi.length x.fc) := fun n => by rw [hF n]; exact cc1
                have f2 : ∀ n, (F n).cell? ⟨q1, a, none⟩ = some (.slice (some ⟨b1 a, 0, none⟩) m.sp.length k6) := fun n => by rw [hF n]; exact cc2
                have f3 : ∀ n, (F n).cell? ⟨b1 a, b, none⟩ = some (.bool true) := fun n => by rw [hF n]; exact cc3
                have f4 : ∀ n, (F n).cell? ⟨q2, a, none⟩ = some (.slice (some ⟨b2 a, 0, none⟩) m.sp.length k7) := fun n => by rw [hF n]; exact cc4
                iterate 16 (go_big_quiet_step (fail))
                refine wpQuiet_nil ?_
                clear f1 f2 f3 f4 hF hι F
                refine mix_eff (fun K hK => ?_)
                go_wp2_with (go_at_call 35; refine HH1.out.mono ?_; rintro e wx ⟨rfl, rfl⟩)
                refine mix_on hK rfl ?_
                clear hK K
                refine mix_seg (seg := [_, _, _, _, _]) rfl rfl ?_
                intro ι hι F hF
                have f1 : ∀ n, (F n).cell? ⟨B, 1, none⟩ = some (.slice x.fa m.fi.length x.fc) := fun n => by rw [hF n]; exact cc1
                iterate 5 (go_big_quiet_step (fail))
                refine wpQuiet_nil ?_
                clear f1 hF hι F
                refine mix_eff (fun K hK => ?_)
                go_wp2_with (go_at_call 35; refine HH2.out.mono ?_; rintro e wx ⟨rfl, rfl⟩)
                refine mix_on hK rfl ?_
                clear hK K
                refine mix_seg (seg := [_, _]) (rest := []) rfl rfl ?_
                intro ι hι F hF
                iterate 2 (go_big_quiet_step (fail))
                refine wpQuiet_nil ?_
                clear hF hι F
                show wpList _ _ _ _ _ _
                go_wp2_with fail
                refine NoPanic.normal ?_
                have HVC : Hid (false = true ↔ Bo m a b ∧ (grp m.fi).testBit a = true ∧ (grp m.fi).testBit b = true) := Lib.hid ⟨fun h => (by cases h), fun h => HFA.out.2 h.2.1⟩
                have HVM : Hid (true = true ↔ Bo m a b) := Lib.hid (by simpa using HBO.out)
                have HGA := Lib.hid (HG9.out.setC HA.out b false)
                have HGC := Lib.hid (HGA.out.stay ((Below.refl (w9.setCell ⟨b2 a, b, none⟩ (.bool false)).heap.size (w9.setCell ⟨b2 a, b, none⟩ (.bool false))).drew))
                have HBD := Lib.hid ((below_set HBE9.out (HG9.out.c.low a HA.out) HS9.out b (.bool false)).drew)
                have HSD : Hid (s ≤ (w9.setCell ⟨b2 a, b, none⟩ (.bool false)).drew.heap.size) := Lib.hid (by rw [World.size_drew, World.size_setCell]; exact HS9.out)
                generalize (w9.setCell ⟨b2 a, b, none⟩ (.bool false)).drew = w10 at *
                clear HG9 HGA HDA HH1 HH2 HBE9 HS9 HK9 cc1 cc2 cc3 cc4 cc5 hfr5 HBO w9
                have HKA := Lib.hid (HKE.out _ HBD.out)
                obtain ⟨lb, lo, hla, dd6⟩ := HKA.out.2.1.la a (by rw [HRT.out.lal]; exact HA.out)
                obtain ⟨lb2, lo2, hla2, dd7⟩ := HKA.out.2.1.la b (by rw [HRT.out.lal]; exact HBB.out)
                rw [hla] at hla2
                injection hla2 with hla2
                injection hla2 with e1 e2
                subst e1; subst e2
                have dd1 := HKA.out.1.c3
                rw [hla] at dd1
                clear hla
                have hal : (a : Int) < (m.la.length : Int) := by have := HRT.out.lal; have := HA.out; omega
                have hbl : (b : Int) < (m.la.length : Int) := by have := HRT.out.lal; have := HBB.out; omega
                obtain ⟨q1', k8, e1, dd2, dd3, -⟩ := HGC.out.m.at HA.out HBB.out
                injection e1 with e1
                injection e1 with e1
                subst e1
                rw [u2_same] at dd3
                obtain ⟨q3, k9, e2, dd4, dd5, hfr6⟩ := HGC.out.g.at HA.out HBB.out
                subst e2
                obtain ⟨ga, hga⟩ : ∃ ga, Hid (m.la.getD a false = ga) := ⟨_, Lib.hid rfl⟩
                obtain ⟨gb, hgb⟩ : ∃ gb, Hid (m.la.getD b false = gb) := ⟨_, Lib.hid rfl⟩
                rw [hga.out] at dd6
                rw [hgb.out] at dd7
                go_upto_region 15 with fail
                cases ga with
                | false =>
                  refine region_mix [(false, 0), (false, 1), (false, 2), (false, 3), (false, 4), (false, 5), (false, 6), (false, 7), (false, 8), (false, 9), (false, 10), (false, 11), (false, 12), (false, 13), (false, 14), (false, 15), (false, 16), (false, 17), (false, 18), (false, 19), (false, 20), (false, 21), (false, 22), (false, 23), (false, 24), (false, 25), (false, 26)] (fun w' => w' = w10.drew) (by kernel_rfl) (by kernel_rfl) rfl ?_
                  simp only [planOps, List.map_cons, List.map_nil, List.getD_cons_zero, List.getD_cons_succ, List.length_cons, List.length_nil, List.drop_succ_cons, List.drop_zero]
                  refine mix_seg (seg := [_, _, _, _, _, _, _, _, _, _, _, _, _, _, _, _, _, _, _, _, _, _, _, _, _, _, _]) (rest := []) rfl rfl ?_
                  intro ι hι F hF
                  have f1 : ∀ n, (F n).cell? ⟨B, 3, none⟩ = some (.slice (some ⟨lb, lo, none⟩) m.la.length x.lc) := fun n => by rw [hF n]; exact dd1
                  have f2 : ∀ n, (F n).cell? ⟨q1, a, none⟩ = some (.slice (some ⟨b1 a, 0, none⟩) m.sp.length k8) := fun n => by rw [hF n]; exact dd2
                  have f3 : ∀ n, (F n).cell? ⟨b1 a, b, none⟩ = some (.bool true) := fun n => by rw [hF n]; exact dd3
                  have f4 : ∀ n, (F n).cell? ⟨q3, a, none⟩ = some (.slice (some ⟨b3 a, 0, none⟩) m.sp.length k9) := fun n => by rw [hF n]; exact dd4
                  have f5 : ∀ n, (F n).cell? ⟨lb, lo + a, none⟩ = some (.bool false) := fun n => by rw [hF n]; exact dd6
                  have f6 : ∀ n, (F n).cell? ⟨lb, lo + b, none⟩ = some (.bool gb) := fun n => by rw [hF n]; exact dd7
                  iterate 27 (go_big_quiet_step (fail))
                  refine wpQuiet_nil ?_
                  clear f1 f2 f3 f4 f5 f6 hF hι F
                  show wpList _ _ _ _ _ _
                  go_wp2_with fail
                  refine NoPanic.normal ?_
                  have HVG : Hid (false = true ↔ Bo m a b ∧ m.la.getD a false = true ∧ m.la.getD b false = true) := Lib.hid ⟨fun h => (by cases h), fun h => absurd h.2.1 (by rw [hga.out]; decide)⟩
                  have HGD := Lib.hid ((HGC.out.setG HA.out b false).stay ((Below.refl (w10.setCell ⟨b3 a, b, none⟩ (.bool false)).heap.size (w10.setCell ⟨b3 a, b, none⟩ (.bool false))).drew))
                  have HBF := Lib.hid ((below_set HBD.out (HGC.out.g.low a HA.out) HSD.out b (.bool false)).drew)
                  go_wp2_with fail
                  go_roundw
                  case rel => exact ⟨b + 1, _, _, _, by rw [HW2.out], HBB.out, HGD, Lib.hid (HI.out.next (by simpa using HVM.out) (by simpa using HVC.out) (by simpa using HVG.out)), HBF⟩
                  case measure => rw [HW2.out]; have := HBB.out; simp only [intOf]; omega
                | true =>
                  refine region_mix [(false, 0), (false, 1), (false, 2), (false, 3), (false, 4), (false, 5), (false, 6), (false, 7), (false, 8), (false, 9), (false, 10), (false, 11), (false, 12), (false, 13), (false, 14), (false, 15), (false, 16), (false, 17), (false, 18), (false, 19), (false, 20), (false, 21), (false, 22), (false, 23), (false, 24), (false, 25), (false, 26)] (fun w' => w' = w10.drew) (by kernel_rfl) (by kernel_rfl) rfl ?_
                  simp only [planOps, List.map_cons, List.map_nil, List.getD_cons_zero, List.getD_cons_succ, List.length_cons, List.length_nil, List.drop_succ_cons, List.drop_zero]
                  refine mix_seg (seg := [_, _, _, _, _, _, _, _, _, _, _, _, _, _, _, _, _, _, _, _, _, _, _, _, _, _, _]) (rest := []) rfl rfl ?_
                  intro ι hι F hF
                  have f1 : ∀ n, (F n).cell? ⟨B, 3, none⟩ = some (.slice (some ⟨lb, lo, none⟩) m.la.length x.lc) := fun n => by rw [hF n]; exact dd1
                  have f2 : ∀ n, (F n).cell? ⟨q1, a, none⟩ = some (.slice (some ⟨b1 a, 0, none⟩) m.sp.length k8) := fun n => by rw [hF n]; exact dd2
                  have f3 : ∀ n, (F n).cell? ⟨b1 a, b, none⟩ = some (.bool true) := fun n => by rw [hF n]; exact dd3
                  have f4 : ∀ n, (F n).cell? ⟨q3, a, none⟩ = some (.slice (some ⟨b3 a, 0, none⟩) m.sp.length k9) := fun n => by rw [hF n]; exact dd4
                  have f5 : ∀ n, (F n).cell? ⟨lb, lo + a, none⟩ = some (.bool true) := fun n => by rw [hF n]; exact dd6
                  have f6 : ∀ n, (F n).cell? ⟨lb, lo + b, none⟩ = some (.bool gb) := fun n => by rw [hF n]; exact dd7
                  iterate 27 (go_big_quiet_step (fail))
                  refine wpQuiet_nil ?_
                  clear f1 f2 f3 f4 f5 f6 hF hι F
                  show wpList _ _ _ _ _ _
                  go_wp2_with fail
                  refine NoPanic.normal ?_
                  have HVG : Hid (gb = true ↔ Bo m a b ∧ m.la.getD a false = true ∧ m.la.getD b false = true) := Lib.hid ⟨fun h => ⟨HVM.out.1 (by trivial), hga.out, hgb.out.trans h⟩, fun h => hgb.out.symm.trans h.2.2⟩
                  have HGD := Lib.hid ((HGC.out.setG HA.out b gb).stay ((Below.refl (w10.setCell ⟨b3 a, b, none⟩ (.bool gb)).heap.size (w10.setCell ⟨b3 a, b, none⟩ (.bool gb))).drew))
                  have HBF := Lib.hid ((below_set HBD.out (HGC.out.g.low a HA.out) HSD.out b (.bool gb)).drew)
                  go_wp2_with fail
                  go_roundw
                  case rel => exact ⟨b + 1, _, _, _, by rw [HW2.out], HBB.out, HGD, Lib.hid (HI.out.next (by simpa using HVM.out) (by simpa using HVC.out) (by simpa using HVG.out)), HBF⟩
                  case measure => rw [HW2.out]; have := HBB.out; simp only [intOf]; omega
            ·
              as_aux_lemma =>
                refine region_mix [(false, 0), (false, 1), (false, 2), (false, 3), (false, 4), (false, 5), (false, 6), (false, 7), (false, 8), (false, 9), (false, 10), (false, 11), (false, 12), (false, 13), (false, 14), (false, 15), (true, 16), (false, 17), (false, 18), (false, 19), (false, 20), (false, 21), (true, 22), (false, 23), (false, 24)] (fun w' => w' = w9.drew) (by kernel_rfl) (by kernel_rfl) rfl ?_
                simp only [planOps, List.map_cons, List.map_nil, List.getD_cons_zero, List.getD_cons_succ, List.length_cons, List.length_nil, List.drop_succ_cons, List.drop_zero]
                refine mix_seg (seg := [_, _, _, _, _, _, _, _, _, _, _, _, _, _, _, _]) rfl rfl ?_
                intro ι hι F hF
                have f1 : ∀ n, (F n).cell? ⟨B, 1, none⟩ = some (.slice x.fa m.fi.length x.fc) := fun n => by rw [hF n]; exact cc1
                have f2 : ∀ n, (F n).cell? ⟨q1, a, none⟩ = some (.slice (some ⟨b1 a, 0, none⟩) m.sp.length k6) := fun n => by rw [hF n]; exact cc2
                have f3 : ∀ n, (F n).cell? ⟨b1 a, b, none⟩ = some (.bool true) := fun n => by rw [hF n]; exact cc3
                have f4 : ∀ n, (F n).cell? ⟨q2, a, none⟩ = some (.slice (some ⟨b2 a, 0, none⟩) m.sp.length k7) := fun n => by rw [hF n]; exact cc4
                iterate 16 (go_big_quiet_step (fail))
                refine wpQuiet_nil ?_
                clear f1 f2 f3 f4 hF hι F
                refine mix_eff (fun K hK => ?_)
                go_wp2_with (go_at_call 35; refine HH1.out.mono ?_; rintro e wx ⟨rfl, rfl⟩)
                refine mix_on hK rfl ?_
                clear hK K
                refine mix_seg (seg := [_, _, _, _, _]) rfl rfl ?_
                intro ι hι F hF
                have f1 : ∀ n, (F n).cell? ⟨B, 1, none⟩ = some (.slice x.fa m.fi.length x.fc) := fun n => by rw [hF n]; exact cc1
                iterate 5 (go_big_quiet_step (fail))
                refine wpQuiet_nil ?_
                clear f1 hF hι F
                refine mix_eff (fun K hK => ?_)
                go_wp2_with (go_at_call 35; refine HH2.out.mono ?_; rintro e wx ⟨rfl, rfl⟩)
                refine mix_on hK rfl ?_
                clear hK K
                refine mix_seg (seg := [_, _]) (rest := []) rfl rfl ?_
                intro ι hι F hF
                iterate 2 (go_big_quiet_step (fail))
                refine wpQuiet_nil ?_
                clear hF hι F
                show wpList _ _ _ _ _ _
                go_wp2_with fail
                refine NoPanic.normal ?_
                have HVC : Hid (fb = true ↔ Bo m a b ∧ (grp m.fi).testBit a = true ∧ (grp m.fi).testBit b = true) := Lib.hid ⟨fun h => ⟨HBO.out.1 (by trivial), HFA.out.1 (by trivial), HFB.out.1 h⟩, fun h => HFB.out.2 h.2.2⟩
                have HVM : Hid (true = true ↔ Bo m a b) := Lib.hid (by simpa using HBO.out)
                have HGA := Lib.hid (HG9.out.setC HA.out b fb)
                have HGC := Lib.hid (HGA.out.stay ((Below.refl (w9.setCell ⟨b2 a, b, none⟩ (.bool fb)).heap.size (w9.setCell ⟨b2 a, b, none⟩ (.bool fb))).drew))
                have HBD := Lib.hid ((below_set HBE9.out (HG9.out.c.low a HA.out) HS9.out b (.bool fb)).drew)
                have HSD : Hid (s ≤ (w9.setCell ⟨b2 a, b, none⟩ (.bool fb)).drew.heap.size) := Lib.hid (by rw [World.size_drew, World.size_setCell]; exact HS9.out)
                generalize (w9.setCell ⟨b2 a, b, none⟩ (.bool fb)).drew = w10 at *
                clear HG9 HGA HDA HH1 HH2 HBE9 HS9 HK9 cc1 cc2 cc3 cc4 cc5 hfr5 HBO w9
                have HKA := Lib.hid (HKE.out _ HBD.out)
                obtain ⟨lb, lo, hla, dd6⟩ := HKA.out.2.1.la a (by rw [HRT.out.lal]; exact HA.out)
                obtain ⟨lb2, lo2, hla2, dd7⟩ := HKA.out.2.1.la b (by rw [HRT.out.lal]; exact HBB.out)
                rw [hla] at hla2
                injection hla2 with hla2
                injection hla2 with e1 e2
                subst e1; subst e2
                have dd1 := HKA.out.1.c3
                rw [hla] at dd1
                clear hla
                have hal : (a : Int) < (m.la.length : Int) := by have := HRT.out.lal; have := HA.out; omega
                have hbl : (b : Int) < (m.la.length : Int) := by have := HRT.out.lal; have := HBB.out; omega
                obtain ⟨q1', k8, e1, dd2, dd3, -⟩ := HGC.out.m.at HA.out HBB.out
                injection e1 with e1
                injection e1 with e1
                subst e1
                rw [u2_same] at dd3
                obtain ⟨q3, k9, e2, dd4, dd5, hfr6⟩ := HGC.out.g.at HA.out HBB.out
                subst e2
                obtain ⟨ga, hga⟩ : ∃ ga, Hid (m.la.getD a false = ga) := ⟨_, Lib.hid rfl⟩
                obtain ⟨gb, hgb⟩ : ∃ gb, Hid (m.la.getD b false = gb) := ⟨_, Lib.hid rfl⟩
                rw [hga.out] at dd6
                rw [hgb.out] at dd7
                go_upto_region 15 with fail
                cases ga with
                | false =>
                  refine region_mix [(false, 0), (false, 1), (false, 2), (false, 3), (false, 4), (false, 5), (false, 6), (false, 7), (false, 8), (false, 9), (false, 10), (false, 11), (false, 12), (false, 13), (false, 14), (false, 15), (false, 16), (false, 17), (false, 18), (false, 19), (false, 20), (false, 21), (false, 22), (false, 23), (false, 24), (false, 25), (false, 26)] (fun w' => w' = w10.drew) (by kernel_rfl) (by kernel_rfl) rfl ?_
                  simp only [planOps, List.map_cons, List.map_nil, List.getD_cons_zero, List.getD_cons_succ, List.length_cons, List.length_nil, List.drop_succ_cons, List.drop_zero]
                  refine mix_seg (seg := [_, _, _, _, _, _, _, _, _, _, _, _, _, _, _, _, _, _, _, _, _, _, _, _, _, _, _]) (rest := []) rfl rfl ?_
                  intro ι hι F hF
                  have f1 : ∀ n, (F n).cell? ⟨B, 3, none⟩ = some (.slice (some ⟨lb, lo, none⟩) m.la.length x.lc) := fun n => by rw [hF n]; exact dd1
                  have f2 : ∀ n, (F n).cell? ⟨q1, a, none⟩ = some (.slice (some ⟨b1 a, 0, none⟩) m.sp.length k8) := fun n => by rw [hF n]; exact dd2
                  have f3 : ∀ n, (F n).cell? ⟨b1 a, b, none⟩ = some (.bool true) := fun n => by rw [hF n]; exact dd3
                  have f4 : ∀ n, (F n).cell? ⟨q3, a, none⟩ = some (.slice (some ⟨b3 a, 0, none⟩) m.sp.length k9) := fun n => by rw [hF n]; exact dd4
                  have f5 : ∀ n, (F n).cell? ⟨lb, lo + a, none⟩ = some (.bool false) := fun n => by rw [hF n]; exact dd6
                  have f6 : ∀ n, (F n).cell? ⟨lb, lo + b, none⟩ = some (.bool gb) := fun n => by rw [hF n]; exact dd7
                  iterate 27 (go_big_quiet_step (fail))
                  refine wpQuiet_nil ?_
                  clear f1 f2 f3 f4 f5 f6 hF hι F
                  show wpList _ _ _ _ _ _
                  go_wp2_with fail
                  refine NoPanic.normal ?_
                  have HVG : Hid (false = true ↔ Bo m a b ∧ m.la.getD a false = true ∧ m.la.getD b false = true) := Lib.hid ⟨fun h => (by cases h), fun h => absurd h.2.1 (by rw [hga.out]; decide)⟩
                  have HGD := Lib.hid ((HGC.out.setG HA.out b false).stay ((Below.refl (w10.setCell ⟨b3 a, b, none⟩ (.bool false)).heap.size (w10.setCell ⟨b3 a, b, none⟩ (.bool false))).drew))
                  have HBF := Lib.hid ((below_set HBD.out (HGC.out.g.low a HA.out) HSD.out b (.bool false)).drew)
                  go_wp2_with fail
                  go_roundw
                  case rel => exact ⟨b + 1, _, _, _, by rw [HW2.out], HBB.out, HGD, Lib.hid (HI.out.next (by simpa using HVM.out) (by simpa using HVC.out) (by simpa using HVG.out)), HBF⟩
                  case measure => rw [HW2.out]; have := HBB.out; simp only [intOf]; omega
                | true =>
                  refine region_mix [(false, 0), (false, 1), (false, 2), (false, 3), (false, 4), (false, 5), (false, 6), (false, 7), (false, 8), (false, 9), (false, 10), (false, 11), (false, 12), (false, 13), (false, 14), (false, 15), (false, 16), (false, 17), (false, 18), (false, 19), (false, 20), (false, 21), (false, 22), (false, 23), (false, 24), (false, 25), (false, 26)] (fun w' => w' = w10.drew) (by kernel_rfl) (by kernel_rfl) rfl ?_
                  simp only [planOps, List.map_cons, List.map_nil, List.getD_cons_zero, List.getD_cons_succ, List.length_cons, List.length_nil, List.drop_succ_cons, List.drop_zero]
                  refine mix_seg (seg := [_, _, _, _, _, _, _, _, _, _, _, _, _, _, _, _, _, _, _, _, _, _, _, _, _, _, _]) (rest := []) rfl rfl ?_
                  intro ι hι F hF
                  have f1 : ∀ n, (F n).cell? ⟨B, 3, none⟩ = some (.slice (some ⟨lb, lo, none⟩) m.la.length x.lc) := fun n => by rw [hF n]; exact dd1
                  have f2 : ∀ n, (F n).cell? ⟨q1, a, none⟩ = some (.slice (some ⟨b1 a, 0, none⟩) m.sp.length k8) := fun n => by rw [hF n]; exact dd2
                  have f3 : ∀ n, (F n).cell? ⟨b1 a, b, none⟩ = some (.bool true) := fun n => by rw [hF n]; exact dd3
                  have f4 : ∀ n, (F n).cell? ⟨q3, a, none⟩ = some (.slice (some ⟨b3 a, 0, none⟩) m.sp.length k9) := fun n => by rw [hF n]; exact dd4
                  have f5 : ∀ n, (F n).cell? ⟨lb, lo + a, none⟩ = some (.bool true) := fun n => by rw [hF n]; exact dd6
                  have f6 : ∀ n, (F n).cell? ⟨lb, lo + b, none⟩ = some (.bool gb) := fun n => by rw [hF n]; exact dd7
                  iterate 27 (go_big_quiet_step (fail))
                  refine wpQuiet_nil ?_
                  clear f1 f2 f3 f4 f5 f6 hF hι F
                  show wpList _ _ _ _ _ _
                  go_wp2_with fail
                  refine NoPanic.normal ?_
                  have HVG : Hid (gb = true ↔ Bo m a b ∧ m.la.getD a false = true ∧ m.la.getD b false = true) := Lib.hid ⟨fun h => ⟨HVM.out.1 (by trivial), hga.out, hgb.out.trans h⟩, fun h => hgb.out.symm.trans h.2.2⟩
                  have HGD := Lib.hid ((HGC.out.setG HA.out b gb).stay ((Below.refl (w10.setCell ⟨b3 a, b, none⟩ (.bool gb)).heap.size (w10.setCell ⟨b3 a, b, none⟩ (.bool gb))).drew))
                  have HBF := Lib.hid ((below_set HBD.out (HGC.out.g.low a HA.out) HSD.out b (.bool gb)).drew)
                  go_wp2_with fail
                  go_roundw
                  case rel => exact ⟨b + 1, _, _, _, by rw [HW2.out], HBB.out, HGD, Lib.hid (HI.out.next (by simpa using HVM.out) (by simpa using HVC.out) (by simpa using HVG.out)), HBF⟩
                  case measure => rw [HW2.out]; have := HBB.out; simp only [intOf]; omega
          · have hdd3 : decide ((b : Int) < (m.sp.length : Int)) = false := decide_eq_false (by omega)
            have hd4 : decide (b < m.sp.length) = false := decide_eq_false hlt
            have hI := HI.out
            rw [show b = m.sp.length by omega] at hI
            have HI2 := Lib.hid hI.row
            clear hI HI
            go_wp2_with fail
            go_roundw
            case rel => exact ⟨a + 1, M, C, G, by rw [HW1.out], HA.out, HG, HI2, HBE⟩
            case measure => rw [HW1.out]; have := HA.out; simp only [intOf]; omega
      · have hdd : decide ((a : Int) < (m.sp.length : Int)) = false := decide_eq_false (by omega)
        have hd2 : decide (a < m.sp.length) = false := decide_eq_false hlt
        have hI := HI.out
        rw [show a = m.sp.length by omega] at hI
        have HIV := Lib.hid hI.done
        clear hI HI
        have HLS : Hid (s ≤ w2.heap.size) := Lib.hid (by rw [← hs.out]; exact Nat.le_refl _)
        go_upto_region 17 with fail
        go_loopw [9] (fun mv wr => ∃ (mo : Bool) (C G : Nat → Nat → Bool), mv = .bool mo ∧ Hid (G3 s m.sp.length O1 O2 O3 b1 b2 b3 M C G wr) ∧ Hid (Iv m M C G) ∧ Hid (mo = false → ClA m M C G) ∧ Hid (Below s w2 wr)) (fun mv wr => leftG m.sp.length b2 b3 wr + oneV mv)
        case atStart => exact ⟨true, C, G, rfl, HG, HIV, Lib.hid (fun h => by cases h), HBE⟩
        case round =>
          clear HG HIV HBE hlt hdd hd2
          obtain ⟨mo, C, G, rfl, HG, HIV, HCA, HBE⟩ := hrel
          generalize hwr : wr = w7 at *
          clear hwr wr ha
          cases mo with
          | false =>
            have HTL := Lib.hid (HIV.out.tell HRT.out (HCA.out rfl))
            clear HCA HIV
            go_upto_region 40 with fail
            go_loopw [16] (fun i wr => ∃ a : Nat, i = .int .i64 a ∧ a ≤ m.sp.length ∧ Hid (G3 s m.sp.length O1 O2 O3 b1 b2 b3 M C G wr) ∧ Hid (Below s w2 wr) ∧ Hid (∀ a' b', a' < a → b' < m.sp.length → C a' b' = true → G a' b' = true → tgN m a' = tgN m b')) (fun i _ => ((m.sp.length : Int) - intOf i).toNat)
            case atStart => exact ⟨0, rfl, Nat.zero_le _, HG, HBE, Lib.hid (fun a' b' h => absurd h (Nat.not_lt_zero _))⟩
            case round =>
              clear HG HBE
              obtain ⟨a, rfl, ha, HG, HBE, HDN⟩ := hrel
              generalize hwr : wr = w8 at *
              clear hwr wr
              by_cases hlt : a < m.sp.length
              · have hdd : decide ((a : Int) < (m.sp.length : Int)) = true := decide_eq_true (by omega)
                have hd2 : decide (a < m.sp.length) = true := decide_eq_true hlt
                have hai : (a : Int) < (m.sp.length : Int) := by omega
                have HW1 : Hid (wrap64 ((a : Int) + 1) = ((a + 1 : Nat) : Int)) := Lib.hid (nat_wrap (by have := HNL.out; omega))
                have HA := Lib.hid hlt
                clear hlt
                obtain ⟨sb, so, hsa, -⟩ := (HKE.out _ HBE.out).2.1.sp a HA.out
                have HSA := Lib.hid hsa
                clear hsa
                obtain ⟨q2, -, e2, -⟩ := HG.out.c.out a HA.out
                subst e2
                obtain ⟨q3, -, e3, -⟩ := HG.out.g.out a HA.out
                subst e3
                go_upto_region 43 with fail
                go_loopw [17] (fun i wr => ∃ b : Nat, i = .int .i64 b ∧ b ≤ m.sp.length ∧ Hid (G3 s m.sp.length O1 (some ⟨q2, 0, none⟩) (some ⟨q3, 0, none⟩) b1 b2 b3 M C G wr) ∧ Hid (Below s w2 wr) ∧ Hid (∀ b', b' < b → C a b' = true → G a b' = true → tgN m a = tgN m b')) (fun i _ => ((m.sp.length : Int) - intOf i).toNat)
                case atStart => exact ⟨0, rfl, Nat.zero_le _, HG, HBE, Lib.hid (fun b' h => absurd h (Nat.not_lt_zero _))⟩
                case round =>
                  clear HG HBE
                  obtain ⟨b, rfl, hb, HG, HBE, HDB⟩ := hrel
                  generalize hwr : wr = w9 at *
                  clear hwr wr
                  by_cases hlt : b < m.sp.length
                  · have hdd3 : decide ((b : Int) < (m.sp.length : Int)) = true := decide_eq_true (by omega)
                    have hd4 : decide (b < m.sp.length) = true := decide_eq_true hlt
                    have hbi : (b : Int) < (m.sp.length : Int) := by omega
                    have HW2 : Hid (wrap64 ((b : Int) + 1) = ((b + 1 : Nat) : Int)) := Lib.hid (nat_wrap (by have := HNL.out; omega))
                    have HBB := Lib.hid hlt
                    clear hlt
                    have HK9 := Lib.hid (HKE.out _ HBE.out)
                    have c0 := HK9.out.1.c0
                    rw [HSA.out] at c0
                    have ct1 : w9.cell? ⟨sb, so + a * 5 + 4, none⟩ = some (.int .u8 (tgN m a : Nat)) := by
                      obtain ⟨sb', so', e, hr⟩ := HK9.out.2.1.sp a HA.out
                      rw [HSA.out] at e
                      injection e with e
                      injection e with e1 e2
                      subst e1; subst e2
                      exact hr 4 _ rfl
                    have ct2 : w9.cell? ⟨sb, so + b * 5 + 4, none⟩ = some (.int .u8 (tgN m b : Nat)) := by
                      obtain ⟨sb', so', e, hr⟩ := HK9.out.2.1.sp b HBB.out
                      rw [HSA.out] at e
                      injection e with e
                      injection e with e1 e2
                      subst e1; subst e2
                      exact hr 4 _ rfl
                    obtain ⟨k5, cc1, cc2, -⟩ := HG.out.c.atS HA.out HBB.out
                    obtain ⟨k6, cc3, cc4, -⟩ := HG.out.g.atS HA.out HBB.out
                    go_upto_region 45 with fail
                    cases h1 : C a b with
                    | false =>
                      have H1 := Lib.hid h1
                      rw [h1] at cc2
                      clear h1
                      as_aux_lemma =>
                        refine region_mix [(false, 0), (false, 1), (false, 2), (false, 3), (false, 4), (false, 5), (false, 6), (false, 7), (false, 8), (false, 9), (false, 10), (false, 11), (false, 12), (false, 13), (false, 14), (false, 15), (false, 16), (false, 17), (false, 18), (false, 19), (false, 20), (false, 21), (false, 22), (false, 23), (false, 24), (false, 25), (false, 26), (false, 27), (false, 28), (false, 29)] (fun w' => w' = w9.drew) (by kernel_rfl) (by kernel_rfl) rfl ?_
                        simp only [planOps, List.map_cons, List.map_nil, List.getD_cons_zero, List.getD_cons_succ, List.length_cons, List.length_nil, List.drop_succ_cons, List.drop_zero]
                        refine mix_seg (seg := [_, _, _, _, _, _, _, _, _, _, _, _, _, _, _, _, _, _, _, _, _, _, _, _, _, _, _, _, _, _]) (rest := []) rfl rfl ?_
                        intro ι hι F hF
                        have f1 : ∀ n, (F n).cell? ⟨B, 0, none⟩ = some (.slice (some ⟨sb, so, none⟩) m.sp.length x.sc) := fun n => by rw [hF n]; exact c0
                        have f2 : ∀ n, (F n).cell? ⟨q2, a, none⟩ = some (.slice (some ⟨b2 a, 0, none⟩) m.sp.length k5) := fun n => by rw [hF n]; exact cc1
                        have f3 : ∀ n, (F n).cell? ⟨b2 a, b, none⟩ = some (.bool false) := fun n => by rw [hF n]; exact cc2
                        have f4 : ∀ n, (F n).cell? ⟨q3, a, none⟩ = some (.slice (some ⟨b3 a, 0, none⟩) m.sp.length k6) := fun n => by rw [hF n]; exact cc3
                        have f5 : ∀ n, (F n).cell? ⟨b3 a, b, none⟩ = some (.bool (G a b)) := fun n => by rw [hF n]; exact cc4
                        have f6 : ∀ n, (F n).cell? ⟨sb, so + a * 5 + 4, none⟩ = some (.int .u8 (tgN m a : Nat)) := fun n => by rw [hF n]; exact ct1
                        have f7 : ∀ n, (F n).cell? ⟨sb, so + b * 5 + 4, none⟩ = some (.int .u8 (tgN m b : Nat)) := fun n => by rw [hF n]; exact ct2
                        iterate 30 (go_big_quiet_step (fail))
                        refine wpQuiet_nil ?_
                        clear f1 f2 f3 f4 f5 f6 f7 hF hι F
                        show wpList _ _ _ _ _ _
                        go_wp2_with fail
                        refine NoPanic.normal ?_
                        have HDB2 : Hid (∀ b', b' < b + 1 → C a b' = true → G a b' = true → tgN m a = tgN m b') := Lib.hid (fun b' hb' g1 g2 => by
                          by_cases e : b' = b
                          · subst e
                            rw [H1.out] at g1; cases g1
                          · exact HDB.out b' (by omega) g1 g2)
                        have HG2 := Lib.hid (HG.out.stay ((Below.refl w9.heap.size w9).drew))
                        have HBE2 := Lib.hid (HBE.out.drew)
                        
                        go_wp2_with fail
                        go_roundw
                        case rel => exact ⟨b + 1, by rw [HW2.out], HBB.out, HG2, HBE2, HDB2⟩
                        case measure => rw [HW2.out]; have := HBB.out; simp only [intOf]; omega
                    | true =>
                      have H1 := Lib.hid h1
                      rw [h1] at cc2
                      clear h1
                      cases h2 : G a b with
                      | false =>
                        have H2 := Lib.hid h2
                        rw [h2] at cc4
                        clear h2
                        as_aux_lemma =>
                          refine region_mix [(false, 0), (false, 1), (false, 2), (false, 3), (false, 4), (false, 5), (false, 6), (false, 7), (false, 8), (false, 9), (false, 10), (false, 11), (false, 12), (false, 13), (false, 14), (false, 15), (false, 16), (false, 17), (false, 18), (false, 19), (false, 20), (false, 21), (false, 22), (false, 23), (false, 24), (false, 25), (false, 26), (false, 27), (false, 28), (false, 29)] (fun w' => w' = w9.drew) (by kernel_rfl) (by kernel_rfl) rfl ?_
                          simp only [planOps, List.map_cons, List.map_nil, List.getD_cons_zero, List.getD_cons_succ, List.length_cons, List.length_nil, List.drop_succ_cons, List.drop_zero]
                          refine mix_seg (seg := [_, _, _, _, _, _, _, _, _, _, _, _, _, _, _, _, _, _, _, _, _, _, _, _, _, _, _, _, _, _]) (rest := []) rfl rfl ?_
                          intro ι hι F hF
                          have f1 : ∀ n, (F n).cell? ⟨B, 0, none⟩ = some (.slice (some ⟨sb, so, none⟩) m.sp.length x.sc) := fun n => by rw [hF n]; exact c0
                          have f2 : ∀ n, (F n).cell? ⟨q2, a, none⟩ = some (.slice (some ⟨b2 a, 0, none⟩) m.sp.length k5) := fun n => by rw [hF n]; exact cc1
                          have f3 : ∀ n, (F n).cell? ⟨b2 a, b, none⟩ = some (.bool true) := fun n => by rw [hF n]; exact cc2
                          have f4 : ∀ n, (F n).cell? ⟨q3, a, none⟩ = some (.slice (some ⟨b3 a, 0, none⟩) m.sp.length k6) := fun n => by rw [hF n]; exact cc3
                          have f5 : ∀ n, (F n).cell? ⟨b3 a, b, none⟩ = some (.bool false) := fun n => by rw [hF n]; exact cc4
                          have f6 : ∀ n, (F n).cell? ⟨sb, so + a * 5 + 4, none⟩ = some (.int .u8 (tgN m a : Nat)) := fun n => by rw [hF n]; exact ct1
                          have f7 : ∀ n, (F n).cell? ⟨sb, so + b * 5 + 4, none⟩ = some (.int .u8 (tgN m b : Nat)) := fun n => by rw [hF n]; exact ct2
                          iterate 30 (go_big_quiet_step (fail))
                          refine wpQuiet_nil ?_
                          clear f1 f2 f3 f4 f5 f6 f7 hF hι F
                          show wpList _ _ _ _ _ _
                          go_wp2_with fail
                          refine NoPanic.normal ?_
                          have HDB2 : Hid (∀ b', b' < b + 1 → C a b' = true → G a b' = true → tgN m a = tgN m b') := Lib.hid (fun b' hb' g1 g2 => by
                            by_cases e : b' = b
                            · subst e
                              rw [H2.out] at g2; cases g2
                            · exact HDB.out b' (by omega) g1 g2)
                          have HG2 := Lib.hid (HG.out.stay ((Below.refl w9.heap.size w9).drew))
                          have HBE2 := Lib.hid (HBE.out.drew)
                          
                          go_wp2_with fail
                          go_roundw
                          case rel => exact ⟨b + 1, by rw [HW2.out], HBB.out, HG2, HBE2, HDB2⟩
                          case measure => rw [HW2.out]; have := HBB.out; simp only [intOf]; omega
                      | true =>
                        have H2 := Lib.hid h2
                        rw [h2] at cc4
                        clear h2
                        by_cases ht : tgN m a = tgN m b
                        · have hne : (((tgN m a : Nat) : Int) != ((tgN m b : Nat) : Int)) = false := by rw [ht]; simp
                          have HTT := Lib.hid ht
                          clear ht
                          as_aux_lemma =>
                            refine region_mix [(false, 0), (false, 1), (false, 2), (false, 3), (false, 4), (false, 5), (false, 6), (false, 7), (false, 8), (false, 9), (false, 10), (false, 11), (false, 12), (false, 13), (false, 14), (false, 15), (false, 16), (false, 17), (false, 18), (false, 19), (false, 20), (false, 21), (false, 22), (false, 23), (false, 24), (false, 25), (false, 26), (false, 27), (false, 28), (false, 29)] (fun w' => w' = w9.drew) (by kernel_rfl) (by kernel_rfl) rfl ?_
                            simp only [planOps, List.map_cons, List.map_nil, List.getD_cons_zero, List.getD_cons_succ, List.length_cons, List.length_nil, List.drop_succ_cons, List.drop_zero]
                            refine mix_seg (seg := [_, _, _, _, _, _, _, _, _, _, _, _, _, _, _, _, _, _, _, _, _, _, _, _, _, _, _, _, _, _]) (rest := []) rfl rfl ?_
                            intro ι hι F hF
                            have f1 : ∀ n, (F n).cell? ⟨B, 0, none⟩ = some (.slice (some ⟨sb, so, none⟩) m.sp.length x.sc) := fun n => by rw [hF n]; exact c0
                            have f2 : ∀ n, (F n).cell? ⟨q2, a, none⟩ = some (.slice (some ⟨b2 a, 0, none⟩) m.sp.length k5) := fun n => by rw [hF n]; exact cc1
                            have f3 : ∀ n, (F n).cell? ⟨b2 a, b, none⟩ = some (.bool true) := fun n => by rw [hF n]; exact cc2
                            have f4 : ∀ n, (F n).cell? ⟨q3, a, none⟩ = some (.slice (some ⟨b3 a, 0, none⟩) m.sp.length k6) := fun n => by rw [hF n]; exact cc3
                            have f5 : ∀ n, (F n).cell? ⟨b3 a, b, none⟩ = some (.bool true) := fun n => by rw [hF n]; exact cc4
                            have f6 : ∀ n, (F n).cell? ⟨sb, so + a * 5 + 4, none⟩ = some (.int .u8 (tgN m a : Nat)) := fun n => by rw [hF n]; exact ct1
                            have f7 : ∀ n, (F n).cell? ⟨sb, so + b * 5 + 4, none⟩ = some (.int .u8 (tgN m b : Nat)) := fun n => by rw [hF n]; exact ct2
                            iterate 30 (go_big_quiet_step (fail))
                            refine wpQuiet_nil ?_
                            clear f1 f2 f3 f4 f5 f6 f7 hF hι F
                            show wpList _ _ _ _ _ _
                            go_wp2_with fail
                            refine NoPanic.normal ?_
                            have HDB2 : Hid (∀ b', b' < b + 1 → C a b' = true → G a b' = true → tgN m a = tgN m b') := Lib.hid (fun b' hb' g1 g2 => by
                              by_cases e : b' = b
                              · subst e
                                exact HTT.out
                              · exact HDB.out b' (by omega) g1 g2)
                            have HG2 := Lib.hid (HG.out.stay ((Below.refl w9.heap.size w9).drew))
                            have HBE2 := Lib.hid (HBE.out.drew)
                            
                            go_wp2_with fail
                            go_roundw
                            case rel => exact ⟨b + 1, by rw [HW2.out], HBB.out, HG2, HBE2, HDB2⟩
                            case measure => rw [HW2.out]; have := HBB.out; simp only [intOf]; omega
                        · have hne : (((tgN m a : Nat) : Int) != ((tgN m b : Nat) : Int)) = true := by simpa using fun h : ((tgN m a : Nat) : Int) = ((tgN m b : Nat) : Int) => ht (by omega)
                          have HTT := Lib.hid ht
                          clear ht
                          as_aux_lemma =>
                            refine region_mix [(false, 0), (false, 1), (false, 2), (false, 3), (false, 4), (false, 5), (false, 6), (false, 7), (false, 8), (false, 9), (false, 10), (false, 11), (false, 12), (false, 13), (false, 14), (false, 15), (false, 16), (false, 17), (false, 18), (false, 19), (false, 20), (false, 21), (false, 22), (false, 23), (false, 24), (false, 25), (false, 26), (false, 27), (false, 28), (false, 29)] (fun w' => w' = w9.drew) (by kernel_rfl) (by kernel_rfl) rfl ?_
                            simp only [planOps, List.map_cons, List.map_nil, List.getD_cons_zero, List.getD_cons_succ, List.length_cons, List.length_nil, List.drop_succ_cons, List.drop_zero]
                            refine mix_seg (seg := [_, _, _, _, _, _, _, _, _, _, _, _, _, _, _, _, _, _, _, _, _, _, _, _, _, _, _, _, _, _]) (rest := []) rfl rfl ?_
                            intro ι hι F hF
                            have f1 : ∀ n, (F n).cell? ⟨B, 0, none⟩ = some (.slice (some ⟨sb, so, none⟩) m.sp.length x.sc) := fun n => by rw [hF n]; exact c0
                            have f2 : ∀ n, (F n).cell? ⟨q2, a, none⟩ = some (.slice (some ⟨b2 a, 0, none⟩) m.sp.length k5) := fun n => by rw [hF n]; exact cc1
                            have f3 : ∀ n, (F n).cell? ⟨b2 a, b, none⟩ = some (.bool true) := fun n => by rw [hF n]; exact cc2
                            have f4 : ∀ n, (F n).cell? ⟨q3, a, none⟩ = some (.slice (some ⟨b3 a, 0, none⟩) m.sp.length k6) := fun n => by rw [hF n]; exact cc3
                            have f5 : ∀ n, (F n).cell? ⟨b3 a, b, none⟩ = some (.bool true) := fun n => by rw [hF n]; exact cc4
                            have f6 : ∀ n, (F n).cell? ⟨sb, so + a * 5 + 4, none⟩ = some (.int .u8 (tgN m a : Nat)) := fun n => by rw [hF n]; exact ct1
                            have f7 : ∀ n, (F n).cell? ⟨sb, so + b * 5 + 4, none⟩ = some (.int .u8 (tgN m b : Nat)) := fun n => by rw [hF n]; exact ct2
                            iterate 30 (go_big_quiet_step (fail))
                            refine wpQuiet_nil ?_
                            clear f1 f2 f3 f4 f5 f6 f7 hF hι F
                            show wpList _ _ _ _ _ _
                            go_wp2_with fail
                            refine NoPanic.normal ?_
                            have HBE2 := Lib.hid (HKE.out _ (HBE.out.drew)).2.2
                            go_wp2_with fail
                            go_ret
                            exact ⟨false, rfl, ⟨fun h => (by cases h), fun h => absurd (HTL.out.2 h a b HA.out HBB.out H1.out H2.out) HTT.out⟩, by rw [hBq.out]; exact HBE2.out⟩
                  · have hdd3 : decide ((b : Int) < (m.sp.length : Int)) = false := decide_eq_false (by omega)
                    have hd4 : decide (b < m.sp.length) = false := decide_eq_false hlt
                    have HDN2 : Hid (∀ a' b', a' < a + 1 → b' < m.sp.length → C a' b' = true → G a' b' = true → tgN m a' = tgN m b') := Lib.hid (fun a' b' ha' hb' g1 g2 => by
                      by_cases e : a' = a
                      · subst e
                        exact HDB.out b' (by omega) g1 g2
                      · exact HDN.out a' b' (by omega) hb' g1 g2)
                    go_wp2_with fail
                    go_roundw
                    case rel => exact ⟨a + 1, by rw [HW1.out], HA.out, HG, HBE, HDN2⟩
                    case measure => rw [HW1.out]; have := HA.out; simp only [intOf]; omega
              · have hdd : decide ((a : Int) < (m.sp.length : Int)) = false := decide_eq_false (by omega)
                have hd2 : decide (a < m.sp.length) = false := decide_eq_false hlt
                have HAN : Hid (a = m.sp.length) := Lib.hid (by omega)
                have HBE2 := Lib.hid (HKE.out _ HBE.out).2.2
                clear hlt
                go_wp2_with fail
                go_ret
                exact ⟨true, rfl, ⟨fun _ => HTL.out.1 (fun a' b' ha' hb' g1 g2 => HDN.out a' b' (by rw [HAN.out]; exact ha') hb' g1 g2), fun _ => rfl⟩, by rw [hBq.out]; exact HBE2.out⟩
          | true =>
            have HR0 := Lib.hid (Rd.start HG.out HIV.out HBE.out)
            obtain ⟨L0, hL0⟩ : ∃ L0, Hid (leftG m.sp.length b2 b3 w7 = L0) := ⟨_, Lib.hid rfl⟩
            rw [hL0.out] at HR0
            clear HG HIV HCA HBE
            go_upto_region 20 with fail
            go_loopw [9, 10] (fun mv i wr => ∃ (mo : Bool) (a : Nat) (C G : Nat → Nat → Bool), mv = .bool mo ∧ i = .int .i64 a ∧ a ≤ m.sp.length ∧ Hid (Rd m s O1 O2 O3 b1 b2 b3 M w2 L0 a 0 0 0 mo C G wr)) (fun _ i _ => ((m.sp.length : Int) - intOf i).toNat)
            case atStart => exact ⟨false, 0, C, G, rfl, rfl, Nat.zero_le _, HR0⟩
            case round =>
              clear HR0
              obtain ⟨mo, a, C, G, rfl, rfl, ha, HRD⟩ := hrel
              generalize hwr : wr = w8 at *
              clear hwr wr
              by_cases hlt : a < m.sp.length
              · have hdd : decide ((a : Int) < (m.sp.length : Int)) = true := decide_eq_true (by omega)
                have hd2 : decide (a < m.sp.length) = true := decide_eq_true hlt
                have hai : (a : Int) < (m.sp.length : Int) := by omega
                have hal : (a : Int) < (m.fo.length : Int) := by rw [HRT.out.fol]; omega
                have HW1 : Hid (wrap64 ((a : Int) + 1) = ((a + 1 : Nat) : Int)) := Lib.hid (nat_wrap (by have := HNL.out; omega))
                have HA := Lib.hid hlt
                clear hlt
                obtain ⟨ob, oo, -, -, hoa, -, -⟩ := (HKE.out _ HRD.out.bel).2.1.fo a (by rw [HRT.out.fol]; exact HA.out)
                have HOA := Lib.hid hoa
                clear hoa
                obtain ⟨q1, -, e1, -⟩ := HRD.out.g3.m.out a HA.out
                subst e1
                obtain ⟨q2, -, e2, -⟩ := HRD.out.g3.c.out a HA.out
                subst e2
                obtain ⟨q3, -, e3, -⟩ := HRD.out.g3.g.out a HA.out
                subst e3
                have HFO : Hid (∀ W, Below s w2 W → W.cell? ⟨B, 2, none⟩ = some (.slice (some ⟨ob, oo, none⟩) m.fo.length x.oc) ∧ ∀ i, i < m.sp.length → ∃ y c, W.cell? ⟨ob, oo + i, none⟩ = some (.slice y (m.fo.getD i []).length c) ∧ NumsIn W y (m.fo.getD i [])) := Lib.hid (fun W hW => by
                  have h := HKE.out W hW
                  refine ⟨?_, fun i hi => fo_lists h.2.1 HOA.out (by rw [HRT.out.fol]; exact hi)⟩
                  have := h.1.c2
                  rw [HOA.out] at this
                  exact this)
                have HLA : Hid ((m.fo.getD a []).length ≤ 1000) := Lib.hid (HF.out.each _ (getD_mem (by rw [HRT.out.fol]; exact HA.out))).1
                obtain ⟨la, hla⟩ : ∃ la, Hid (m.fo.getD a [] = la) := ⟨_, Lib.hid rfl⟩
                rw [hla.out] at HLA
                go_upto_region 23 with fail
                go_loopw [9, 11] (fun mv i wr => ∃ (mo : Bool) (b : Nat) (C G : Nat → Nat → Bool), mv = .bool mo ∧ i = .int .i64 b ∧ b ≤ m.sp.length ∧ Hid (Rd m s (some ⟨q1, 0, none⟩) (some ⟨q2, 0, none⟩) (some ⟨q3, 0, none⟩) b1 b2 b3 M w2 L0 a b 0 0 mo C G wr)) (fun _ i _ => ((m.sp.length : Int) - intOf i).toNat)
                case atStart => exact ⟨mo, 0, C, G, rfl, rfl, Nat.zero_le _, HRD⟩
                case round =>
                  clear HRD
                  obtain ⟨mo, b, C, G, rfl, rfl, hb, HRD⟩ := hrel
                  generalize hwr : wr = w9 at *
                  clear hwr wr
                  by_cases hlt : b < m.sp.length
                  · have hdd3 : decide ((b : Int) < (m.sp.length : Int)) = true := decide_eq_true (by omega)
                    have hd4 : decide (b < m.sp.length) = true := decide_eq_true hlt
                    have hbi : (b : Int) < (m.sp.length : Int) := by omega
                    have hbl : (b : Int) < (m.fo.length : Int) := by rw [HRT.out.fol]; omega
                    have HW2 : Hid (wrap64 ((b : Int) + 1) = ((b + 1 : Nat) : Int)) := Lib.hid (nat_wrap (by have := HNL.out; omega))
                    have HBB := Lib.hid hlt
                    clear hlt
                    have HLB : Hid ((m.fo.getD b []).length ≤ 1000) := Lib.hid (HF.out.each _ (getD_mem (by rw [HRT.out.fol]; exact HBB.out))).1
                    obtain ⟨lb, hlb⟩ : ∃ lb, Hid (m.fo.getD b [] = lb) := ⟨_, Lib.hid rfl⟩
                    rw [hlb.out] at HLB
                    go_upto_region 26 with fail
                    go_loopw [9, 12] (fun mv i wr => ∃ (mo : Bool) (j : Nat) (C G : Nat → Nat → Bool), mv = .bool mo ∧ i = .int .i64 j ∧ j ≤ la.length ∧ Hid (Rd m s (some ⟨q1, 0, none⟩) (some ⟨q2, 0, none⟩) (some ⟨q3, 0, none⟩) b1 b2 b3 M w2 L0 a b j 0 mo C G wr)) (fun _ i _ => ((la.length : Int) - intOf i).toNat)
                    case atStart => exact ⟨mo, 0, C, G, rfl, rfl, Nat.zero_le _, HRD⟩
                    case round =>
                      clear HRD
                      obtain ⟨mo, j, C, G, rfl, rfl, hj, HRD⟩ := hrel
                      generalize hwr : wr = w10 at *
                      clear hwr wr
                      obtain ⟨cB, hFO⟩ := HFO.out _ HRD.out.bel
                      have hFa := hFO a HA.out
                      rw [hla.out] at hFa
                      obtain ⟨ya, ca, cA, -⟩ := hFa
                      clear hFO
                      by_cases hlt : j < la.length
                      · have hdd5 : decide ((j : Int) < (la.length : Int)) = true := decide_eq_true (by omega)
                        have hd6 : decide (j < la.length) = true := decide_eq_true hlt
                        have hji : (j : Int) < (la.length : Int) := by omega
                        have HW3 : Hid (wrap64 ((j : Int) + 1) = ((j + 1 : Nat) : Int)) := Lib.hid (nat_wrap (by have := HLA.out; omega))
                        have HJ := Lib.hid hlt
                        clear hlt
                        obtain ⟨p, hp1, hp2, hp3⟩ := fo_at HRT.out (a := a) (i := j) (by rw [hla.out]; exact HJ.out)
                        have HP1 := Lib.hid hp1
                        have HP2 := Lib.hid hp2
                        have HP3 := Lib.hid hp3
                        have hpi : (p : Int) < (m.sp.length : Int) := by omega
                        clear hp1 hp2 hp3
                        go_upto_region 29 with fail
                        clear cB cA
                        go_loopw [9, 13] (fun mv i wr => ∃ (mo : Bool) (k : Nat) (C G : Nat → Nat → Bool), mv = .bool mo ∧ i = .int .i64 k ∧ k ≤ lb.length ∧ Hid (Rd m s (some ⟨q1, 0, none⟩) (some ⟨q2, 0, none⟩) (some ⟨q3, 0, none⟩) b1 b2 b3 M w2 L0 a b j k mo C G wr)) (fun _ i _ => ((lb.length : Int) - intOf i).toNat)
                        case atStart => exact ⟨mo, 0, C, G, rfl, rfl, Nat.zero_le _, HRD⟩
                        case round =>
                          clear HRD
                          obtain ⟨mo, k, C, G, rfl, rfl, hk, HRD⟩ := hrel
                          generalize hwr : wr = w11 at *
                          clear hwr wr
                          obtain ⟨cB, hFO⟩ := HFO.out _ HRD.out.bel
                          have hFa := hFO a HA.out
                          rw [hla.out] at hFa
                          obtain ⟨ya, ca, cA, hnA⟩ := hFa
                          have hFb := hFO b HBB.out
                          rw [hlb.out] at hFb
                          obtain ⟨yb, cb, cC, hnB⟩ := hFb
                          clear hFO
                          by_cases hlt : k < lb.length
                          · have hdd7 : decide ((k : Int) < (lb.length : Int)) = true := decide_eq_true (by omega)
                            have hd8 : decide (k < lb.length) = true := decide_eq_true hlt
                            have hki : (k : Int) < (lb.length : Int) := by omega
                            have HW4 : Hid (wrap64 ((k : Int) + 1) = ((k + 1 : Nat) : Int)) := Lib.hid (nat_wrap (by have := HLB.out; omega))
                            have HK := Lib.hid hlt
                            clear hlt
                            obtain ⟨r, hr1, hr2, hr3⟩ := fo_at HRT.out (a := b) (i := k) (by rw [hlb.out]; exact HK.out)
                            have HQ1 := Lib.hid hr1
                            have HQ2 := Lib.hid hr2
                            have HQ3 := Lib.hid hr3
                            have hri : (r : Int) < (m.sp.length : Int) := by omega
                            clear hr1 hr2 hr3
                            obtain ⟨xb, xo, rfl, hcx⟩ := hnA j HJ.out
                            obtain ⟨zb, zo, rfl, hcz⟩ := hnB k HK.out
                            have hp := HP1.out
                            have hr := HQ1.out
                            rw [hla.out] at hp
                            rw [hlb.out] at hr
                            rw [hp] at hcx
                            rw [hr] at hcz
                            clear hnA hnB hp hr
                            obtain ⟨k5, cc1, cc2, -⟩ := HRD.out.g3.c.atS HA.out HBB.out
                            obtain ⟨k6, cc3, cc4, -⟩ := HRD.out.g3.m.atS HP2.out HQ2.out
                            obtain ⟨k7, cc5, cc6, hfc⟩ := HRD.out.g3.c.atS HP2.out HQ2.out
                            cases h1 : C a b with
                            | false =>
                              as_aux_lemma =>
                                rw [h1] at cc2
                                have HCL1 : Hid (C a b = true → M p r = true → C p r = true) := Lib.hid (fun h => by rw [h1] at h; cases h)
                                have HR1 := HRD
                                clear HRD h1
                                go_upto_region 36 with fail
                                clear cB cA cC hcx hcz cc1 cc2 cc3 cc4 cc5 cc6 hfc
                                generalize hw : w11 = w12 at *
                                generalize hC : C = C1 at *
                                clear hw hC
                                obtain ⟨k8, ee1, ee2, -⟩ := HR1.out.g3.g.atS HP2.out HQ2.out
                                obtain ⟨k9, ee3, ee4, -⟩ := HR1.out.g3.m.atS HA.out HBB.out
                                obtain ⟨k10, ee5, ee6, hfg⟩ := HR1.out.g3.g.atS HA.out HBB.out
                                cases g1 : G p r with
                                | false =>
                                  rw [g1] at ee2
                                  have HR2 := Lib.hid (HR1.out.step HP1.out HQ1.out HCL1.out (fun h => by rw [g1] at h; cases h))
                                  clear g1
                                  as_aux_lemma =>
                                    go_wp2_with fail
                                    go_roundw
                                    case rel => exact ⟨_, k + 1, _, _, rfl, by rw [HW4.out], HK.out, HR2⟩
                                    case measure => rw [HW4.out]; have := HK.out; simp only [intOf]; omega
                                | true =>
                                  rw [g1] at ee2
                                  cases g2 : M a b with
                                  | false =>
                                    rw [g2] at ee4
                                    have HR2 := Lib.hid (HR1.out.step HP1.out HQ1.out HCL1.out (fun _ h => by rw [g2] at h; cases h))
                                    clear g1 g2
                                    as_aux_lemma =>
                                      go_wp2_with fail
                                      go_roundw
                                      case rel => exact ⟨_, k + 1, _, _, rfl, by rw [HW4.out], HK.out, HR2⟩
                                      case measure => rw [HW4.out]; have := HK.out; simp only [intOf]; omega
                                  | true =>
                                    rw [g2] at ee4
                                    cases g3 : G a b with
                                    | true =>
                                      rw [g3] at ee6
                                      have HR2 := Lib.hid (HR1.out.step HP1.out HQ1.out HCL1.out (fun _ _ => g3))
                                      clear g1 g2 g3
                                      as_aux_lemma =>
                                        go_wp2_with fail
                                        go_roundw
                                        case rel => exact ⟨_, k + 1, _, _, rfl, by rw [HW4.out], HK.out, HR2⟩
                                        case measure => rw [HW4.out]; have := HK.out; simp only [intOf]; omega
                                    | false =>
                                      rw [g3] at ee6
                                      have HR2 := Lib.hid (HR1.out.goes HLS.out HA.out HBB.out HP2.out HQ2.out HP3.out HQ3.out g1 g2 g3)
                                      clear g1 g2 g3
                                      as_aux_lemma =>
                                        go_wp2_with fail
                                        go_roundw
                                        case rel => exact ⟨_, k + 1, _, _, rfl, by rw [HW4.out], HK.out, HR2⟩
                                        case measure => rw [HW4.out]; have := HK.out; simp only [intOf]; omega
                            | true =>
                              rw [h1] at cc2
                              cases h2 : M p r with
                              | false =>
                                as_aux_lemma =>
                                  rw [h2] at cc4
                                  have HCL1 : Hid (C a b = true → M p r = true → C p r = true) := Lib.hid (fun _ h => by rw [h2] at h; cases h)
                                  have HR1 := HRD
                                  clear HRD h1 h2
                                  go_upto_region 36 with fail
                                  clear cB cA cC hcx hcz cc1 cc2 cc3 cc4 cc5 cc6 hfc
                                  generalize hw : w11 = w12 at *
                                  generalize hC : C = C1 at *
                                  clear hw hC
                                  obtain ⟨k8, ee1, ee2, -⟩ := HR1.out.g3.g.atS HP2.out HQ2.out
                                  obtain ⟨k9, ee3, ee4, -⟩ := HR1.out.g3.m.atS HA.out HBB.out
                                  obtain ⟨k10, ee5, ee6, hfg⟩ := HR1.out.g3.g.atS HA.out HBB.out
                                  cases g1 : G p r with
                                  | false =>
                                    rw [g1] at ee2
                                    have HR2 := Lib.hid (HR1.out.step HP1.out HQ1.out HCL1.out (fun h => by rw [g1] at h; cases h))
                                    clear g1
                                    as_aux_lemma =>
                                      go_wp2_with fail
                                      go_roundw
                                      case rel => exact ⟨_, k + 1, _, _, rfl, by rw [HW4.out], HK.out, HR2⟩
                                      case measure => rw [HW4.out]; have := HK.out; simp only [intOf]; omega
                                  | true =>
                                    rw [g1] at ee2
                                    cases g2 : M a b with
                                    | false =>
                                      rw [g2] at ee4
                                      have HR2 := Lib.hid (HR1.out.step HP1.out HQ1.out HCL1.out (fun _ h => by rw [g2] at h; cases h))
                                      clear g1 g2
                                      as_aux_lemma =>
                                        go_wp2_with fail
                                        go_roundw
                                        case rel => exact ⟨_, k + 1, _, _, rfl, by rw [HW4.out], HK.out, HR2⟩
                                        case measure => rw [HW4.out]; have := HK.out; simp only [intOf]; omega
                                    | true =>
                                      rw [g2] at ee4
                                      cases g3 : G a b with
                                      | true =>
                                        rw [g3] at ee6
                                        have HR2 := Lib.hid (HR1.out.step HP1.out HQ1.out HCL1.out (fun _ _ => g3))
                                        clear g1 g2 g3
                                        as_aux_lemma =>
                                          go_wp2_with fail
                                          go_roundw
                                          case rel => exact ⟨_, k + 1, _, _, rfl, by rw [HW4.out], HK.out, HR2⟩
                                          case measure => rw [HW4.out]; have := HK.out; simp only [intOf]; omega
                                      | false =>
                                        rw [g3] at ee6
                                        have HR2 := Lib.hid (HR1.out.goes HLS.out HA.out HBB.out HP2.out HQ2.out HP3.out HQ3.out g1 g2 g3)
                                        clear g1 g2 g3
                                        as_aux_lemma =>
                                          go_wp2_with fail
                                          go_roundw
                                          case rel => exact ⟨_, k + 1, _, _, rfl, by rw [HW4.out], HK.out, HR2⟩
                                          case measure => rw [HW4.out]; have := HK.out; simp only [intOf]; omega
                              | true =>
                                rw [h2] at cc4
                                cases h3 : C p r with
                                | true =>
                                  as_aux_lemma =>
                                    rw [h3] at cc6
                                    have HCL1 : Hid (C a b = true → M p r = true → C p r = true) := Lib.hid (fun _ _ => h3)
                                    have HR1 := HRD
                                    clear HRD h1 h2 h3
                                    go_upto_region 36 with fail
                                    clear cB cA cC hcx hcz cc1 cc2 cc3 cc4 cc5 cc6 hfc
                                    generalize hw : w11 = w12 at *
                                    generalize hC : C = C1 at *
                                    clear hw hC
                                    obtain ⟨k8, ee1, ee2, -⟩ := HR1.out.g3.g.atS HP2.out HQ2.out
                                    obtain ⟨k9, ee3, ee4, -⟩ := HR1.out.g3.m.atS HA.out HBB.out
                                    obtain ⟨k10, ee5, ee6, hfg⟩ := HR1.out.g3.g.atS HA.out HBB.out
                                    cases g1 : G p r with
                                    | false =>
                                      rw [g1] at ee2
                                      have HR2 := Lib.hid (HR1.out.step HP1.out HQ1.out HCL1.out (fun h => by rw [g1] at h; cases h))
                                      clear g1
                                      as_aux_lemma =>
                                        go_wp2_with fail
                                        go_roundw
                                        case rel => exact ⟨_, k + 1, _, _, rfl, by rw [HW4.out], HK.out, HR2⟩
                                        case measure => rw [HW4.out]; have := HK.out; simp only [intOf]; omega
                                    | true =>
                                      rw [g1] at ee2
                                      cases g2 : M a b with
                                      | false =>
                                        rw [g2] at ee4
                                        have HR2 := Lib.hid (HR1.out.step HP1.out HQ1.out HCL1.out (fun _ h => by rw [g2] at h; cases h))
                                        clear g1 g2
                                        as_aux_lemma =>
                                          go_wp2_with fail
                                          go_roundw
                                          case rel => exact ⟨_, k + 1, _, _, rfl, by rw [HW4.out], HK.out, HR2⟩
                                          case measure => rw [HW4.out]; have := HK.out; simp only [intOf]; omega
                                      | true =>
                                        rw [g2] at ee4
                                        cases g3 : G a b with
                                        | true =>
                                          rw [g3] at ee6
                                          have HR2 := Lib.hid (HR1.out.step HP1.out HQ1.out HCL1.out (fun _ _ => g3))
                                          clear g1 g2 g3
                                          as_aux_lemma =>
                                            go_wp2_with fail
                                            go_roundw
                                            case rel => exact ⟨_, k + 1, _, _, rfl, by rw [HW4.out], HK.out, HR2⟩
                                            case measure => rw [HW4.out]; have := HK.out; simp only [intOf]; omega
                                        | false =>
                                          rw [g3] at ee6
                                          have HR2 := Lib.hid (HR1.out.goes HLS.out HA.out HBB.out HP2.out HQ2.out HP3.out HQ3.out g1 g2 g3)
                                          clear g1 g2 g3
                                          as_aux_lemma =>
                                            go_wp2_with fail
                                            go_roundw
                                            case rel => exact ⟨_, k + 1, _, _, rfl, by rw [HW4.out], HK.out, HR2⟩
                                            case measure => rw [HW4.out]; have := HK.out; simp only [intOf]; omega
                                | false =>
                                  as_aux_lemma =>
                                    rw [h3] at cc6
                                    have HCL1 : Hid (u2 C p r true a b = true → M p r = true → u2 C p r true p r = true) := Lib.hid (fun _ _ => u2_up _ _ _)
                                    have HR1 := Lib.hid (HRD.out.come HLS.out HA.out HBB.out HP2.out HQ2.out HP3.out HQ3.out h1 h2 h3)
                                    clear HRD h1 h2 h3
                                    go_upto_region 36 with fail
                                    clear cB cA cC hcx hcz cc1 cc2 cc3 cc4 cc5 cc6 hfc
                                    generalize w11.setCell ⟨b2 p, r, none⟩ (.bool true) = w12 at *
                                    generalize u2 C p r true = C1 at *
                                    obtain ⟨k8, ee1, ee2, -⟩ := HR1.out.g3.g.atS HP2.out HQ2.out
                                    obtain ⟨k9, ee3, ee4, -⟩ := HR1.out.g3.m.atS HA.out HBB.out
                                    obtain ⟨k10, ee5, ee6, hfg⟩ := HR1.out.g3.g.atS HA.out HBB.out
                                    cases g1 : G p r with
                                    | false =>
                                      rw [g1] at ee2
                                      have HR2 := Lib.hid (HR1.out.step HP1.out HQ1.out HCL1.out (fun h => by rw [g1] at h; cases h))
                                      clear g1
                                      as_aux_lemma =>
                                        go_wp2_with fail
                                        go_roundw
                                        case rel => exact ⟨_, k + 1, _, _, rfl, by rw [HW4.out], HK.out, HR2⟩
                                        case measure => rw [HW4.out]; have := HK.out; simp only [intOf]; omega
                                    | true =>
                                      rw [g1] at ee2
                                      cases g2 : M a b with
                                      | false =>
                                        rw [g2] at ee4
                                        have HR2 := Lib.hid (HR1.out.step HP1.out HQ1.out HCL1.out (fun _ h => by rw [g2] at h; cases h))
                                        clear g1 g2
                                        as_aux_lemma =>
                                          go_wp2_with fail
                                          go_roundw
                                          case rel => exact ⟨_, k + 1, _, _, rfl, by rw [HW4.out], HK.out, HR2⟩
                                          case measure => rw [HW4.out]; have := HK.out; simp only [intOf]; omega
                                      | true =>
                                        rw [g2] at ee4
                                        cases g3 : G a b with
                                        | true =>
                                          rw [g3] at ee6
                                          have HR2 := Lib.hid (HR1.out.step HP1.out HQ1.out HCL1.out (fun _ _ => g3))
                                          clear g1 g2 g3
                                          as_aux_lemma =>
                                            go_wp2_with fail
                                            go_roundw
                                            case rel => exact ⟨_, k + 1, _, _, rfl, by rw [HW4.out], HK.out, HR2⟩
                                            case measure => rw [HW4.out]; have := HK.out; simp only [intOf]; omega
                                        | false =>
                                          rw [g3] at ee6
                                          have HR2 := Lib.hid (HR1.out.goes HLS.out HA.out HBB.out HP2.out HQ2.out HP3.out HQ3.out g1 g2 g3)
                                          clear g1 g2 g3
                                          as_aux_lemma =>
                                            go_wp2_with fail
                                            go_roundw
                                            case rel => exact ⟨_, k + 1, _, _, rfl, by rw [HW4.out], HK.out, HR2⟩
                                            case measure => rw [HW4.out]; have := HK.out; simp only [intOf]; omega
                          · have hdd7 : decide ((k : Int) < (lb.length : Int)) = false := decide_eq_false (by omega)
                            have hd8 : decide (k < lb.length) = false := decide_eq_false hlt
                            have hR := HRD.out
                            rw [show k = (m.fo.getD b []).length by rw [hlb.out]; omega] at hR
                            have HR2 := Lib.hid hR.nextI
                            clear hR HRD
                            go_wp2_with fail
                            go_roundw
                            case rel => exact ⟨mo, j + 1, C, G, rfl, by rw [HW3.out], HJ.out, HR2⟩
                            case measure => rw [HW3.out]; have := HJ.out; simp only [intOf]; omega
                      · have hdd5 : decide ((j : Int) < (la.length : Int)) = false := decide_eq_false (by omega)
                        have hd6 : decide (j < la.length) = false := decide_eq_false hlt
                        have hR := HRD.out
                        rw [show j = (m.fo.getD a []).length by rw [hla.out]; omega] at hR
                        have HR2 := Lib.hid hR.nextB
                        clear hR HRD
                        go_wp2_with fail
                        go_roundw
                        case rel => exact ⟨mo, b + 1, C, G, rfl, by rw [HW2.out], HBB.out, HR2⟩
                        case measure => rw [HW2.out]; have := HBB.out; simp only [intOf]; omega
                  · have hdd3 : decide ((b : Int) < (m.sp.length : Int)) = false := decide_eq_false (by omega)
                    have hd4 : decide (b < m.sp.length) = false := decide_eq_false hlt
                    have hR := HRD.out
                    rw [show b = m.sp.length by omega] at hR
                    have HR2 := Lib.hid hR.nextA
                    clear hR HRD
                    go_wp2_with fail
                    go_roundw
                    case rel => exact ⟨mo, a + 1, C, G, rfl, by rw [HW1.out], HA.out, HR2⟩
                    case measure => rw [HW1.out]; have := HA.out; simp only [intOf]; omega
              · have hdd : decide ((a : Int) < (m.sp.length : Int)) = false := decide_eq_false (by omega)
                have hd2 : decide (a < m.sp.length) = false := decide_eq_false hlt
                have hR := HRD.out
                rw [show a = m.sp.length by omega] at hR
                have HR2 := Lib.hid hR
                clear hR HRD
                go_wp2_with fail
                go_roundw
                case rel => exact ⟨mo, C, G, rfl, Lib.hid HR2.out.g3, Lib.hid HR2.out.iv, Lib.hid (fun e => (HR2.out.cv e).all), Lib.hid HR2.out.bel⟩
                case measure =>
                  have h1 := HR2.out.mu
                  have h2 := hL0.out
                  show leftG m.sp.length b2 b3 w8 + oneV (.bool mo) < leftG m.sp.length b2 b3 w7 + oneV (.bool true)
                  rw [oneV_bool, h2]
                  show _ < L0 + 1
                  omega
end Ft
end Go.Proofs.YtghbgfkkdknmnaaDoor
