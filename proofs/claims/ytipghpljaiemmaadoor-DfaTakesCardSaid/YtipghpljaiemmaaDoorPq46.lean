/- DfaTakes: the law's walk. -/
import Derived.Test.YtipghpljaiemmaaDoorPq45
namespace Go.Proofs.YtipghpljaiemmaaDoor
open Go.RowKit Sets Nf Cls Df DfK DfR
namespace Df
set_option maxHeartbeats 25600000 in
set_option maxRecDepth 100000 in
theorem dtakes_any (x : Ma) (m : Mc) (y : Ma) (o : Mc) (t : ByteArray) (w : World) (h : UnM w x m) (ho : UnM w y o) (hT : Tab w) :
    Calls Tryd.prog 5 #[.agg (mc x m), .agg (mc y o), .string t] w fun e w' => e = .returned (.bool true) ∧ Below w.heap.size w w' := by
  have HG : Hid (0 < w.heap.size) := Lib.hid (World.block_lt_of_cell? _ _ (hT 0 (by decide)))
  have HU := Lib.hid h
  have HV := Lib.hid ho
  have HT := Lib.hid hT
  clear h ho hT
  have hz := zeroD
  have hzp := zeroP
  go_enter Tryd.func5, Tryd.ntmps5
  go_upto_region 1 with fail
  obtain ⟨s, hs⟩ : ∃ s, Hid (w.heap.size = s) := ⟨_, Lib.hid rfl⟩
  have HK1 : Hid (Kp s w [(s + 1, .cells (mc y o) 27 (0, 0)), (s, .cells (mc x m) 27 (0, 0))] [] ((w.alloc (.cells (mc x m) 27)).alloc (.cells (mc y o) 27))) := Lib.hid (by
    have h0 : Kp s w [] [] w := ⟨(fun p hp => by cases hp), (fun p hp => by cases hp), Below.refl _ _, Nat.le_of_eq hs.out.symm⟩
    have h1 := (h0.push (.cells (mc x m) 27)).push (.cells (mc y o) 27)
    rw [World.size_alloc, hs.out] at h1
    exact h1)
  have HAW := Lib.hid (fun (W : World) (hb : Below s w W) => awake11_any W (HT.out.below (hs.out ▸ hb) HG.out))
  have HMX : Hid (∀ W, Below s w W → MAt W x m ∧ MAt W y o ∧ Tab W) := Lib.hid (fun W hb => by
    have hb' : Below w.heap.size w W := hs.out ▸ hb
    exact ⟨HU.out.1.kept hb', HV.out.1.kept hb', HT.out.below hb' HG.out⟩)
  rw [hs.out]
  generalize (w.alloc (.cells (mc x m) 27)).alloc (.cells (mc y o) 27) = w1 at *
  have HSM := Lib.hid (small_any x m w1 (HMX.out w1 HK1.out.bel).1.fo)
  have HSO := Lib.hid (fun (W : World) (hb : Below s w W) => small_any y o W (HMX.out W hb).2.1.fo)
  have HEND : Hid (∀ W, Below s w W → Below w.heap.size w W) := Lib.hid (fun W hb => hs.out ▸ hb)
  have HSW : Hid (∀ W, Below s w W → s ≤ W.heap.size) := Lib.hid (fun W hb => by rw [← hs.out]; exact hb.size)
  cases hgr : bigM m with
  | true =>
    rw [hgr] at HSM
    clear hgr
    go_wp2_with (first
      | (refine wpList_load_mach rfl _ rfl s x m rfl ⟨HK1.out.rows _ (.tail _ (.head _))⟩ ?_)
      | (go_at_call 8; refine HSM.out.mono ?_; rintro e w2 ⟨rfl, hb2⟩; have HB2 := Lib.hid (HK1.out.bel.trans (hb2.mono HK1.out.size)); clear hb2)
      | (go_at_call 9; refine (HAW.out w2 HB2.out).mono ?_; rintro e w3 ⟨rfl, hb3⟩; have HB3 := Lib.hid (HB2.out.trans (hb3.mono (HSW.out _ HB2.out))); clear hb3))
    go_ret
    exact ⟨rfl, HEND.out _ HB3.out⟩
  | false =>
    rw [hgr] at HSM
    have HF := Lib.hid (small_fine HU.out hgr)
    clear hgr
    cases hgo : bigM o with
    | true =>
      rw [hgo] at HSO
      clear hgo
      go_wp2_with (first
        | (refine wpList_load_mach rfl _ rfl s x m rfl ⟨HK1.out.rows _ (.tail _ (.head _))⟩ ?_)
        | (go_at_call 8; refine HSM.out.mono ?_; rintro e w2 ⟨rfl, hb2⟩; have HK2 := Lib.hid (HK1.out.stay hb2); clear hb2 HSM)
        | (refine BigFrame.wpList_want rfl (fun K' hK' => ?_); refine wp_load_mach _ rfl (s + 1) y o rfl ⟨HK2.out.rows _ (.head _)⟩ ?_; refine hK' _ _ ?_; clear hK' K')
        | (go_at_call 8; refine (HSO.out w2 HK2.out.bel).mono ?_; rintro e w3 ⟨rfl, hb3⟩; have HB3 := Lib.hid (HK2.out.bel.trans (hb3.mono HK2.out.size)); clear hb3)
        | (go_at_call 9; refine (HAW.out w3 HB3.out).mono ?_; rintro e w4 ⟨rfl, hb4⟩; have HB4 := Lib.hid (HB3.out.trans (hb4.mono (HSW.out _ HB3.out))); clear hb4))
      go_ret
      exact ⟨rfl, HEND.out _ HB4.out⟩
    | false =>
      rw [hgo] at HSO
      have HGF := Lib.hid (small_fine HV.out hgo)
      clear hgo
      by_cases hts : 100 < t.size
      · have hd : decide ((100 : Int) < (t.size : Int)) = true := decide_eq_true (by omega)
        have hd' : decide (100 < t.size) = true := decide_eq_true hts
        clear hts
        go_wp2_with (first
          | (refine wpList_load_mach rfl _ rfl s x m rfl ⟨HK1.out.rows _ (.tail _ (.head _))⟩ ?_)
          | (go_at_call 8; refine HSM.out.mono ?_; rintro e w2 ⟨rfl, hb2⟩; have HK2 := Lib.hid (HK1.out.stay hb2); clear hb2 HSM)
          | (refine BigFrame.wpList_want rfl (fun K' hK' => ?_); refine wp_load_mach _ rfl (s + 1) y o rfl ⟨HK2.out.rows _ (.head _)⟩ ?_; refine hK' _ _ ?_; clear hK' K')
          | (go_at_call 8; refine (HSO.out w2 HK2.out.bel).mono ?_; rintro e w3 ⟨rfl, hb3⟩; have HB3 := Lib.hid (HK2.out.bel.trans (hb3.mono HK2.out.size)); clear hb3)
          | (go_at_call 9; refine (HAW.out w3 HB3.out).mono ?_; rintro e w4 ⟨rfl, hb4⟩; have HB4 := Lib.hid (HB3.out.trans (hb4.mono (HSW.out _ HB3.out))); clear hb4))
        go_ret
        exact ⟨rfl, HEND.out _ HB4.out⟩
      · have hd : decide ((100 : Int) < (t.size : Int)) = false := decide_eq_false (by omega)
        have hd' : decide (100 < t.size) = false := decide_eq_false hts
        have HTS : Hid (t.size ≤ 1000) := Lib.hid (by omega)
        clear hts
        go_upto_region 3 with (first
          | (refine wpList_load_mach rfl _ rfl s x m rfl ⟨HK1.out.rows _ (.tail _ (.head _))⟩ ?_)
          | (go_at_call 8; refine HSM.out.mono ?_; rintro e w2 ⟨rfl, hb2⟩; have HK2 := Lib.hid (HK1.out.stay hb2); clear hb2 HSM)
          | (refine BigFrame.wpList_want rfl (fun K' hK' => ?_); refine wp_load_mach _ rfl (s + 1) y o rfl ⟨HK2.out.rows _ (.head _)⟩ ?_; refine hK' _ _ ?_; clear hK' K')
          | (go_at_call 8; refine (HSO.out w2 HK2.out.bel).mono ?_; rintro e w3 ⟨rfl, hb3⟩; have HK3 := Lib.hid (HK2.out.stay hb3); clear hb3))
        clear hd hd' HSO HK2 HK1
        clear w1 w2
        obtain ⟨of, hof⟩ : ∃ of, Hid (cls (same (ptL m o)) = of) := ⟨_, Lib.hid rfl⟩
        obtain ⟨nc, hnc⟩ : ∃ nc : Nat, Hid (nh (same (ptL m o)) 256 = nc) := ⟨_, Lib.hid rfl⟩
        have HPR : Hid (prightB of nc = true) := Lib.hid (by rw [← hof.out, ← hnc.out]; exact psame_right _)
        have HWM : Hid (Whole m of) := Lib.hid (by rw [← hof.out]; exact psame_whole (fun S hS => List.mem_append_left _ hS))
        have HWO : Hid (Whole o of) := Lib.hid (by rw [← hof.out]; exact psame_whole (fun S hS => List.mem_append_right _ hS))
        have HPT := Lib.hid (parted_any x y m o w3 (HMX.out w3 HK3.out.bel).1 (HMX.out w3 HK3.out.bel).2.1 HF.out.1 HGF.out.1 HF.out.2 HGF.out.2)
        rw [hof.out, hnc.out] at HPT
        go_upto_region 4 with (first
          | (refine wpList_load_mach rfl _ rfl s x m rfl ⟨HK3.out.rows _ (.tail _ (.head _))⟩ ?_)
          | (refine wpList_load_mach rfl _ rfl (s + 1) y o rfl ⟨HK3.out.rows _ (.head _)⟩ ?_)
          | (go_at_call 10; refine HPT.out.mono ?_; rintro e w4 ⟨rfl, hb4⟩; have HK4 := Lib.hid (HK3.out.stay hb4); clear hb4)
          | (refine wpList_store_row rfl 30 (.tmp 7) (.tmp 36) rfl w4.heap.size (partC of nc) rfl rfl 30 _ (heap_alloc_new w4 _) (sizeP of nc) (by rw [partC_size, partC_size]) (partC_one of nc) ?_; rw [World.setRow_alloc_new]))
        rw [show ∀ a : Act, a.put none undef = a from fun _ => rfl]
        have HK5 := Lib.hid (HK4.out.push (.cells (partC of nc) 30))
        clear HK4 HK3 HPT
        obtain ⟨pb, hpb⟩ : ∃ pb, Hid (w4.heap.size = pb) := ⟨_, Lib.hid rfl⟩
        rw [hpb.out] at HK5 ⊢
        generalize w4.alloc (.cells (partC of nc) 30) = w5 at *
        clear hpb w3 w4
        have HBA := Lib.hid (build_any x m of nc w5 (HMX.out w5 HK5.out.bel).1 HF.out.1 HF.out.2 HPR.out HWM.out (HMX.out w5 HK5.out.bel).2.2)
        obtain ⟨e1, he1⟩ : ∃ e1 : Int, Hid ((if rightM m = true then (0 : Int) else 1) = e1) := ⟨_, Lib.hid rfl⟩
        rw [he1.out] at HBA
        go_upto_region 5 with (first
          | (refine wpList_load_mach rfl _ rfl s x m rfl ⟨HK5.out.rows _ (.tail _ (.tail _ (.head _)))⟩ ?_)
          | (refine wpList_load_row rfl 30 _ rfl pb rfl 30 (partC of nc) (0, 0) _ (HK5.out.rows _ (.head _)) Tryd.underlying30 rfl (sizeP of nc) ?_)
          | (go_at_call 11; refine HBA.out.mono ?_; rintro e w6 ⟨za, a, rfl, hb6, hba⟩; have HK6 := Lib.hid (HK5.out.stay hb6); have HDA := Lib.hid hba; clear hb6 hba)
          | (refine wpList_lay_dv rfl (.tmp 8) (.tmp 41) rfl za a rfl rfl ?_))
        have HK7 := Lib.hid (HK6.out.push (.cells (dvC za a) 35))
        have HDA7 : Hid (rightM m = true → DAt (w6.alloc (.cells (dvC za a) 35)) za a ∧ Bd m of nc a) := Lib.hid (fun h => ⟨(HDA.out h).1.at.kept ((Below.refl _ _).alloc (Nat.le_refl _) _), (HDA.out h).2⟩)
        clear HK6 HK5 HBA HDA
        obtain ⟨ab, hab⟩ : ∃ ab, Hid (w6.heap.size = ab) := ⟨_, Lib.hid rfl⟩
        rw [hab.out] at HK7 ⊢
        generalize w6.alloc (.cells (dvC za a) 35) = w7 at *
        clear hab w5 w6
        have HBB := Lib.hid (build_any y o of nc w7 (HMX.out w7 HK7.out.bel).2.1 HGF.out.1 HGF.out.2 HPR.out HWO.out (HMX.out w7 HK7.out.bel).2.2)
        obtain ⟨e2, he2⟩ : ∃ e2 : Int, Hid ((if rightM o = true then (0 : Int) else 1) = e2) := ⟨_, Lib.hid rfl⟩
        rw [he2.out] at HBB
        go_upto_region 6 with (first
          | (refine wpList_load_mach rfl _ rfl (s + 1) y o rfl ⟨HK7.out.rows _ (.tail _ (.tail _ (.head _)))⟩ ?_)
          | (refine wpList_load_row rfl 30 _ rfl pb rfl 30 (partC of nc) (0, 0) _ (HK7.out.rows _ (.tail _ (.head _))) Tryd.underlying30 rfl (sizeP of nc) ?_)
          | (go_at_call 11; refine HBB.out.mono ?_; rintro e w8 ⟨zb, b, rfl, hb8, hba⟩; have HK8 := Lib.hid (HK7.out.stay hb8); have HDA8 : Hid (rightM m = true → DAt w8 za a ∧ Bd m of nc a) := Lib.hid (fun h => ⟨(HDA7.out h).1.kept hb8, (HDA7.out h).2⟩); have HDB := Lib.hid hba; clear hb8 hba)
          | (refine wpList_lay_dv rfl (.tmp 10) (.tmp 47) rfl zb b rfl rfl ?_))
        have HK9 := Lib.hid (HK8.out.push (.cells (dvC zb b) 35))
        have hal := (Below.refl w8.heap.size w8).alloc (Nat.le_refl _) (.cells (dvC zb b) 35)
        have HDA9 : Hid (rightM m = true → DAt (w8.alloc (.cells (dvC zb b) 35)) za a ∧ Bd m of nc a) := Lib.hid (fun h => ⟨(HDA8.out h).1.kept hal, (HDA8.out h).2⟩)
        have HDB9 : Hid (rightM o = true → DAt (w8.alloc (.cells (dvC zb b) 35)) zb b ∧ Bd o of nc b) := Lib.hid (fun h => ⟨(HDB.out h).1.at.kept hal, (HDB.out h).2⟩)
        clear HK8 HK7 HBB HDB HDA8 HDA7 hal
        obtain ⟨bb, hbb⟩ : ∃ bb, Hid (w8.heap.size = bb) := ⟨_, Lib.hid rfl⟩
        rw [hbb.out] at HK9 ⊢
        generalize w8.alloc (.cells (dvC zb b) 35) = w9 at *
        clear hbb w7 w8
        have HRM := Lib.hid (nright_any x m w9 (HMX.out w9 HK9.out.bel).1 HF.out.1)
        have HRO := Lib.hid (fun (W : World) (hb : Below s w W) => nright_any y o W (HMX.out W hb).2.1 HGF.out.1)
        rw [mv_eq] at HRM
        simp only [mv_eq] at HRO
        cases hrm : rightM m with
        | false =>
          rw [hrm] at HRM he1
          rw [if_neg Bool.false_ne_true] at he1
          have h1 := he1.out
          subst h1
          clear hrm
          go_wp2_with (first
            | (refine wpList_load_mach rfl _ rfl s x m rfl ⟨HK9.out.rows _ (.tail _ (.tail _ (.tail _ (.tail _ (.head _)))))⟩ ?_)
            | (go_at_call 28; refine HRM.out.mono ?_; rintro e w10 ⟨rfl, hb10⟩; have HB10 := Lib.hid (HK9.out.bel.trans (hb10.mono HK9.out.size)); clear hb10)
            | (go_at_call 9; refine (HAW.out w10 HB10.out).mono ?_; rintro e w11 ⟨rfl, hb11⟩; have HB11 := Lib.hid (HB10.out.trans (hb11.mono (HSW.out _ HB10.out))); clear hb11))
          go_ret
          exact ⟨rfl, HEND.out _ HB11.out⟩
        | true =>
          have HDA := Lib.hid (HDA9.out hrm)
          rw [hrm] at HRM he1
          rw [if_pos rfl] at he1
          have h1 := he1.out
          subst h1
          have HRT := Lib.hid ((right_iff m).1 hrm)
          clear hrm HDA9
          cases hro : rightM o with
          | false =>
            rw [hro] at HRO he2
            rw [if_neg Bool.false_ne_true] at he2
            have h1 := he2.out
            subst h1
            clear hro
            go_wp2_with (first
              | (refine wpList_load_mach rfl _ rfl s x m rfl ⟨HK9.out.rows _ (.tail _ (.tail _ (.tail _ (.tail _ (.head _)))))⟩ ?_)
              | (go_at_call 28; refine HRM.out.mono ?_; rintro e w10 ⟨rfl, hb10⟩; have HK10 := Lib.hid (HK9.out.stay hb10); clear hb10 HRM)
              | (refine BigFrame.wpList_want rfl (fun K' hK' => ?_); refine wp_load_mach _ rfl (s + 1) y o rfl ⟨HK10.out.rows _ (.tail _ (.tail _ (.tail _ (.head _))))⟩ ?_; refine hK' _ _ ?_; clear hK' K')
              | (go_at_call 28; refine (HRO.out w10 HK10.out.bel).mono ?_; rintro e w11 ⟨rfl, hb11⟩; have HB11 := Lib.hid (HK10.out.bel.trans (hb11.mono HK10.out.size)); clear hb11)
              | (go_at_call 9; refine (HAW.out w11 HB11.out).mono ?_; rintro e w12 ⟨rfl, hb12⟩; have HB12 := Lib.hid (HB11.out.trans (hb12.mono (HSW.out _ HB11.out))); clear hb12))
            go_ret
            exact ⟨rfl, HEND.out _ HB12.out⟩
          | true =>
            have HDB := Lib.hid (HDB9.out hro)
            rw [hro] at he2
            rw [if_pos rfl] at he2
            have h1 := he2.out
            subst h1
            clear hro HDB9 HRM HRO
            have HKA := Lib.hid ((HK9.out.addD HDA.out.1).addD HDB.out.1)
            clear HK9
            obtain ⟨X, hX⟩ : ∃ X, Hid (takesM m (Nf.bs t) = X) := ⟨_, Lib.hid rfl⟩
            obtain ⟨Y, hY⟩ : ∃ Y, Hid (takesM o (Nf.bs t) = Y) := ⟨_, Lib.hid rfl⟩
            have HRX := Lib.hid (nrun_any x m t w9 (HMX.out w9 HKA.out.bel).1 HF.out.1 HTS.out (HMX.out w9 HKA.out.bel).2.2)
            rw [hX.out] at HRX
            go_upto_region 9 with (first
              | (refine wpList_load_mach rfl _ rfl s x m rfl ⟨HKA.out.rows _ (.tail _ (.tail _ (.tail _ (.tail _ (.head _)))))⟩ ?_)
              | (go_at_call 29; refine HRX.out.mono ?_; rintro e w10 ⟨rfl, hb10⟩; have HKB := Lib.hid (HKA.out.stay hb10); clear hb10))
            clear HRX HKA
            have HRY := Lib.hid (nrun_any y o t w10 (HMX.out w10 HKB.out.bel).2.1 HGF.out.1 HTS.out (HMX.out w10 HKB.out.bel).2.2)
            rw [hY.out] at HRY
            go_upto_region 10 with (first
              | (refine wpList_load_mach rfl _ rfl (s + 1) y o rfl ⟨HKB.out.rows _ (.tail _ (.tail _ (.tail _ (.head _))))⟩ ?_)
              | (go_at_call 29; refine HRY.out.mono ?_; rintro e w11 ⟨rfl, hb11⟩; have HKC := Lib.hid (HKB.out.stay hb11); clear hb11))
            clear HRY HKB
            have HBA := Lib.hid HDA.out.2
            have HBB := Lib.hid HDB.out.2
            clear HDA HDB
            clear w9 w10
            have HTA : Hid (takesD a (Nf.bs t) = X) := Lib.hid (by rw [HBA.out.takes, hX.out])
            have HTB : Hid (takesD b (Nf.bs t) = Y) := Lib.hid (by rw [HBB.out.takes, hY.out])
            have HNO := Lib.hid (not_any za a w11 (HKC.out.das (za, a) (.tail _ (.head _))) HBA.out.fine HBA.out.right)
            go_upto_region 11 with (first
              | (refine wpList_load_df rfl _ rfl ab za a rfl ⟨HKC.out.rows _ (.tail _ (.head _))⟩ ?_)
              | (go_at_call 16; refine HNO.out.mono ?_; rintro e w12 ⟨zn, rfl, hon, hb12⟩; have HKD := Lib.hid ((HKC.out.stay hb12).addD hon.at); clear hb12 hon)
              | (refine wpList_lay_dv rfl (.tmp 14) (.tmp 74) rfl zn (notD a) rfl rfl ?_))
            have HKE := Lib.hid (HKD.out.push (.cells (dvC zn (notD a)) 35))
            clear HKC HKD HNO
            obtain ⟨nb, hnb⟩ : ∃ nb, Hid (w12.heap.size = nb) := ⟨_, Lib.hid rfl⟩
            rw [hnb.out] at HKE ⊢
            generalize w12.alloc (.cells (dvC zn (notD a)) 35) = w13 at *
            clear hnb w11 w12
            have HBO := Lib.hid (fun (how : Nat) (hh : how = 1 ∨ how = 2 ∨ how = 3) (W : World) (h1 : DAt W za a) (h2 : DAt W zb b) => both_any za zb a b how nc W h1 h2 HBA.out.fine HBB.out.fine HBA.out.right HBB.out.right (HBA.out.of.trans HBB.out.of.symm) HBA.out.n HBB.out.n hh HBA.out.few HBB.out.few)
            have HB1 := Lib.hid (HBO.out 1 (.inl rfl) w13 (HKE.out.das (za, a) (.tail _ (.tail _ (.head _)))) (HKE.out.das (zb, b) (.tail _ (.head _))))
            go_upto_region 12 with (first
              | (refine wpList_load_df rfl _ rfl ab za a rfl ⟨HKE.out.rows _ (.tail _ (.tail _ (.head _)))⟩ ?_)
              | (refine wpList_load_df rfl _ rfl bb zb b rfl ⟨HKE.out.rows _ (.tail _ (.head _))⟩ ?_)
              | (go_at_call 15; refine HB1.out.mono ?_; rintro e w14 ⟨z1, d1, rfl, hd1, hf1, hr1, ht1, hb14⟩; have HKF := Lib.hid ((HKE.out.stay hb14).addD hd1); have ht2 := ht1 t; rw [HTA.out, HTB.out] at ht2; have HF1 := Lib.hid (And.intro hf1 (And.intro hr1 ht2)); clear ht2 hb14 hd1 hf1 hr1 ht1)
              | (refine wpList_lay_dv rfl (.tmp 15) (.tmp 80) rfl z1 d1 rfl rfl ?_))
            have HKG := Lib.hid (HKF.out.push (.cells (dvC z1 d1) 35))
            clear HKE HKF HB1
            obtain ⟨b1, hb1⟩ : ∃ b1, Hid (w14.heap.size = b1) := ⟨_, Lib.hid rfl⟩
            rw [hb1.out] at HKG ⊢
            generalize w14.alloc (.cells (dvC z1 d1) 35) = w15 at *
            clear hb1 w13 w14
            have HB1 := Lib.hid (HBO.out 2 (.inr (.inl rfl)) w15 (HKG.out.das (za, a) (.tail _ (.tail _ (.tail _ (.head _))))) (HKG.out.das (zb, b) (.tail _ (.tail _ (.head _)))))
            go_upto_region 13 with (first
              | (refine wpList_load_df rfl _ rfl ab za a rfl ⟨HKG.out.rows _ (.tail _ (.tail _ (.tail _ (.head _))))⟩ ?_)
              | (refine wpList_load_df rfl _ rfl bb zb b rfl ⟨HKG.out.rows _ (.tail _ (.tail _ (.head _)))⟩ ?_)
              | (go_at_call 15; refine HB1.out.mono ?_; rintro e w16 ⟨z2, d2, rfl, hd1, hf1, hr1, ht1, hb14⟩; have HKF := Lib.hid ((HKG.out.stay hb14).addD hd1); have ht2 := ht1 t; rw [HTA.out, HTB.out] at ht2; have HF2 := Lib.hid (And.intro hf1 (And.intro hr1 ht2)); clear ht2 hb14 hd1 hf1 hr1 ht1)
              | (refine wpList_lay_dv rfl (.tmp 16) (.tmp 86) rfl z2 d2 rfl rfl ?_))
            have HKH := Lib.hid (HKF.out.push (.cells (dvC z2 d2) 35))
            clear HKG HKF HB1
            obtain ⟨b2, hb2⟩ : ∃ b2, Hid (w16.heap.size = b2) := ⟨_, Lib.hid rfl⟩
            rw [hb2.out] at HKH ⊢
            generalize w16.alloc (.cells (dvC z2 d2) 35) = w17 at *
            clear hb2 w15 w16
            have HB1 := Lib.hid (HBO.out 3 (.inr (.inr rfl)) w17 (HKH.out.das (za, a) (.tail _ (.tail _ (.tail _ (.tail _ (.head _)))))) (HKH.out.das (zb, b) (.tail _ (.tail _ (.tail _ (.head _))))))
            go_upto_region 14 with (first
              | (refine wpList_load_df rfl _ rfl ab za a rfl ⟨HKH.out.rows _ (.tail _ (.tail _ (.tail _ (.tail _ (.head _)))))⟩ ?_)
              | (refine wpList_load_df rfl _ rfl bb zb b rfl ⟨HKH.out.rows _ (.tail _ (.tail _ (.tail _ (.head _))))⟩ ?_)
              | (go_at_call 15; refine HB1.out.mono ?_; rintro e w18 ⟨z3, d3, rfl, hd1, hf1, hr1, ht1, hb14⟩; have HKF := Lib.hid ((HKH.out.stay hb14).addD hd1); have ht2 := ht1 t; rw [HTA.out, HTB.out] at ht2; have HF3 := Lib.hid (And.intro hf1 (And.intro hr1 ht2)); clear ht2 hb14 hd1 hf1 hr1 ht1)
              | (refine wpList_lay_dv rfl (.tmp 18) (.tmp 92) rfl z3 d3 rfl rfl ?_))
            have HKI := Lib.hid (HKF.out.push (.cells (dvC z3 d3) 35))
            clear HKH HKF HB1 HBO
            obtain ⟨b3, hb3⟩ : ∃ b3, Hid (w18.heap.size = b3) := ⟨_, Lib.hid rfl⟩
            rw [hb3.out] at HKI ⊢
            generalize w18.alloc (.cells (dvC z3 d3) 35) = w19 at *
            clear hb3 w17 w18
            have HTS2 : Hid (t.size ≤ 100000) := Lib.hid (by have := HTS.out; omega)
            have HRA := Lib.hid (drun_any za a t w19 (HKI.out.das (za, a) (.tail _ (.tail _ (.tail _ (.tail _ (.tail _ (.head _))))))) HBA.out.fine HTS2.out)
            have HRN := Lib.hid (fun (W : World) (hd : DAt W zn (notD a)) => drun_any zn (notD a) t W hd (not_fine HBA.out.fine) HTS2.out)
            rw [HTA.out] at HRA
            rw [not_takes HBA.out.right _ (Nf.bs_lt t), HTA.out] at HRN
            go_upto_region 16 with (first
              | (refine BigFrame.wpList_want rfl (fun K' hK' => ?_); refine wp_load_dv _ rfl ab za a rfl ⟨HKI.out.rows _ (.tail _ (.tail _ (.tail _ (.tail _ (.tail _ (.head _))))))⟩ ?_; refine hK' _ _ ?_; clear hK' K')
              | (go_at_call 24; refine HRA.out.mono ?_; rintro e w20 ⟨rfl, hb20⟩; have HKJ := Lib.hid (HKI.out.stay hb20); clear hb20 HRA)
              | (refine BigFrame.wpList_want rfl (fun K' hK' => ?_); refine wp_load_dv _ rfl nb zn (notD a) rfl ⟨HKJ.out.rows _ (.tail _ (.tail _ (.tail _ (.head _))))⟩ ?_; refine hK' _ _ ?_; clear hK' K')
              | (go_at_call 24; refine (HRN.out w20 (HKJ.out.das (zn, notD a) (.tail _ (.tail _ (.tail _ (.head _)))))).mono ?_; rintro e w21 ⟨rfl, hb21⟩; have HKK := Lib.hid (HKJ.out.stay hb21); clear hb21 HRN))
            have HR1 := Lib.hid (fun (W : World) (hd : DAt W z1 d1) => drun_any z1 d1 t W hd HF1.out.1 HTS2.out)
            have HR2 := Lib.hid (fun (W : World) (hd : DAt W z2 d2) => drun_any z2 d2 t W hd HF2.out.1 HTS2.out)
            have HR3 := Lib.hid (fun (W : World) (hd : DAt W z3 d3) => drun_any z3 d3 t W hd HF3.out.1 HTS2.out)
            rw [HF1.out.2.2] at HR1
            rw [HF2.out.2.2] at HR2
            rw [HF3.out.2.2] at HR3
            clear HF1 HF2 HF3 HTA HTB HTS2 HKI HKJ hX hY HBA HBB
            cases X with
            | false =>
              cases Y with
              | false =>
                rw [show joinB 1 false false = false from rfl] at HR1
                rw [show joinB 2 false false = false from rfl] at HR2
                rw [show joinB 3 false false = false from rfl] at HR3
                go_wp2_with (first
                  | (refine BigFrame.wpList_want rfl (fun K' hK' => ?_); refine wp_load_dv _ rfl b1 z1 d1 rfl ⟨HKK.out.rows _ (.tail _ (.tail _ (.head _)))⟩ ?_; refine hK' _ _ ?_; clear hK' K')
                  | (go_at_call 24; refine (HR1.out w21 (HKK.out.das (z1, d1) (.tail _ (.tail _ (.head _))))).mono ?_; rintro e w22 ⟨rfl, hbw22⟩; have HKL := Lib.hid (HKK.out.stay hbw22); clear hbw22 HR1)
                  | (refine BigFrame.wpList_want rfl (fun K' hK' => ?_); refine wp_load_dv _ rfl b2 z2 d2 rfl ⟨HKL.out.rows _ (.tail _ (.head _))⟩ ?_; refine hK' _ _ ?_; clear hK' K')
                  | (go_at_call 24; refine (HR2.out w22 (HKL.out.das (z2, d2) (.tail _ (.head _)))).mono ?_; rintro e w23 ⟨rfl, hbw23⟩; have HKM := Lib.hid (HKL.out.stay hbw23); clear hbw23 HR2)
                  | (refine BigFrame.wpList_want rfl (fun K' hK' => ?_); refine wp_load_dv _ rfl b3 z3 d3 rfl ⟨HKM.out.rows _ (.head _)⟩ ?_; refine hK' _ _ ?_; clear hK' K')
                  | (go_at_call 24; refine (HR3.out w23 (HKM.out.das (z3, d3) (.head _))).mono ?_; rintro e w24 ⟨rfl, hbw24⟩; have HKN := Lib.hid (HKM.out.stay hbw24); clear hbw24 HR3)
                  | (go_at_call 9; refine (HAW.out w24 HKN.out.bel).mono ?_; rintro e w25 ⟨rfl, hb25⟩; have HBZ := Lib.hid (HKN.out.bel.trans (hb25.mono HKN.out.size)); clear hb25))
                go_ret
                exact ⟨rfl, HEND.out _ HBZ.out⟩
              | true =>
                rw [show joinB 1 false true = false from rfl] at HR1
                rw [show joinB 2 false true = true from rfl] at HR2
                rw [show joinB 3 false true = true from rfl] at HR3
                go_wp2_with (first
                  | (refine BigFrame.wpList_want rfl (fun K' hK' => ?_); refine wp_load_dv _ rfl b1 z1 d1 rfl ⟨HKK.out.rows _ (.tail _ (.tail _ (.head _)))⟩ ?_; refine hK' _ _ ?_; clear hK' K')
                  | (go_at_call 24; refine (HR1.out w21 (HKK.out.das (z1, d1) (.tail _ (.tail _ (.head _))))).mono ?_; rintro e w22 ⟨rfl, hbw22⟩; have HKL := Lib.hid (HKK.out.stay hbw22); clear hbw22 HR1)
                  | (refine BigFrame.wpList_want rfl (fun K' hK' => ?_); refine wp_load_dv _ rfl b2 z2 d2 rfl ⟨HKL.out.rows _ (.tail _ (.head _))⟩ ?_; refine hK' _ _ ?_; clear hK' K')
                  | (go_at_call 24; refine (HR2.out w22 (HKL.out.das (z2, d2) (.tail _ (.head _)))).mono ?_; rintro e w23 ⟨rfl, hbw23⟩; have HKM := Lib.hid (HKL.out.stay hbw23); clear hbw23 HR2)
                  | (refine BigFrame.wpList_want rfl (fun K' hK' => ?_); refine wp_load_dv _ rfl b3 z3 d3 rfl ⟨HKM.out.rows _ (.head _)⟩ ?_; refine hK' _ _ ?_; clear hK' K')
                  | (go_at_call 24; refine (HR3.out w23 (HKM.out.das (z3, d3) (.head _))).mono ?_; rintro e w24 ⟨rfl, hbw24⟩; have HKN := Lib.hid (HKM.out.stay hbw24); clear hbw24 HR3)
                  | (go_at_call 9; refine (HAW.out w24 HKN.out.bel).mono ?_; rintro e w25 ⟨rfl, hb25⟩; have HBZ := Lib.hid (HKN.out.bel.trans (hb25.mono HKN.out.size)); clear hb25))
                go_ret
                exact ⟨rfl, HEND.out _ HBZ.out⟩
            | true =>
              cases Y with
              | false =>
                rw [show joinB 1 true false = false from rfl] at HR1
                rw [show joinB 2 true false = true from rfl] at HR2
                rw [show joinB 3 true false = true from rfl] at HR3
                go_wp2_with (first
                  | (refine BigFrame.wpList_want rfl (fun K' hK' => ?_); refine wp_load_dv _ rfl b1 z1 d1 rfl ⟨HKK.out.rows _ (.tail _ (.tail _ (.head _)))⟩ ?_; refine hK' _ _ ?_; clear hK' K')
                  | (go_at_call 24; refine (HR1.out w21 (HKK.out.das (z1, d1) (.tail _ (.tail _ (.head _))))).mono ?_; rintro e w22 ⟨rfl, hbw22⟩; have HKL := Lib.hid (HKK.out.stay hbw22); clear hbw22 HR1)
                  | (refine BigFrame.wpList_want rfl (fun K' hK' => ?_); refine wp_load_dv _ rfl b2 z2 d2 rfl ⟨HKL.out.rows _ (.tail _ (.head _))⟩ ?_; refine hK' _ _ ?_; clear hK' K')
                  | (go_at_call 24; refine (HR2.out w22 (HKL.out.das (z2, d2) (.tail _ (.head _)))).mono ?_; rintro e w23 ⟨rfl, hbw23⟩; have HKM := Lib.hid (HKL.out.stay hbw23); clear hbw23 HR2)
                  | (refine BigFrame.wpList_want rfl (fun K' hK' => ?_); refine wp_load_dv _ rfl b3 z3 d3 rfl ⟨HKM.out.rows _ (.head _)⟩ ?_; refine hK' _ _ ?_; clear hK' K')
                  | (go_at_call 24; refine (HR3.out w23 (HKM.out.das (z3, d3) (.head _))).mono ?_; rintro e w24 ⟨rfl, hbw24⟩; have HKN := Lib.hid (HKM.out.stay hbw24); clear hbw24 HR3)
                  | (go_at_call 9; refine (HAW.out w24 HKN.out.bel).mono ?_; rintro e w25 ⟨rfl, hb25⟩; have HBZ := Lib.hid (HKN.out.bel.trans (hb25.mono HKN.out.size)); clear hb25))
                go_ret
                exact ⟨rfl, HEND.out _ HBZ.out⟩
              | true =>
                rw [show joinB 1 true true = true from rfl] at HR1
                rw [show joinB 2 true true = true from rfl] at HR2
                rw [show joinB 3 true true = false from rfl] at HR3
                go_wp2_with (first
                  | (refine BigFrame.wpList_want rfl (fun K' hK' => ?_); refine wp_load_dv _ rfl b1 z1 d1 rfl ⟨HKK.out.rows _ (.tail _ (.tail _ (.head _)))⟩ ?_; refine hK' _ _ ?_; clear hK' K')
                  | (go_at_call 24; refine (HR1.out w21 (HKK.out.das (z1, d1) (.tail _ (.tail _ (.head _))))).mono ?_; rintro e w22 ⟨rfl, hbw22⟩; have HKL := Lib.hid (HKK.out.stay hbw22); clear hbw22 HR1)
                  | (refine BigFrame.wpList_want rfl (fun K' hK' => ?_); refine wp_load_dv _ rfl b2 z2 d2 rfl ⟨HKL.out.rows _ (.tail _ (.head _))⟩ ?_; refine hK' _ _ ?_; clear hK' K')
                  | (go_at_call 24; refine (HR2.out w22 (HKL.out.das (z2, d2) (.tail _ (.head _)))).mono ?_; rintro e w23 ⟨rfl, hbw23⟩; have HKM := Lib.hid (HKL.out.stay hbw23); clear hbw23 HR2)
                  | (refine BigFrame.wpList_want rfl (fun K' hK' => ?_); refine wp_load_dv _ rfl b3 z3 d3 rfl ⟨HKM.out.rows _ (.head _)⟩ ?_; refine hK' _ _ ?_; clear hK' K')
                  | (go_at_call 24; refine (HR3.out w23 (HKM.out.das (z3, d3) (.head _))).mono ?_; rintro e w24 ⟨rfl, hbw24⟩; have HKN := Lib.hid (HKM.out.stay hbw24); clear hbw24 HR3)
                  | (go_at_call 9; refine (HAW.out w24 HKN.out.bel).mono ?_; rintro e w25 ⟨rfl, hb25⟩; have HBZ := Lib.hid (HKN.out.bel.trans (hb25.mono HKN.out.size)); clear hb25))
                go_ret
                exact ⟨rfl, HEND.out _ HBZ.out⟩
end Df
end Go.Proofs.YtipghpljaiemmaaDoor
