/- DfaClasses: the law's walk. -/
import Derived.Test.YtipghpljaiemmaaDoorPqC1
namespace Go.Proofs.YtipghpljaiemmaaDoor
open Go.RowKit Sets Nf Cls Df DfK DfR
namespace Df
theorem OvI.next {W0 wD W : World} {D B : Nat} {z : Dx} {d : Dm} {vs : List Value} (h : OvI W0 wD D W) (ho : OwnD B W0 d.R d.F (.slice z.a d.R.length z.ac) (.slice z.b d.F.length z.bc) vs) {j : Nat} (hj : j < d.R.length) :
    ∃ g a c, z.a = some ⟨g, 0, none⟩ ∧ W.cell? ⟨g, j, none⟩ = some (.slice a (d.R.getD j []).length c) ∧ OwnN B W0 (.slice a (d.R.getD j []).length c) (d.R.getD j []) := by
  have he := ho.each j hj
  obtain ⟨a, c, e, -⟩ := he.nums
  rw [e] at he
  have hj2 : j < vs.length := by rw [ho.len]; exact hj
  have hu : vs[j]? = some (.slice a (d.R.getD j []).length c) := by
    rw [← e, List.getD_eq_getElem?_getD, List.getElem?_eq_getElem hj2]; rfl
  obtain ⟨g, u', e2, -, h2, h3, -, -⟩ := h.sim.own ho.nx hu
  exact ⟨g, a, c, e2, by rw [h3, lk_slice h2], he⟩
def nilMa : Ma := ⟨none, 0, none, 0, none, 0, none, 0⟩
def nilMc : Mc := ⟨[], [], [], [], false⟩
theorem nil_at (w : World) : MAt w nilMa nilMc := ⟨fun _ hi => absurd hi (Nat.not_lt_zero _), fun _ hi => absurd hi (Nat.not_lt_zero _), fun _ hi => absurd hi (Nat.not_lt_zero _), fun _ hi => absurd hi (Nat.not_lt_zero _)⟩
theorem nil_fine : Fine nilMc := ⟨by simp [nilMc], by simp [nilMc], by simp [nilMc], by simp [nilMc], fun l h => (by cases h), fun k h => (by cases h), fun s h => (by cases h)⟩
set_option maxHeartbeats 25600000 in
set_option maxRecDepth 100000 in
theorem dclass_any (x : Ma) (m : Mc) (t : ByteArray) (w : World) (h : UnM w x m) (hT : Tab w) :
    Calls Tryd.prog 7 #[.agg (mc x m), .string t] w fun e w' => e = .returned (.bool true) ∧ Below w.heap.size w w' := by
  have HG : Hid (0 < w.heap.size) := Lib.hid (World.block_lt_of_cell? _ _ (hT 0 (by decide)))
  have HU := Lib.hid h
  have HT := Lib.hid hT
  clear h hT
  have hz := zeroD
  have hzp := zeroP
  go_enter Tryd.func7, Tryd.ntmps7
  go_upto_region 1 with fail
  obtain ⟨s, hs⟩ : ∃ s, Hid (w.heap.size = s) := ⟨_, Lib.hid rfl⟩
  have HK1 : Hid (Kp s w [(s, .cells (mc x m) 27 (0, 0))] [] (w.alloc (.cells (mc x m) 27))) := Lib.hid (by
    have h0 : Kp s w [] [] w := ⟨(fun p hp => by cases hp), (fun p hp => by cases hp), Below.refl _ _, Nat.le_of_eq hs.out.symm⟩
    have h1 := h0.push (.cells (mc x m) 27)
    rw [hs.out] at h1
    exact h1)
  have HAW := Lib.hid (fun (W : World) (hb : Below s w W) => awake11_any W (HT.out.below (hs.out ▸ hb) HG.out))
  have HMX : Hid (∀ W, Below s w W → MAt W x m ∧ Tab W) := Lib.hid (fun W hb => by
    have hb' : Below w.heap.size w W := hs.out ▸ hb
    exact ⟨HU.out.1.kept hb', HT.out.below hb' HG.out⟩)
  rw [hs.out]
  generalize w.alloc (.cells (mc x m) 27) = w1 at *
  have HSM := Lib.hid (small_any x m w1 (HMX.out w1 HK1.out.bel).1.fo)
  have HEND : Hid (∀ W, Below s w W → Below w.heap.size w W) := Lib.hid (fun W hb => hs.out ▸ hb)
  have HSW : Hid (∀ W, Below s w W → s ≤ W.heap.size) := Lib.hid (fun W hb => by rw [← hs.out]; exact hb.size)
  cases hgr : bigM m with
  | true =>
    rw [hgr] at HSM
    clear hgr
    go_wp2_with (first
      | (refine wpList_load_mach rfl _ rfl s x m rfl ⟨HK1.out.rows _ (.head _)⟩ ?_)
      | (go_at_call 8; refine HSM.out.mono ?_; rintro e w2 ⟨rfl, hb2⟩; have HB2 := Lib.hid (HK1.out.bel.trans (hb2.mono HK1.out.size)); clear hb2)
      | (go_at_call 9; refine (HAW.out w2 HB2.out).mono ?_; rintro e w3 ⟨rfl, hb3⟩; have HB3 := Lib.hid (HB2.out.trans (hb3.mono (HSW.out _ HB2.out))); clear hb3))
    go_ret
    exact ⟨rfl, HEND.out _ HB3.out⟩
  | false =>
    rw [hgr] at HSM
    have HF := Lib.hid (small_fine HU.out hgr)
    clear hgr
    by_cases hts : 100 < t.size
    · have hd : decide ((100 : Int) < (t.size : Int)) = true := decide_eq_true (by omega)
      have hd' : decide (100 < t.size) = true := decide_eq_true hts
      clear hts
      go_wp2_with (first
        | (refine wpList_load_mach rfl _ rfl s x m rfl ⟨HK1.out.rows _ (.head _)⟩ ?_)
        | (go_at_call 8; refine HSM.out.mono ?_; rintro e w2 ⟨rfl, hb2⟩; have HK2 := Lib.hid (HK1.out.stay hb2); clear hb2 HSM)
        | (go_at_call 9; refine (HAW.out w2 HK2.out.bel).mono ?_; rintro e w4 ⟨rfl, hb4⟩; have HB4 := Lib.hid (HK2.out.bel.trans (hb4.mono HK2.out.size)); clear hb4))
      go_ret
      exact ⟨rfl, HEND.out _ HB4.out⟩
    · have hd : decide ((100 : Int) < (t.size : Int)) = false := decide_eq_false (by omega)
      have hd' : decide (100 < t.size) = false := decide_eq_false hts
      have HTS : Hid (t.size ≤ 100) := Lib.hid (by omega)
      clear hts
      go_upto_region 3 with (first
        | (refine wpList_load_mach rfl _ rfl s x m rfl ⟨HK1.out.rows _ (.head _)⟩ ?_)
        | (go_at_call 8; refine HSM.out.mono ?_; rintro e w3 ⟨rfl, hb2⟩; have HK3 := Lib.hid (HK1.out.stay hb2); clear hb2 HSM))
      clear hd hd' HK1
      clear w1
      obtain ⟨of, hof⟩ : ∃ of, Hid (cls (same (ptL m nilMc)) = of) := ⟨_, Lib.hid rfl⟩
      obtain ⟨nc, hnc⟩ : ∃ nc : Nat, Hid (nh (same (ptL m nilMc)) 256 = nc) := ⟨_, Lib.hid rfl⟩
      have HPR : Hid (prightB of nc = true) := Lib.hid (by rw [← hof.out, ← hnc.out]; exact psame_right _)
      have HWM : Hid (Whole m of) := Lib.hid (by rw [← hof.out]; exact psame_whole (fun S hS => List.mem_append_left _ hS))
      have HIN : Hid (∀ c, c < 256 → of c < nc) := Lib.hid (by rw [← hof.out, ← hnc.out]; exact psame_in _)
      have HEX : Hid (∀ j, j < nc → ∃ c, c < 256 ∧ of c = j) := Lib.hid (by rw [← hof.out, ← hnc.out]; exact nh_onto _ (same_eqv _) 256)
      have HNC : Hid (nc ≤ 256) := Lib.hid (by rw [← hnc.out]; exact nh_le _ _)
      have HPT := Lib.hid (parted_any x nilMa m nilMc w3 (HMX.out w3 HK3.out.bel).1 (nil_at w3) HF.out.1 nil_fine HF.out.2 (by decide))
      rw [hof.out, hnc.out] at HPT
      clear hof hnc
      go_upto_region 4 with (first
        | (refine wpList_load_mach rfl _ rfl s x m rfl ⟨HK3.out.rows _ (.head _)⟩ ?_)
        | (go_at_call 10; refine HPT.out.mono ?_; rintro e w4 ⟨rfl, hb4⟩; have HK4 := Lib.hid (HK3.out.stay hb4); clear hb4)
        | (refine wpList_store_row rfl 30 (.tmp 5) (.tmp 27) rfl w4.heap.size (partC of nc) rfl rfl 30 _ (heap_alloc_new w4 _) (sizeP of nc) (by rw [partC_size, partC_size]) (partC_one of nc) ?_; rw [World.setRow_alloc_new]))
      rw [show ∀ a : Act, a.put none undef = a from fun _ => rfl]
      have HK5 := Lib.hid (HK4.out.push (.cells (partC of nc) 30))
      clear HK4 HK3 HPT
      obtain ⟨pb, hpb⟩ : ∃ pb, Hid (w4.heap.size = pb) := ⟨_, Lib.hid rfl⟩
      rw [hpb.out] at HK5 ⊢
      generalize w4.alloc (.cells (partC of nc) 30) = w5 at *
      clear hpb w3 w4
      have HBA := Lib.hid (build_any x m of nc w5 (HMX.out w5 HK5.out.bel).1 HF.out.1 HF.out.2 HPR.out HWM.out (HMX.out w5 HK5.out.bel).2)
      obtain ⟨e1, he1⟩ : ∃ e1 : Int, Hid ((if rightM m = true then (0 : Int) else 1) = e1) := ⟨_, Lib.hid rfl⟩
      rw [he1.out] at HBA
      go_upto_region 5 with (first
        | (refine wpList_load_mach rfl _ rfl s x m rfl ⟨HK5.out.rows _ (.tail _ (.head _))⟩ ?_)
        | (refine wpList_load_row rfl 30 _ rfl pb rfl 30 (partC of nc) (0, 0) _ (HK5.out.rows _ (.head _)) Tryd.underlying30 rfl (sizeP of nc) ?_)
        | (go_at_call 11; refine HBA.out.mono ?_; rintro e w6 ⟨za, a, rfl, hb6, hba⟩; have HK6 := Lib.hid (HK5.out.stay hb6); have HDA := Lib.hid hba; clear hb6 hba)
        | (refine wpList_lay_dv rfl (.tmp 6) (.tmp 32) rfl za a rfl rfl ?_))
      have HK7 := Lib.hid (HK6.out.push (.cells (dvC za a) 35))
      have HDA7 : Hid (rightM m = true → DAt (w6.alloc (.cells (dvC za a) 35)) za a ∧ Bd m of nc a) := Lib.hid (fun h => ⟨(HDA.out h).1.at.kept ((Below.refl _ _).alloc (Nat.le_refl _) _), (HDA.out h).2⟩)
      clear HK6 HK5 HBA HDA
      obtain ⟨ab, hab⟩ : ∃ ab, Hid (w6.heap.size = ab) := ⟨_, Lib.hid rfl⟩
      rw [hab.out] at HK7 ⊢
      generalize w6.alloc (.cells (dvC za a) 35) = w7 at *
      clear hab w5 w6
      cases hrm : rightM m with
      | false =>
        rw [hrm] at he1
        rw [if_neg Bool.false_ne_true] at he1
        have h1 := he1.out
        subst h1
        clear hrm
        go_wp2_with (first
          | (go_at_call 9; refine (HAW.out w7 HK7.out.bel).mono ?_; rintro e w11 ⟨rfl, hb11⟩; have HB11 := Lib.hid (HK7.out.bel.trans (hb11.mono HK7.out.size)); clear hb11))
        go_ret
        exact ⟨rfl, HEND.out _ HB11.out⟩
      | true =>
        have HDA := Lib.hid (HDA7.out hrm)
        rw [hrm] at he1
        rw [if_pos rfl] at he1
        have h1 := he1.out
        subst h1
        clear hrm HDA7 he1
        have HKA := Lib.hid (HK7.out.addD HDA.out.1)
        have HBA := Lib.hid HDA.out.2
        clear HK7 HDA
        have HLS := Lib.hid (dleast_any of nc w7 HNC.out HIN.out HEX.out HPR.out (HMX.out w7 HKA.out.bel).2)
        go_upto_region 8 with (first
          | (refine wpList_load_row rfl 30 _ rfl pb rfl 30 (partC of nc) (0, 0) _ (HKA.out.rows _ (.tail _ (.head _))) Tryd.underlying30 rfl (sizeP of nc) ?_)
          | (go_at_call 17; refine HLS.out.mono ?_; rintro e w8 ⟨lv, rfl, hlv, hb8⟩; have HKB := Lib.hid (HKA.out.stay hb8); have HLV := Lib.hid hlv; clear hb8 hlv))
        clear HLS HKA
        clear w7
        obtain ⟨cap, w9, hcv, hrw, hb9, hs9⟩ := convB t w8
        obtain ⟨q, hq⟩ : ∃ q, Hid (w8.heap.size = q) := ⟨_, Lib.hid rfl⟩
        rw [hq.out] at hcv hrw hb9 hs9
        have HRW := Lib.hid hrw
        have HB9 := Lib.hid hb9
        have HS9 := Lib.hid hs9
        clear hrw hb9 hs9
        have hlv := HLV.out
        obtain ⟨-, -, la, lc, rfl, -⟩ := hlv
        rw [leads_len] at HLV ⊢
        go_upto_region 9 with fail
        clear hcv
        have HLB := Lib.hid (Nf.bs_len t)
        have HBL := Lib.hid (Nf.bs_lt t)
        have HRW0 : Hid (RwB w9 q (curB (fun c => lead of (of c)) (Nf.bs t) 0)) := HRW
        clear HRW
        have HQK : Hid (∀ W, Below q w8 W → Kp s w [(ab, .cells (dvC za a) 35 (0, 0)), (pb, .cells (partC of nc) 30 (0, 0)), (s, .cells (mc x m) 27 (0, 0))] [(za, a)] W ∧ BytesAt W (.slice la nc lc) (leads of nc)) :=
          Lib.hid (fun W hb => ⟨HKB.out.stay (hq.out ▸ hb), HLV.out.kept (hq.out ▸ hb)⟩)
        go_upto_region 10 with fail
        go_loopw [10] (fun i wr => ∃ j : Nat, i = .int .i64 j ∧ j ≤ t.size ∧ Hid (Below q w8 wr) ∧ Hid (q < wr.heap.size) ∧ Hid (RwB wr q (curB (fun c => lead of (of c)) (Nf.bs t) j))) (fun i _ => ((t.size : Int) - intOf i).toNat)
        case atStart => exact ⟨0, rfl, Nat.zero_le _, HB9, HS9, HRW0⟩
        case round =>
          obtain ⟨j, rfl, hj, HB, HSZ, HR⟩ := hrel
          generalize hwr : wr = w10 at *
          clear hwr wr HB9 HS9 HRW0 w9
          by_cases hlt : j < t.size
          · have hdd : decide ((j : Int) < (t.size : Int)) = true := decide_eq_true (by omega)
            have hd2 : decide (j < t.size) = true := decide_eq_true hlt
            have hjn : (j : Int) < (t.size : Int) := by omega
            have HW1 : Hid (wrap64 ((j : Int) + 1) = ((j + 1 : Nat) : Int)) := Lib.hid (nat_wrap (by have := HTS.out; omega))
            have HJ : Hid (j < (Nf.bs t).length) := Lib.hid (by rw [HLB.out]; exact hlt)
            have hrj := HR.out j (by rw [curB_len _ _ _ (by have := HJ.out; omega)]; exact HJ.out)
            rw [curB_get _ _ _ HJ.out] at hrj
            have HN := Lib.hid (HR.out.set j (lead of (of ((Nf.bs t).getD j 0))) (by rw [curB_len _ _ _ (by have := HJ.out; omega)]; exact HJ.out))
            rw [← curB_succ (fun c => lead of (of c)) _ _ HJ.out] at HN
            have HC := Lib.hid (HBL.out _ (getD_mem (d := 0) HJ.out))
            generalize (Nf.bs t).getD j 0 = c at *
            obtain ⟨hc0, hf0⟩ := hrj
            have hco : (c : Int) < 256 := by have := HC.out; omega
            have hpc := PartAt.cell (w := w10) (B := pb) (of := of) (n := nc) ((HQK.out _ HB.out).1.rows _ (.tail _ (.head _))) c HC.out
            have hlvc := (HQK.out _ HB.out).2.2.2
            obtain ⟨a9, c9, e9, hl9⟩ := hlvc
            injection e9 with e9 h8 h9
            clear h8 h9
            subst e9
            have hon := HIN.out c HC.out
            obtain ⟨lb, lo, rfl, hlc⟩ := hl9 (of c) (by rw [leads_len]; exact hon)
            rw [leads_get _ _ _ hon] at hlc
            have hoi : (of c : Int) < (nc : Int) := by omega
            have hge : decide ((nc : Int) ≤ (of c : Int)) = false := decide_eq_false (by omega)
            have hge2 : decide (nc ≤ of c) = false := decide_eq_false (by omega)
            have HB2 : Hid (Below q w8 (w10.setCell ⟨q, j, none⟩ (.int .u8 (lead of (of c) : Nat)))) := Lib.hid (HB.out.setCell (Nat.le_refl _) _)
            have HS2 : Hid (q < (w10.setCell ⟨q, j, none⟩ (.int .u8 (lead of (of c) : Nat))).heap.size) := Lib.hid (by rw [World.size_setCell]; exact HSZ.out)
            clear hl9
            have hk256 : (of c : Int) < 256 := by have := HNC.out; omega
            generalize lead of (of c) = y at *
            generalize of c = k at *
            go_upto_region 11 with fail
            go_wp2_with fail
            go_roundw
            case rel => exact ⟨j + 1, by rw [HW1.out], hlt, HB2, HS2, HN⟩
            case measure => rw [HW1.out]; exact meas9 hlt
          · have hdd : decide ((j : Int) < (t.size : Int)) = false := decide_eq_false (by omega)
            have hd2 : decide (j < t.size) = false := decide_eq_false hlt
            have hje : j = (Nf.bs t).length := by have := HLB.out; omega
            subst hje
            rw [curB_all] at HR
            have HKC := Lib.hid (HQK.out _ HB.out).1
            have HMB : Hid (∀ x ∈ (Nf.bs t).map (fun c => lead of (of c)), x < 256) := Lib.hid (fun x hx => by
              obtain ⟨c, hc, rfl⟩ := List.mem_map.1 hx
              exact (lead_spec of (of c) c (HBL.out c hc) rfl).1)
            have HBY : Hid (BytesAt w10 (.slice (some ⟨q, 0, none⟩) t.size cap) ((Nf.bs t).map (fun c => lead of (of c)))) := Lib.hid (by
              have h1 := HR.out.bytes (cap := cap) HMB.out (by rw [List.length_map, HLB.out]; have := HTS.out; unfold maxLen; omega)
              rw [List.length_map, HLB.out] at h1
              exact h1)
            obtain ⟨T, hT⟩ : ∃ T, Hid (takesD a (Nf.bs t) = T) := ⟨_, Lib.hid rfl⟩
            have HT2 : Hid (takesD a (Nf.bs (strN ((Nf.bs t).map (fun c => lead of (of c))))) = T) := Lib.hid (by rw [bs_strN _ HMB.out, takes_lead a of HBA.out.of _ HBL.out]; exact hT.out)
            have HZS : Hid ((strN ((Nf.bs t).map (fun c => lead of (of c)))).size ≤ 100000) := Lib.hid (by rw [size_strN, List.length_map, HLB.out]; have := HTS.out; omega)
            have HCV : Hid (∀ W, Below w10.heap.size w10 W → (convert 42 9 (.slice (some ⟨q, 0, none⟩) t.size cap)).run Tryd.prog W = .ok (.string (strN ((Nf.bs t).map (fun c => lead of (of c))))) W) := Lib.hid (fun W hb => bytes_string (HBY.out.kept hb))
            clear HBY HMB
            generalize strN ((Nf.bs t).map (fun c => lead of (of c))) = t2 at *
            clear HR HLB HBL HQK HLV HKB
            have HNO := Lib.hid (not_any za a w10 (HKC.out.das (za, a) (.head _)) HBA.out.fine HBA.out.right)
            go_upto_region 16 with (first
              | (refine wpList_load_df rfl _ rfl ab za a rfl ⟨HKC.out.rows _ (.head _)⟩ ?_)
              | (go_at_call 16; refine HNO.out.mono ?_; rintro e w12 ⟨zn, rfl, hon, hb12⟩; have HON := Lib.hid hon; have HB12 := Lib.hid hb12; clear hb12 hon)
              | (refine wpList_lay_dv rfl (.tmp 11) (.tmp 74) rfl zn (notD a) rfl rfl ?_))
            obtain ⟨nb, hnb⟩ : ∃ nb, Hid (w12.heap.size = nb) := ⟨_, Lib.hid rfl⟩
            have hal := (Below.refl w12.heap.size w12).alloc (Nat.le_refl _) (.cells (dvC zn (notD a)) 35)
            have HOM := Lib.hid (HON.out.stay hal)
            have HRN : Hid ((w12.alloc (.cells (dvC zn (notD a)) 35)).heap[nb]? = some (.cells (dvC zn (notD a)) 35 (0, 0))) := Lib.hid (by rw [← hnb.out]; exact heap_alloc_new w12 _)
            have HB13 := Lib.hid (HB12.out.trans (hal.mono HB12.out.size))
            have HDN : Hid (w10.heap.size ≤ nb) := Lib.hid (by rw [← hnb.out]; exact HB12.out.size)
            rw [hnb.out]
            generalize w12.alloc (.cells (dvC zn (notD a)) 35) = w13 at *
            clear hal HON HB12 HNO
            clear hnb w12
            have HKD := Lib.hid (HKC.out.stay HB13.out)
            have HRA := Lib.hid (fun (W : World) (hd : DAt W za a) => drun_any za a t W hd HBA.out.fine (by have := HTS.out; omega))
            have HR2 := Lib.hid (fun (W : World) (hd : DAt W za a) => drun_any za a t2 W hd HBA.out.fine HZS.out)
            rw [hT.out] at HRA
            rw [HT2.out] at HR2
            have hb0 : Below w13.heap.size w13 w13.drew := (Below.refl _ _).drew
            refine region_mix [(false, 0), (false, 1), (false, 2), (false, 3), (false, 4), (false, 6), (false, 7), (false, 8), (true, 5), (true, 9), (false, 10)] (fun w' => Below w13.heap.size w13 w') (by kernel_rfl) (by kernel_rfl) hb0 ?_
            simp only [planOps, List.map_cons, List.map_nil, List.getD_cons_zero, List.getD_cons_succ, List.length_cons, List.length_nil, List.drop_succ_cons, List.drop_zero]
            refine mix_seg (seg := [_, _, _, _, _, _, _, _]) rfl hb0 ?_
            intro ι hι F hF
            have f1 := fun n => HCV.out (F n) (HB13.out.trans ((hF n).mono HB13.out.size))
            repeat (first | (refine BigFrame.wpQuiet_want rfl (fun K hK => ?_); refine quiet_load_row 35 (.tmp 6) rfl ab rfl 35 (dvC za a) (0, 0) _ (fun w' hw' => by obtain ⟨n, rfl⟩ := hw'; exact (HKD.out.stay (hF n)).rows _ (.head _)) Tryd.underlying35 rfl (sizeDf _ _ _ _) ?_; refine hK _ ?_; clear hK K; simp only [Act.put, List.setIfInBounds_toArray, List.set_cons_zero, List.set_cons_succ]) | (go_big_quiet_step (fail)))
            refine wpQuiet_nil ?_
            clear f1 hF hι F
            refine mix_eff (fun K hK => ?_)
            go_wp2_with (go_at_call 24; refine (HRA.out _ ((HKD.out.stay hb0).das (za, a) (.head _))).mono ?_; rintro e wm1 ⟨rfl, hbm1⟩)
            have hb1 : Below w13.heap.size w13 wm1 := hb0.trans (hbm1.mono hb0.size)
            clear hbm1
            refine mix_on hK hb1 ?_
            clear hK K
            refine mix_eff (fun K hK => ?_)
            go_wp2_with (go_at_call 24; refine (HR2.out _ ((HKD.out.stay hb1).das (za, a) (.head _))).mono ?_; rintro e wm2 ⟨rfl, hbm2⟩)
            have hb2 : Below w13.heap.size w13 wm2 := hb1.trans (hbm2.mono hb1.size)
            clear hbm2
            refine mix_on hK hb2 ?_
            clear hK K
            cases T
            all_goals
              refine mix_seg (seg := [_]) (rest := []) rfl hb2 ?_
              intro ι hι F hF
              repeat (go_big_quiet_step (fail))
              refine wpQuiet_nil ?_
              clear hF hι F
              show wpList _ _ _ _ _ _
              go_wp2
              refine NoPanic.normal ?_
              go_upto_region 18 with fail
              have HKE := Lib.hid (HKD.out.stay hb2)
              have HOE := Lib.hid (HOM.out.stay hb2)
              have HRE : Hid (wm2.heap[nb]? = some (.cells (dvC zn (notD a)) 35 (0, 0))) := Lib.hid ((hb2.block _ (Array.getElem?_eq_some_iff.1 HRN.out).1).trans HRN.out)
              have HBE := Lib.hid (HB13.out.trans (hb2.mono HB13.out.size))
              clear hb0 hb1 hb2 HKD HOM HRN HB13 HR2 HCV HT2
              clear wm1 w13
              go_upto_region 19 with (first
                | (refine wpList_load_df rfl _ rfl ab za a rfl ⟨HKE.out.rows _ (.head _)⟩ ?_)
                | (go_at_call 24; refine (HRA.out _ (HKE.out.das (za, a) (.head _))).mono ?_; rintro e w15 ⟨rfl, hb15⟩; have HB15 := Lib.hid hb15; clear hb15))
              have HOF := Lib.hid (HOE.out.stay HB15.out)
              have HRF : Hid (w15.heap[nb]? = some (.cells (dvC zn (notD a)) 35 (0, 0))) := Lib.hid ((HB15.out.block _ (Array.getElem?_eq_some_iff.1 HRE.out).1).trans HRE.out)
              have HBF := Lib.hid (HBE.out.trans (HB15.out.mono HBE.out.size))
              have HDR := Lib.hid (not_right HBA.out.right)
              have HDF := Lib.hid (not_fine HBA.out.fine)
              have HDL : Hid ((notD a).R.length ≤ 257) := Lib.hid HBA.out.few
              clear HKE HOE HRE HBE HB15
              clear wm2
              generalize notD a = d2 at *
              obtain ⟨vs, hov⟩ := HOF.out
              have HOV := Lib.hid hov
              clear hov HOF
              have HOI : Hid (OvI w15 w10 w10.heap.size w15) := Lib.hid ⟨Sim.refl _, HBF.out⟩
              have HL2 : Hid (d2.F.length = d2.R.length) := Lib.hid HDR.out.fl
              go_upto_region 20 with fail
              go_loopw [14] (fun i wr => ∃ j : Nat, i = .int .i64 j ∧ j ≤ d2.R.length ∧ Hid (OvI w15 w10 w10.heap.size wr)) (fun i _ => ((d2.R.length : Int) - intOf i).toNat)
              case atStart => exact ⟨0, rfl, Nat.zero_le _, HOI⟩
              case round =>
                obtain ⟨j, rfl, hj, HO⟩ := hrel
                generalize hwr : wr = w16 at *
                clear hwr wr HOI
                have c257 : w16.cell? ⟨nb, 257, none⟩ = some (.slice zn.a d2.R.length zn.ac) := HO.out.sim.slice HRF.out (dfC_nv _ _ _ _)
                by_cases hlt : j < d2.R.length
                · have hdd : decide ((j : Int) < (d2.R.length : Int)) = true := decide_eq_true (by omega)
                  have hd2 : decide (j < d2.R.length) = true := decide_eq_true hlt
                  have HJ := Lib.hid hlt
                  have hjl : (j : Int) < (d2.R.length : Int) := by omega
                  have hjf : (j : Int) < (d2.F.length : Int) := by have := HL2.out; omega
                  have HW1 : Hid (wrap64 ((j : Int) + 1) = ((j + 1 : Nat) : Int)) := Lib.hid (nat_wrap (by have := HDL.out; omega))
                  have c258 : w16.cell? ⟨nb, 258, none⟩ = some (.slice zn.b d2.F.length zn.bc) := HO.out.sim.slice HRF.out (dfC_fv _ _ _ _)
                  obtain ⟨gf, v0, hgf, hcf, hzf, hov⟩ := HO.out.flag HOV.out.fl (Nat.le_refl _) (j := j) (by have := HL2.out; omega)
                  rw [hgf] at c258
                  have HO2 := Lib.hid (hov true)
                  clear hov hlt
                  go_upto_region 23 with fail
                  clear c257 c258 hcf hzf
                  generalize w16.setCell ⟨gf, j, none⟩ (.bool true) = w17 at *
                  clear HO
                  clear w16
                  go_upto_region 24 with fail
                  have HEA := Lib.hid (HDF.out.each _ (getD_mem (d := []) HJ.out))
                  obtain ⟨l, hl⟩ : ∃ l, Hid (d2.R.getD j [] = l) := ⟨_, Lib.hid rfl⟩
                  have HNX : Hid (∀ W, OvI w15 w10 w10.heap.size W → ∃ g a c, zn.a = some ⟨g, 0, none⟩ ∧ W.cell? ⟨g, j, none⟩ = some (.slice a l.length c) ∧ OwnN w10.heap.size w15 (.slice a l.length c) l) := Lib.hid (fun W h => by rw [← hl.out]; exact OvI.next h HOV.out HJ.out)
                  rw [hl.out] at HEA
                  clear hl
                  go_loopw [15] (fun i wr => ∃ n : Nat, i = .int .i64 n ∧ n ≤ l.length ∧ Hid (OvI w15 w10 w10.heap.size wr)) (fun i _ => ((l.length : Int) - intOf i).toNat)
                  case atStart => exact ⟨0, rfl, Nat.zero_le _, HO2⟩
                  case round =>
                    obtain ⟨n, rfl, hn, HO⟩ := hrel
                    generalize hwr : wr = w18 at *
                    clear hwr wr HO2
                    have c257 : w18.cell? ⟨nb, 257, none⟩ = some (.slice zn.a d2.R.length zn.ac) := HO.out.sim.slice HRF.out (dfC_nv _ _ _ _)
                    obtain ⟨g, a9, c9, hga, hcg, hon⟩ := HNX.out _ HO.out
                    rw [hga] at c257
                    by_cases hlt : n < l.length
                    · have hdd2 : decide ((n : Int) < (l.length : Int)) = true := decide_eq_true (by omega)
                      have hd3 : decide (n < l.length) = true := decide_eq_true hlt
                      have hnl : (n : Int) < (l.length : Int) := by omega
                      have HN := Lib.hid hlt
                      have HW2 : Hid (wrap64 ((n : Int) + 1) = ((n + 1 : Nat) : Int)) := Lib.hid (nat_wrap (by have := HEA.out.1; omega))
                      obtain ⟨g2, v2, hg2, hc2, hz2, hov2⟩ := HO.out.num hon (Nat.le_refl _) hlt
                      subst hg2
                      have HO3 := Lib.hid (hov2 0)
                      clear hov2 hon hga hlt
                      go_upto_region 25 with fail
                      clear c257 hcg hc2 hz2
                      go_wp2_with fail
                      go_roundw
                      case rel => exact ⟨n + 1, by rw [HW2.out], HN.out, HO3⟩
                      case measure => rw [HW2.out]; exact meas9 HN.out
                    · have hdd2 : decide ((n : Int) < (l.length : Int)) = false := decide_eq_false (by omega)
                      have hd3 : decide (n < l.length) = false := decide_eq_false hlt
                      clear hon hga hlt
                      go_wp2_with fail
                      go_roundw
                      case rel => exact ⟨j + 1, by rw [HW1.out], HJ.out, HO⟩
                      case measure => rw [HW1.out]; exact meas9 HJ.out
                · have hdd : decide ((j : Int) < (d2.R.length : Int)) = false := decide_eq_false (by omega)
                  have hd2 : decide (j < d2.R.length) = false := decide_eq_false hlt
                  have HKZ := Lib.hid (HKC.out.stay HO.out.low)
                  clear hlt
                  go_wp2_with (first
                    | (refine wpList_load_df rfl _ rfl ab za a rfl ⟨HKZ.out.rows _ (.head _)⟩ ?_)
                    | (go_at_call 24; refine (HRA.out _ (HKZ.out.das (za, a) (.head _))).mono ?_; rintro e w19 ⟨rfl, hb19⟩; have HKY := Lib.hid (HKZ.out.stay hb19); clear hb19)
                    | (go_at_call 9; refine (HAW.out _ HKY.out.bel).mono ?_; rintro e w20 ⟨rfl, hb20⟩; have HBZ := Lib.hid (HKY.out.bel.trans (hb20.mono HKY.out.size)); clear hb20))
                  go_ret
                  exact ⟨rfl, HEND.out _ HBZ.out⟩
end Df
end Go.Proofs.YtipghpljaiemmaaDoor
