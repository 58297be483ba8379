/- NfaClasses holds: of any machine, any text, any bytes the call answers true. No condition. -/
import Derived.Test.YtdmnocjlmnkdhaaDoorPqX0
import Derived.Test.YtdmnocjlmnkdhaaDoorPq07
import Derived.Test.YtdmnocjlmnkdhaaDoorPq43
import Derived.Test.YtdmnocjlmnkdhaaDoorPq02
import Derived.Test.YtdmnocjlmnkdhaaDoorRows
import Derived.Lay
import Derived.Lib.LaidU8
import Derived.MakeChecks
import Derived.OpenShut
import Derived.Test.YtdmnocjlmnkdhaaDoorTie
import Derived.Test.YtdmnocjlmnkdhaaDoorCards
import Derived.SevenTiedAt
import Derived.WalkKit
import Derived.ProofKit
import Derived.ShutString
namespace Go.Proofs.YtdmnocjlmnkdhaaDoor
open Go.RowKit Sets Nf Cls Df DfK
namespace Nc
set_option maxHeartbeats 25600000 in
set_option maxRecDepth 100000 in
theorem nclass_any (x : Ma) (m : Mc) (t : ByteArray) (tv : Value) (T : List Nat) (w : World) (u : UnM w x m) (hv : BytesAt w tv T) (hT : Tab w) :
    Calls Tryd.prog 3 #[.agg (mc x m), .string t, tv] w fun e w' => e = .returned (.bool true) ∧ Below w.heap.size w w' := by
  have HG : Hid (0 < w.heap.size) := Lib.hid (World.block_lt_of_cell? _ _ (hT 0 (by decide)))
  have HU := Lib.hid u
  have HT := Lib.hid hT
  obtain ⟨htb, htm, ta, tc, rfl, htc⟩ := hv
  have HTB := Lib.hid htb
  have HTC := Lib.hid htc
  clear u hT htb htm htc
  have hzp := zeroP
  go_enter Tryd.func3, Tryd.ntmps3
  go_upto_region 1 with fail
  have HX := Lib.hid (BoxM.new w x m)
  have HB := Lib.hid ((Below.refl w.heap.size w).alloc (Nat.le_refl _) (.cells (mc x m) 27))
  obtain ⟨s, hs⟩ : ∃ s, Hid (w.heap.size = s) := ⟨_, Lib.hid rfl⟩
  rw [hs.out] at HX ⊢
  generalize w.alloc (.cells (mc x m) 27) = w1 at *
  have HK : Hid (∀ W, Below w1.heap.size w1 W → BoxM W s x m ∧ MAt W x m ∧ Tab W ∧ Below w.heap.size w W ∧ 0 < W.heap.size) := Lib.hid (fun W hW => by
    have h1 := HB.out.trans (hW.mono HB.out.size)
    exact ⟨HX.out.kept hW HX.out.lt, HU.out.1.kept h1, HT.out.below h1 HG.out, h1, Nat.lt_of_lt_of_le HG.out h1.size⟩)
  have HAW := Lib.hid (fun W (hW : Below w1.heap.size w1 W) => awake10_any W (HK.out W hW).2.2.1)
  have HGR := Lib.hid (ngreat_any x m w1 (HK.out _ (Below.refl _ _)).2.1.fo)
  have HBG : Hid (greatM m = false → Fine m ∧ m.sp.length ≤ 60) := Lib.hid (fun h => ⟨HU.out.2 h, by
    unfold greatM at h
    rw [Bool.or_eq_false_iff, Bool.or_eq_false_iff, decide_eq_false_iff_not] at h
    omega⟩)
  clear HU HT
  cases hb : greatM m with
  | true =>
    rw [hb] at HGR
    clear hb HBG
    go_wp2_with (first
      | (refine wpList_load_mach rfl _ rfl s x m rfl HX.out ?_)
      | (go_at_call 4; refine HGR.out.mono ?_; rintro e w2 ⟨rfl, hb2⟩; have HB2 := Lib.hid hb2; clear hb2)
      | (go_at_call 5; refine (HAW.out _ HB2.out).mono ?_; rintro e w3 ⟨rfl, hb3⟩; have HB3 := Lib.hid (HB2.out.trans (hb3.mono HB2.out.size)); clear hb3))
    go_ret
    exact ⟨rfl, (HK.out _ HB3.out).2.2.2.1⟩
  | false =>
    obtain ⟨hf, h60⟩ := HBG.out hb
    have HF := Lib.hid hf
    have H60 := Lib.hid h60
    rw [hb] at HGR
    clear hb HBG hf h60
    by_cases hl : 200 < t.size
    · have d1 : decide ((200 : Int) < (t.size : Int)) = true := decide_eq_true (by omega)
      have e1 : decide (200 < t.size) = true := decide_eq_true hl
      clear hl
      go_wp2_with (first
        | (refine wpList_load_mach rfl _ rfl s x m rfl HX.out ?_)
        | (go_at_call 4; refine HGR.out.mono ?_; rintro e w2 ⟨rfl, hb2⟩; have HB2 := Lib.hid hb2; clear hb2)
        | (go_at_call 5; refine (HAW.out _ HB2.out).mono ?_; rintro e w3 ⟨rfl, hb3⟩; have HB3 := Lib.hid (HB2.out.trans (hb3.mono HB2.out.size)); clear hb3))
      go_ret
      exact ⟨rfl, (HK.out _ HB3.out).2.2.2.1⟩
    · have d1 : decide ((200 : Int) < (t.size : Int)) = false := decide_eq_false (by omega)
      have e1 : decide (200 < t.size) = false := decide_eq_false hl
      have HTS : Hid (t.size ≤ 200) := Lib.hid (by omega)
      clear hl
      go_upto_region 3 with (first
        | (refine wpList_load_mach rfl _ rfl s x m rfl HX.out ?_)
        | (go_at_call 4; refine HGR.out.mono ?_; rintro e w2 ⟨rfl, hb2⟩; have HB2 := Lib.hid hb2; clear hb2))
      clear d1 e1 HGR
      have HSE := Lib.hid (nsets_any x m w2 (HK.out _ HB2.out).2.1 HF.out)
      have HRE := Lib.hid (fun v W (hv : SetsIn W v (stTo m m.sp.length)) => Refine_any v (stTo m m.sp.length) W hv (by have := stTo_len m m.sp.length; have := H60.out; omega))
      have HSL : Hid ((stTo m m.sp.length).length ≤ 60) := Lib.hid (by have := stTo_len m m.sp.length; have := H60.out; omega)
      obtain ⟨of, hof⟩ : ∃ of, Hid (cls (same (stTo m m.sp.length)) = of) := ⟨_, Lib.hid rfl⟩
      obtain ⟨nc, hnc⟩ : ∃ nc : Nat, Hid (nh (same (stTo m m.sp.length)) 256 = nc) := ⟨_, Lib.hid rfl⟩
      have HPR : Hid (prightB of nc = true) := Lib.hid (by rw [← hof.out, ← hnc.out]; exact psame_right _)
      have HAL : Hid (Alk m of) := Lib.hid (by rw [← hof.out]; exact alk_of m)
      have HIN : Hid (∀ c, c < 256 → of c < nc) := Lib.hid (by rw [← hof.out, ← hnc.out]; exact psame_in _)
      have HNC : Hid (nc ≤ 256) := Lib.hid (by rw [← hnc.out]; exact nh_le _ _)
      rw [hof.out, hnc.out] at HRE
      clear hof hnc
      go_upto_region 4 with (first
        | (refine wpList_load_mach rfl _ rfl s x m rfl (HK.out _ HB2.out).1 ?_)
        | (go_at_call 7; refine HSE.out.mono ?_; rintro e w3 ⟨a3, c3, rfl, ho3, hb3⟩; have HSI := Lib.hid (owns_setsIn ho3 (by have := HSL.out; unfold maxLen; omega)); have HB3 := Lib.hid (HB2.out.trans (hb3.mono HB2.out.size)); clear ho3 hb3)
        | (go_at_call 6; refine (HRE.out _ _ HSI.out).mono ?_; rintro e w4 ⟨rfl, hb4⟩; have HB4 := Lib.hid (HB3.out.trans (hb4.mono HB3.out.size)); clear hb4)
        | (refine wpList_store_row rfl 33 (.tmp 7) (.tmp 23) rfl w4.heap.size (partC of nc) rfl rfl 33 _ (heap_alloc_new w4 _) (sizeP of nc) (by rw [partC_size, partC_size]) (partC_one of nc) ?_; rw [World.setRow_alloc_new]))
      rw [show ∀ a : Act, a.put none undef = a from fun _ => rfl]
      have hal := (Below.refl w4.heap.size w4).alloc (Nat.le_refl _) (.cells (partC of nc) 33)
      have HB5 := Lib.hid (HB4.out.trans (hal.mono HB4.out.size))
      have HP5 : Hid (PartAt (w4.alloc (.cells (partC of nc) 33)) w4.heap.size of nc) := Lib.hid (PartAt.new w4 of nc)
      obtain ⟨pb, hpb⟩ : ∃ pb, Hid (w4.heap.size = pb) := ⟨_, Lib.hid rfl⟩
      rw [hpb.out] at HP5 ⊢
      clear hal HSE HRE HSI HB2 HB3 HB4
      generalize w4.alloc (.cells (partC of nc) 33) = w5 at *
      clear hpb w2 w3 w4
      have HST := Lib.hid (sets_any of nc w5 HNC.out HIN.out HPR.out)
      go_upto_region 5 with (first
        | (refine wpList_load_row rfl 33 _ rfl pb rfl 33 (partC of nc) (0, 0) _ HP5.out Tryd.underlying33 rfl (sizeP of nc) ?_)
        | (go_at_call 8; refine HST.out.mono ?_; rintro e w6 ⟨g, rfl, hg6, hs6, hb6⟩; have HS6 := Lib.hid hs6; have HB6 := Lib.hid hb6; clear hg6 hs6 hb6))
      have HP6 : Hid (PartAt w6 pb of nc) := Lib.hid ((HB6.out.block pb (Array.getElem?_eq_some_iff.1 HP5.out).1).trans HP5.out)
      have HB7 := Lib.hid (HB5.out.trans (HB6.out.mono HB5.out.size))
      clear HST HP5 HB5 HB6 w5
      obtain ⟨cap, w9, hcv, hrw, hb9, hs9⟩ := convB t w6
      obtain ⟨q, hq⟩ : ∃ q, Hid (w6.heap.size = q) := ⟨_, Lib.hid rfl⟩
      rw [hq.out] at hcv hrw hb9 hs9
      have HRW := Lib.hid hrw
      have HB9 := Lib.hid hb9
      have HS9 := Lib.hid hs9
      clear hrw hb9 hs9
      go_upto_region 6 with fail
      clear hcv
      have HLB := Lib.hid (Nf.bs_len t)
      have HBL := Lib.hid (Nf.bs_lt t)
      have HQK : Hid (∀ W, Below q w6 W → Below w1.heap.size w1 W ∧ PartAt W pb of nc ∧ SetsRow W g (clsSets of nc 256)) := Lib.hid (fun W hb => by
        rw [← hq.out] at hb
        exact ⟨HB7.out.trans (hb.mono HB7.out.size), (hb.block pb (Array.getElem?_eq_some_iff.1 HP6.out).1).trans HP6.out, HS6.out.kept hb HS6.out.lt⟩)
      have HTV : Hid (∀ W, Below q w6 W → ∀ i, i < T.length → ∃ b o, ta = some ⟨b, o, none⟩ ∧ W.cell? ⟨b, o + i, none⟩ = some (.int .u8 (T.getD i 0 : Nat))) := Lib.hid (fun W hb i hi => by
        obtain ⟨b, o, e, hc⟩ := HTC.out i hi
        exact ⟨b, o, e, ((HK.out _ (HQK.out W hb).1).2.2.2.1.cell (World.block_lt_of_cell? _ _ hc)).trans hc⟩)
      clear HP6 HS6 HB7 HTC HX HB
      go_upto_region 7 with fail
      go_loopw [10] (fun i wr => ∃ (j : Nat) (U : List Nat), i = .int .i64 j ∧ j ≤ t.size ∧ Hid (Below q w6 wr) ∧ Hid (q < wr.heap.size) ∧ Hid (RwB wr q U) ∧ Hid (Lik of U (Nf.bs t))) (fun i _ => ((t.size : Int) - intOf i).toNat)
      case atStart => exact ⟨0, Nf.bs t, rfl, Nat.zero_le _, HB9, HS9, HRW, Lib.hid (Lik.refl of HBL.out)⟩
      case round =>
        obtain ⟨j, U, rfl, hj, HB, HSZ, HR, HL⟩ := hrel
        generalize hwr : wr = w10 at *
        clear hwr wr HB9 HS9 HRW w9
        have HUL : Hid (U.length = t.size) := Lib.hid (by rw [HL.out.len, HLB.out])
        by_cases hgo : j < t.size ∧ j < T.length
        · obtain ⟨hlt, hl2⟩ := hgo
          have hdd : decide ((j : Int) < (t.size : Int)) = true := decide_eq_true (by omega)
          have hd2 : decide (j < t.size) = true := decide_eq_true hlt
          have hdd3 : decide ((j : Int) < (T.length : Int)) = true := decide_eq_true (by omega)
          have hd3 : decide (j < T.length) = true := decide_eq_true hl2
          have hjn : (j : Int) < (t.size : Int) := by omega
          have hjt : (j : Int) < (T.length : Int) := by omega
          have HW1 : Hid (wrap64 ((j : Int) + 1) = ((j + 1 : Nat) : Int)) := Lib.hid (nat_wrap (by have := HTS.out; omega))
          obtain ⟨hc0, hf0⟩ := HR.out j (by rw [HUL.out]; exact hlt)
          have HC := Lib.hid (HL.out.byte j (by rw [HUL.out]; exact hlt))
          obtain ⟨c, hce⟩ : ∃ c, Hid (U.getD j 0 = c) := ⟨_, Lib.hid rfl⟩
          rw [hce.out] at hc0 HC
          have hco : (c : Int) < 256 := by have := HC.out; omega
          have hpc := PartAt.cell (HQK.out _ HB.out).2.1 c HC.out
          have hon := HIN.out c HC.out
          have hoi : (of c : Int) < (nc : Int) := by omega
          have hge : decide ((nc : Int) ≤ (of c : Int)) = false := decide_eq_false (by omega)
          have hge2 : decide (nc ≤ of c) = false := decide_eq_false (by omega)
          have hk256 : (of c : Int) < 256 := by have := HNC.out; omega
          have hrS := (HQK.out _ HB.out).2.2
          have s0 := hrS.cell (of c) 0 (by rw [clsSets_length]; exact hon) (by omega)
          have s1 := hrS.cell (of c) 1 (by rw [clsSets_length]; exact hon) (by omega)
          have s2 := hrS.cell (of c) 2 (by rw [clsSets_length]; exact hon) (by omega)
          have s3 := hrS.cell (of c) 3 (by rw [clsSets_length]; exact hon) (by omega)
          rw [clsSets_get of nc 256 _ hon] at s0 s1 s2 s3
          rw [Nat.add_zero] at s0
          have HPO := Lib.hid (lst_pos of HC.out)
          have HGE := Lib.hid (fun i hi => lst_get of (of c) i hi)
          have HLI := Lib.hid (list_bytes (clsSet of 256 (of c)) w10 (HK.out _ (HQK.out _ HB.out).1).2.2.1 (HK.out _ (HQK.out _ HB.out).1).2.2.2.2)
          obtain ⟨tb, tO, rfl, -⟩ := HTV.out _ HB.out j hl2
          clear hrS
          generalize clsSet of 256 (of c) = S at *
          obtain ⟨k, hk⟩ : ∃ k, Hid (of c = k) := ⟨_, Lib.hid rfl⟩
          rw [hk.out] at hpc hon hoi hge hge2 hk256 s0 s1 s2 s3 HGE
          go_upto_region 13 with (first
            | (go_at_call 9; refine HLI.out.mono ?_; rintro e w11 ⟨v, rfl, hvb, hb11⟩; have HVB := Lib.hid hvb; have HB11 := Lib.hid hb11; clear hvb hb11))
          clear HLI hc0 hf0 hpc s0 s1 s2 s3 hge hge2 hoi hon hk256 hco
          obtain ⟨-, -, la, lc, rfl, hlc⟩ := HVB.out
          have HLC := Lib.hid hlc
          clear hlc HVB
          have HBB := Lib.hid (HB.out.trans (HB11.out.mono (Nat.le_of_lt HSZ.out)))
          have HSB : Hid (q < w11.heap.size) := Lib.hid (Nat.lt_of_lt_of_le HSZ.out HB11.out.size)
          have HRB : Hid (RwB w11 q U) := Lib.hid (fun i hi => ⟨(HB11.out.cell HSZ.out).trans (HR.out i hi).1, by
            have := (HR.out i hi).2
            unfold World.frozen? at this ⊢
            rw [HB11.out.block q HSZ.out]; exact this⟩)
          obtain ⟨tb2, tO2, e9, ht0⟩ := HTV.out _ HBB.out j hl2
          injection e9 with e9
          injection e9 with e9 e10
          subst e9; subst e10
          have HTY := Lib.hid (HTB.out _ (getD_mem (d := 0) hl2))
          generalize T.getD j 0 = y at *
          obtain ⟨n, hn⟩ : ∃ n, Hid ((listN S).length = n) := ⟨_, Lib.hid rfl⟩
          have HPN : Hid (0 < n) := Lib.hid (by rw [← hn.out]; exact HPO.out)
          obtain ⟨r, hr⟩ : ∃ r, Hid (y % n = r) := ⟨_, Lib.hid rfl⟩
          have HRN : Hid (r < n) := Lib.hid (by rw [← hr.out]; exact Nat.mod_lt _ HPN.out)
          obtain ⟨lb, lo, rfl, hlv⟩ := HLC.out r (by rw [hn.out]; exact HRN.out)
          have HGV := Lib.hid (HGE.out r (by rw [hn.out]; exact HRN.out))
          rw [hn.out]
          generalize (listN S).getD r 0 = z at *
          obtain ⟨hc0, hf0⟩ := HRB.out j (by rw [HUL.out]; exact hlt)
          have hn0 : ((n : Int) == 0) = false := by have := HPN.out; simp; omega
          have hn1 : (n : Int) ≠ 0 := by have := HPN.out; omega
          have hrm : (wrap64 (y : Int)).tmod (n : Int) = (r : Int) := by
            have h1 : wrap64 (y : Int) = (y : Int) := by have := HTY.out; unfold wrap64; omega
            rw [h1, Int.tmod_eq_emod_of_nonneg (by omega), ← hr.out]
            exact (Int.natCast_emod y n).symm
          have hrn : (r : Int) < (n : Int) := by have := HRN.out; omega
          have HNX := Lib.hid (HRB.out.set j z (by rw [HUL.out]; exact hlt))
          have HLX := Lib.hid (HL.out.set j z HGV.out.1 (by rw [HGV.out.2, ← hk.out, ← hce.out]))
          have HB2 : Hid (Below q w6 (w11.setCell ⟨q, j, none⟩ (.int .u8 (z : Nat)))) := Lib.hid (HBB.out.setCell (Nat.le_refl _) _)
          have HS2 : Hid (q < (w11.setCell ⟨q, j, none⟩ (.int .u8 (z : Nat))).heap.size) := Lib.hid (by rw [World.size_setCell]; exact HSB.out)
          go_upto_region 8 with fail
          go_wp2_with fail
          go_roundw
          case rel => exact ⟨j + 1, U.set j z, by rw [HW1.out], hlt, HB2, HS2, HNX, HLX⟩
          case measure => rw [HW1.out]; exact meas9 hlt
        · have hor : (decide ((j : Int) < (t.size : Int)) = false ∧ decide (j < t.size) = false) ∨ ((decide ((j : Int) < (t.size : Int)) = true ∧ decide (j < t.size) = true) ∧ decide ((j : Int) < (T.length : Int)) = false ∧ decide (j < T.length) = false) := by
            by_cases h1 : j < t.size
            · have h2 : ¬ j < T.length := fun h => hgo ⟨h1, h⟩
              exact .inr ⟨⟨decide_eq_true (by omega), decide_eq_true h1⟩, decide_eq_false (by omega), decide_eq_false h2⟩
            · exact .inl ⟨decide_eq_false (by omega), decide_eq_false h1⟩
          have HBY : Hid (BytesAt w10 (.slice (some ⟨q, 0, none⟩) t.size cap) U) := Lib.hid (by
            have h1 := HR.out.bytes (cap := cap) HL.out.bytes (by rw [HUL.out]; have := HTS.out; unfold maxLen; omega)
            rw [HUL.out] at h1
            exact h1)
          obtain ⟨tq, htq⟩ : ∃ tq, Hid (takesM m (Nf.bs t) = tq) := ⟨_, Lib.hid rfl⟩
          have HT2 : Hid (takesM m (Nf.bs (strN U)) = tq) := Lib.hid (by rw [bs_strN _ HL.out.bytes, takes_alk HAL.out HL.out HBL.out]; exact htq.out)
          have HZS : Hid ((strN U).size ≤ 1000) := Lib.hid (by rw [size_strN, HUL.out]; have := HTS.out; omega)
          have HCV : Hid (∀ W, Below w10.heap.size w10 W → (convert 28 9 (.slice (some ⟨q, 0, none⟩) t.size cap)).run Tryd.prog W = .ok (.string (strN U)) W) := Lib.hid (fun W hb => bytes_string (HBY.out.kept hb))
          clear HBY
          generalize strN U = t2 at *
          have HKE : Hid (∀ W, Below w10.heap.size w10 W → Below w1.heap.size w1 W) := Lib.hid (fun W hW => (HQK.out _ (HB.out.trans (hW.mono (Nat.le_of_lt HSZ.out)))).1)
          have HR1 := Lib.hid (fun W hW => nrun_any x m t W (HK.out _ (HKE.out W hW)).2.1 HF.out (by have := HTS.out; omega) (HK.out _ (HKE.out W hW)).2.2.1)
          have HR2 := Lib.hid (fun W hW => nrun_any x m t2 W (HK.out _ (HKE.out W hW)).2.1 HF.out HZS.out (HK.out _ (HKE.out W hW)).2.2.1)
          rw [htq.out] at HR1
          rw [HT2.out] at HR2
          clear hgo HR HL HUL HB HSZ HQK HTV HBL HLB htq HT2 HZS HTB HAL HIN HPR hq
          have hq2 : (tq == tq) = true := beq_self_eq_true _
          rcases hor with ⟨h1, h2⟩ | ⟨⟨h1, h2⟩, h3, h4⟩
          all_goals
            go_upto_region 16 with fail
            have hb0 : Below w10.heap.size w10 w10.drew := (Below.refl _ _).drew
            refine region_mix [(false, 0), (false, 1), (false, 3), (false, 4), (false, 5), (true, 2), (true, 6), (false, 7), (false, 8), (true, 9), (false, 10)] (fun w' => Below w10.heap.size w10 w') (by kernel_rfl) (by kernel_rfl) hb0 ?_
            simp only [planOps, List.map_cons, List.map_nil, List.getD_cons_zero, List.getD_cons_succ, List.length_cons, List.length_nil, List.drop_succ_cons, List.drop_zero]
            refine mix_seg (seg := [_, _, _, _, _]) rfl hb0 ?_
            intro ι hι F hF
            have f1 := fun n => HCV.out (F n) (hF n)
            have f2 := Lib.hid (fun n => (HK.out _ (HKE.out _ (hF n))).1)
            repeat (first | (refine BigFrame.wpQuiet_want rfl (fun K hK => ?_); refine quiet_load_mach _ rfl s x m rfl (fun w' ⟨n, e⟩ => e ▸ f2.out n) ?_; refine hK _ ?_; clear hK K; simp only [Act.put, List.setIfInBounds_toArray, List.set_cons_zero, List.set_cons_succ]) | (go_big_quiet_step (fail)))
            refine wpQuiet_nil ?_
            clear f1 f2 hF hι F
            refine mix_eff (fun K hK => ?_)
            go_wp2_with (go_at_call 10; refine (HR1.out _ hb0).mono ?_; rintro e wm1 ⟨rfl, hbm1⟩)
            have hb1 : Below w10.heap.size w10 wm1 := hb0.trans (hbm1.mono hb0.size)
            clear hbm1
            refine mix_on hK hb1 ?_
            clear hK K
            refine mix_eff (fun K hK => ?_)
            go_wp2_with (go_at_call 10; refine (HR2.out _ hb1).mono ?_; rintro e wm2 ⟨rfl, hbm2⟩)
            have hb2 : Below w10.heap.size w10 wm2 := hb1.trans (hbm2.mono hb1.size)
            clear hbm2
            refine mix_on hK hb2 ?_
            clear hK K
            refine mix_seg (seg := [_, _]) rfl hb2 ?_
            intro ι hι F hF
            iterate 2 (go_big_quiet_step (fail))
            refine wpQuiet_nil ?_
            clear hF hι F
            refine mix_eff (fun K hK => ?_)
            go_wp2_with (go_at_call 5; refine (HAW.out _ (HKE.out _ hb2)).mono ?_; rintro e wm3 ⟨rfl, hbm3⟩)
            have hb3 : Below w10.heap.size w10 wm3 := hb2.trans (hbm3.mono hb2.size)
            clear hbm3
            refine mix_on hK hb3 ?_
            clear hK K
            refine mix_seg (seg := [_]) (rest := []) rfl hb3 ?_
            intro ι hι F hF
            iterate 1 (go_big_quiet_step (fail))
            refine wpQuiet_nil ?_
            clear hF hι F
            show wpList _ _ _ _ _ _
            go_wp2_with fail
            refine NoPanic.normal ?_
            go_wp2_with fail
            go_ret
            exact ⟨rfl, (HK.out _ (HKE.out _ hb3)).2.2.2.1⟩
end Nc
end Go.Proofs.YtdmnocjlmnkdhaaDoor
namespace Go.Proofs.YtdmnocjlmnkdhaaDoor
theorem own : ownKnob Tryd.prog.godebug = none := by kernel_rfl
theorem laidOut : laidOutB Tryd.prog = true := by kernel_rfl
end Go.Proofs.YtdmnocjlmnkdhaaDoor
namespace Go.Proofs.YtdmnocjlmnkdhaaDoor
open Go.ChangeShapes Go.WideShapes Go.ChangeAt Go.WideMaps Go.WideElems Go.RowKit Sets
def laidT : List (String × DataW Unit) := Rows.nfaClassesRow.laid
theorem laid_list : (Rows.laid_math_bits_deBruijn64tab : DataW Unit) = .agg (Lib.deBruijn64tab.map fun (n : Nat) => .lit (.int .u8 n)) := rfl
theorem of_laid {W : World} (h : laidMetH Tryd.prog laidT W) : Tab W := by
  rw [MakeChecks.laidMetH_plain _ _ _ (by kernel_rfl)] at h
  have hu := Lib.laidMet.reads h (n := "math/bits.deBruijn64tab") (d := Rows.laid_math_bits_deBruijn64tab) (by unfold laidT Rows.nfaClassesRow; simp)
  obtain ⟨g0, t0, cs0, f0, p0, hg0, ht0, hv0, hd0⟩ := hu
  obtain rfl := Option.some.inj ((show Tryd.prog.globalNamed "math/bits.deBruijn64tab" = some 0 by kernel_rfl).symm.trans hg0)
  obtain rfl := Option.some.inj ((show (Tryd.prog.globals[0]?).map (·.type) = some 87 by kernel_rfl).symm.trans ht0)
  have ce : Tryd.prog.cellsOf 5 = 1 := by kernel_rfl
  have hcell := fun j => World.var?_cell hg0 hv0 j
  rw [laid_list] at hd0
  intro i hi
  have hi64 : i < 64 := hi
  obtain ⟨fu, d, q, hd1, hd2⟩ := Lib.array_elem Tryd.underlying87 hd0 i hi64
  rw [ce] at hd2
  rw [List.getElem?_map, List.getElem?_eq_getElem hi] at hd1
  simp only [Option.map_some, Option.some.injEq] at hd1
  subst hd1
  obtain ⟨n, e1, e2, -⟩ := DataW.trod_int Tryd.underlying5 hd2
  simp only [Prod.mk.injEq, DataW.lit.injEq, Lit.int.injEq] at e2
  have e0 := congrArg (·[0]?) e1
  simp [List.getElem?_drop] at e0
  rw [hcell, List.getD_eq_getElem?_getD, List.getElem?_eq_getElem hi, Option.getD_some, e2.1.2]
  simpa using e0
end Go.Proofs.YtdmnocjlmnkdhaaDoor
namespace Go.Proofs.YtdmnocjlmnkdhaaDoor
open Go.ChangeShapes Go.WideShapes Go.ChangeAt Go.WideMaps Go.WideElems Go.RowKit
open Go.ChangeMaps (open_string shut_string)
namespace LawNCls
set_option maxRecDepth 100000 in
theorem lifted (os : Os) (started : os.Started) (H : Type) (enc : TypeId × Value → H) :
    ReturnsInHanded {} Tryd.checked os 3 .any (fun w args => (Rows.nfaClassesSpec.pre enc Tryd.prog Tryd.f3 [] false w args ∧ laidMetH Tryd.prog laidT w) ∧ sizedMet enc Tryd.prog Tryd.f3 (OpenSpec.ofChange Rows.nfaClassesSpec) false w args)
      (Rows.nfaClassesSpec.post enc Tryd.prog Tryd.f3 false true false false) := by
  refine returnsInHanded_of_change_and (C := Tryd.checked) (X := fun w _ => laidMetH Tryd.prog laidT w) (fun _ _ _ hh h => h.of_heap hh) own started (by kernel_rfl) Tryd.func3
    (ChangeSpec.witness_shaped (enc := enc) (C := Tryd.checked) (os := os) (X := fun w _ => laidMetH Tryd.prog laidT w) false (World.laidAll Tryd.prog os laidT) #[.agg #[.slice none 0 0, .slice none 0 0, .slice none 0 0, .slice none 0 0, .bool false], .string ByteArray.empty, .slice none 0 0] 8 (World.laidAll_os _ _ _) (World.shaped_of_ZipB (by kernel_rfl) (by kernel_rfl)) (by kernel_rfl) (by kernel_rfl) (by kernel_rfl)
      (by rw [MakeChecks.laidMetH_plain _ _ _ (by kernel_rfl)]; exact laidMet_laidAll _ (by kernel_rfl) (by kernel_rfl))) ?_
  intro W base args ds gs before hval0 hW _ _ hL _
  have hval : ∀ (j : Nat) t v, Tryd.f3.params[j]? = some t → args[j]? = some v → Value.okWide Tryd.prog W .any base t v := hval0
  have hW' := hW
  obtain ⟨p, q, hA0, hV, rfl, hfz, hnd⟩ := hW
  have hA : DataW.TrodAll enc Tryd.prog W 0 (fun _ => true) true Tryd.f3.params.toList args.toList ds p := hA0
  rw [Tryd.params3] at hA hval
  obtain ⟨v0, vs0, d0, ds0, p0, q0, hargs, rfl, rfl, h0, r0⟩ := trodAll_cons hA
  obtain ⟨v1, vs1, d1, ds1, p1, q1, rfl, rfl, rfl, h1, r1⟩ := trodAll_cons r0
  obtain ⟨v2, vs2, d2, ds2, p2, q2, rfl, rfl, rfl, h2, r2⟩ := trodAll_cons r1
  obtain ⟨rfl, rfl, rfl⟩ := trodAll_nil r2
  obtain rfl : args = #[v0, v1, v2] := by cases args; simp_all
  obtain ⟨rfl, rfl⟩ := trodVars_none hV
  obtain ⟨x0, m0, rfl, u0⟩ := Nf.open_mach (hval 0 _ v0 rfl rfl) h0
  obtain ⟨s1, rfl, -, -, w1⟩ := open_string Tryd.underlying9 (hval 1 _ v1 rfl rfl) h1
  obtain ⟨L2, q2⟩ := open_bytes (hval 2 _ v2 rfl rfl) h2
  have hT := of_laid hL
  refine (Nc.nclass_any x0 m0 s1 v2 L2 W u0 q2 hT).mono fun e W' ⟨he, hb⟩ => ?_
  subst he
  exact ⟨_, rfl, post_law hW' rfl laidOut (by kernel_rfl) (by kernel_rfl) Tryd.underlying4 rfl hb⟩
theorem law_holds : Rows.NfaClassesSaid :=
  OpenClaim.holds_of_wide 3 Tryd.f3 rfl rfl rfl rfl rfl rfl rfl ⟨rfl, rfl, rfl, rfl, rfl⟩ rfl rfl rfl rfl rfl (by kernel_rfl) Tryd.func3 (by kernel_rfl)
    (of_decide_eq_true (by kernel_rfl)) (by unfold Func.isWrapper; first | (rw [if_pos (by decide +kernel)]; kernel_rfl) | (rw [if_neg (by decide +kernel)]; exact ⟨rfl, rfl⟩))
    (fun os started H enc _ => lifted os started H enc)
theorem card_holds : Rows.NfaClassesCardSaid :=
  Claim7.holds_tied_plain_at .later [] [.data] true (true, "23c67ce6d583d0a205b9e332514f1006ff197a790e75516af8192d5613734e6f") false
    law_holds (fun _ h => by cases h) (by kernel_rfl) (fun _ h => by cases h) nfaClasses_row_tie rfl ⟨rfl, rfl⟩ (by kernel_rfl) rfl
    (fun f fn hf hfn => by
      obtain rfl : f = 3 := Option.some.inj ((show Tryd.prog.funcNamed "shibboleth/shibbolethlaw10.NfaClasses" = some 3 by kernel_rfl).symm.trans hf) |>.symm
      obtain rfl : fn = Tryd.f3 := (Option.some.inj (Tryd.func3.symm.trans hfn)).symm
      exact ⟨by kernel_rfl, fun j t ht => by
        have hm := Array.mem_of_getElem? ht
        have hall : ((Tryd.f3.params).all fun u => !Tryd.prog.wantsStandIn u) = true := by kernel_rfl
        show Tryd.prog.wantsStandIn t = false
        simpa using Array.all_eq_true_iff_forall_mem.1 hall t hm⟩)
    (by kernel_rfl)
#print axioms card_holds
end LawNCls
end Go.Proofs.YtdmnocjlmnkdhaaDoor
