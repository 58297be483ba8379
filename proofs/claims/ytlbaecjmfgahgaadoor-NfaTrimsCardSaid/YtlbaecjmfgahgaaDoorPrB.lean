/- Several texts in one. -/
import Derived.Test.YtlbaecjmfgahgaaDoorPrA
import Derived.Deep.CutRange
import Derived.Deep.CutBlock
import Derived.Test.YtlbaecjmfgahgaaDoorNfH
import Derived.Test.YtlbaecjmfgahgaaDoorMix
namespace Go.Proofs.YtlbaecjmfgahgaaDoor
open Go.RowKit Sets Nf
namespace Nu
set_option maxHeartbeats 6400000 in
set_option maxRecDepth 100000 in
theorem useful10_any (x : Ma) (m : Mc) (w : World) (h : MAt w x m) (hf : Fine m) (hr : Rt m) :
    Calls Tryd.prog 31 #[.agg (mc x m)] w fun e w' => ∃ g, e = .returned (.slice (some ⟨g, 0, none⟩) m.sp.length m.sp.length) ∧ w.heap.size ≤ g ∧ w'.rowIs g 4 m.sp.length (fun j => .bool ((useN m).testBit j)) ∧ Below w.heap.size w w' := by
  have HM0 := Lib.hid h
  have HF := Lib.hid hf
  have HRT := Lib.hid hr
  clear h hf hr
  go_enter Tryd.func31, Tryd.ntmps31
  go_upto_region 1 with fail
  have hbx := BoxM.new w x m
  have hbb := (Below.refl w.heap.size w).alloc (Nat.le_refl _) (.cells (mc x m) 27)
  have hz : (w.alloc (.cells (mc x m) 27)).heap.size = w.heap.size + 1 := by simp
  generalize w.alloc (.cells (mc x m) 27) = w1 at *
  have HMK : Hid (∀ wr, Below w.heap.size w wr → MAt wr x m) := Lib.hid (fun wr hb => HM0.out.kept hb)
  obtain ⟨s, hs⟩ : ∃ s, Hid (w.heap.size = s) := ⟨_, Lib.hid rfl⟩
  rw [hs.out] at hbx hbb hz HMK ⊢
  have HX := Lib.hid hbx
  have HB := Lib.hid hbb
  have HZ := Lib.hid hz
  have HN : Hid (m.sp.length ≤ 1000) := Lib.hid (by have := HRT.out.many; omega)
  clear hbx hbb hz HM0
  have c0 := HX.out.c0
  go_upto_region 2 with fail
  go_upto_region 4 with (refine wpList_make_bools rfl _ _ rfl m.sp.length rfl rfl HN.out ?_)
  have hT := Tw.start HX.out HB.out HZ.out
  rw [HZ.out, show s + 1 + 1 = s + 2 from rfl]
  clear c0 HX HB HZ
  generalize (w1.alloc (.cells (madeCells #[.bool false] m.sp.length) 4)).alloc (.cells (madeCells #[.bool false] m.sp.length) 4) = w2 at *
  have HT := Lib.hid hT
  clear hT w1
  have HST : Hid (∀ a : Nat, a < m.sp.length → stN m a < 2 ^ 256) := Lib.hid (fun a ha => by
    have := HF.out.set (m.sp.getD a (0, 0)) (getD_mem ha)
    exact this.1)
  go_wp2_with fail
  go_loopw [6] (fun i wr => ∃ (r : Nat) (C G : Nat → Bool), i = .int .i64 r ∧ r ≤ m.sp.length + 1 ∧ Hid (Tw x m s w C G wr) ∧ Hid (RoC m r C) ∧ Hid (RoG m r G)) (fun i _ => (((m.sp.length + 1 : Nat) : Int) - intOf i).toNat)
  case atStart => exact ⟨0, _, _, rfl, Nat.zero_le _, HT, Lib.hid Ro.start, Lib.hid Ro.start⟩
  case round =>
    clear HT
    obtain ⟨r, C0, G0, rfl, hrn, HT, HC0, HG0⟩ := hrel
    generalize hwr : wr = w3 at *
    clear hwr wr
    by_cases hlt : r ≤ m.sp.length
    · have hdd : decide ((r : Int) ≤ (m.sp.length : Int)) = true := decide_eq_true (by omega)
      have hd2 : decide (r ≤ m.sp.length) = true := decide_eq_true hlt
      have HW1 : Hid (wrap64 ((r : Int) + 1) = ((r + 1 : Nat) : Int)) := Lib.hid (nat_wrap (by have := HN.out; omega))
      have HR := Lib.hid hlt
      clear hlt
      go_wp2_with fail
      go_loopw [7] (fun i wr => ∃ (a : Nat) (C G : Nat → Bool), i = .int .i64 a ∧ a ≤ m.sp.length ∧ Hid (Tw x m s w C G wr) ∧ Hid (UrC m C0 a a 0 C) ∧ Hid (UrG m G0 a a 0 G)) (fun i _ => ((m.sp.length : Int) - intOf i).toNat)
      case atStart => exact ⟨0, _, _, rfl, Nat.zero_le _, HT, Lib.hid HC0.out.begin, Lib.hid HG0.out.begin⟩
      case round =>
        clear HT
        obtain ⟨a, C, G, rfl, ha, HT, HC, HG⟩ := hrel
        generalize hwr : wr = w4 at *
        clear hwr wr
        by_cases hlt : a < m.sp.length
        · have hdd3 : decide ((a : Int) < (m.sp.length : Int)) = true := decide_eq_true (by omega)
          have hd4 : decide (a < m.sp.length) = true := decide_eq_true hlt
          have hai : (a : Int) < (m.sp.length : Int) := by omega
          have HW2 : Hid (wrap64 ((a : Int) + 1) = ((a + 1 : Nat) : Int)) := Lib.hid (nat_wrap (by have := HN.out; omega))
          have HA := Lib.hid hlt
          clear hlt
          go_upto_region 10 with fail
          have hM := HMK.out _ HT.out.bel
          have HHS := Lib.hid (hasN_any x.fa x.fc (a : Int) m.fi w4 hM.fi HF.out.fi)
          rw [fi_has HRT.out a] at HHS
          have c0 := HT.out.box.c0
          have c1 := HT.out.box.c1
          obtain ⟨sb, so, hsa, hsr⟩ := hM.sp a HA.out
          rw [hsa] at c0
          have HROW : Hid (w4.rangeAt sb (so + a * 5) (setC (stN m a)).toList) := Lib.hid (spot_set hsr)
          have HFU := Lib.hid (rfull_any (stN m a) w4 (HST.out a HA.out))
          rw [fl_eq] at HFU
          clear hM hsa hsr
          go_cut [40] from 23 to 110 (fun v wx => v = .bool (bC m a) ∧ Hid (Tw x m s w C G wx))
          case first =>
            have HBC : Hid (bC m a = ((grp m.fi).testBit a && fl m a)) := Lib.hid rfl
            generalize fl m a = ff at *
            generalize bC m a = bb at *
            cases hh : (grp m.fi).testBit a with
            | false =>
              rw [hh] at HHS HBC
              clear hh
              go_wp2_with (go_at_call 46; refine HHS.out.mono ?_; rintro e w5 ⟨rfl, rfl⟩)
              go_meet
              case rel => exact ⟨by rw [HBC.out]; rfl, HT⟩
            | true =>
              rw [hh] at HHS HBC
              clear hh
              go_wp2_with (first
                | (refine BigFrame.wpList_want rfl (fun K' hK' => ?_); refine wp_load_mid 39 _ rfl sb (so + a * 5) rfl (setC (stN m a)).toList _ HROW.out Tryd.underlying39 rfl (sizeSet (stN m a)) ?_; refine hK' _ _ ?_; clear hK' K')
                | (go_at_call 47; refine HFU.out.mono ?_; rintro e w6 ⟨rfl, hb⟩; have HT6 := Lib.hid (HT.out.stay hb); clear hb)
                | (go_at_call 46; refine HHS.out.mono ?_; rintro e w5 ⟨rfl, rfl⟩))
              go_meet
              case rel => exact ⟨by rw [HBC.out]; rfl, HT6⟩
          case rest =>
            obtain ⟨rfl, HT5⟩ := hcut
            clear c0 c1 HHS HFU HROW HT
            generalize hwc : wc = w5 at *
            clear hwc wc w4
            go_upto_if 40 with fail
            go_cut [] from 23 to 110 (fun wx => Hid (∃ C', Tw x m s w C' G wx ∧ UrC m C0 (a + 1) a 0 C'))
            case first =>
              obtain ⟨hc, hz⟩ := HT5.out.c1 HA.out
              cases hb : bC m a with
              | true =>
                have HX : Hid (Tw x m s w (u1 C a true) G (w5.setCell ⟨s + 1, a, none⟩ (.bool true)) ∧ UrC m C0 (a + 1) a 0 (u1 C a true)) := Lib.hid ⟨HT5.out.setC a true, (HC.out.put HA.out (by
                  unfold bC at hb
                  rw [Bool.and_eq_true] at hb
                  exact co_base hb.1 hb.2)).base (fun _ => u1_same _ _ _)⟩
                clear hb
                go_wp2_with fail
                go_meet
                case rel => exact Lib.hid ⟨_, HX.out.1, HX.out.2⟩
              | false =>
                have HX : Hid (UrC m C0 (a + 1) a 0 C) := Lib.hid (HC.out.base (fun h => by rw [hb] at h; cases h))
                clear hb
                go_wp2_with fail
                go_meet
                case rel => exact Lib.hid ⟨_, HT5.out, HX.out⟩
            case rest =>
              obtain ⟨C1, HX⟩ := hcut.out
              have HT6 := Lib.hid HX.1
              have HC1 := Lib.hid HX.2
              clear HX hcut HT5 HC
              generalize hwc : wc = w6 at *
              clear hwc wc w5
              go_upto_region 12 with fail
              have hM := HMK.out _ HT6.out.bel
              have c0 := HT6.out.box.c0
              have c3 := HT6.out.box.c3
              obtain ⟨sb, so, hsa, hsr⟩ := hM.sp a HA.out
              obtain ⟨lb, lo, hla, hlr⟩ := hM.la a (by rw [HRT.out.lal]; exact HA.out)
              rw [hsa] at c0
              rw [hla] at c3
              have HROW : Hid (w6.rangeAt sb (so + a * 5) (setC (stN m a)).toList) := Lib.hid (spot_set hsr)
              have HFU := Lib.hid (rfull_any (stN m a) w6 (HST.out a HA.out))
              rw [fl_eq] at HFU
              have hal : (a : Int) < (m.la.length : Int) := by have h1 := HRT.out.lal; have h2 := HA.out; omega
              clear hM hsa hsr hla
              go_cut [57] from 23 to 110 (fun v wx => v = .bool (bG m a) ∧ Hid (Tw x m s w C1 G wx))
              case first =>
                have HBC : Hid (bG m a = (m.la.getD a false && fl m a)) := Lib.hid rfl
                have HT := HT6
                clear HT6
                generalize fl m a = ff at *
                generalize bG m a = bb at *
                cases hh : m.la.getD a false with
                | false =>
                  rw [hh] at hlr HBC
                  clear hh
                  go_wp2_with fail
                  go_meet
                  case rel => exact ⟨by rw [HBC.out]; rfl, HT⟩
                | true =>
                  rw [hh] at hlr HBC
                  clear hh
                  go_wp2_with (first
                    | (refine BigFrame.wpList_want rfl (fun K' hK' => ?_); refine wp_load_mid 39 _ rfl sb (so + a * 5) rfl (setC (stN m a)).toList _ HROW.out Tryd.underlying39 rfl (sizeSet (stN m a)) ?_; refine hK' _ _ ?_; clear hK' K')
                    | (go_at_call 47; refine HFU.out.mono ?_; rintro e w6 ⟨rfl, hb⟩; have HT6 := Lib.hid (HT.out.stay hb); clear hb))
                  go_meet
                  case rel => exact ⟨by rw [HBC.out]; rfl, HT6⟩
              case rest =>
                obtain ⟨rfl, HT5⟩ := hcut
                clear c0 c3 HFU HROW HT6 hlr
                generalize hwc : wc = w5 at *
                clear hwc wc w6
                go_upto_if 57 with fail
                go_cut [] from 23 to 110 (fun wx => Hid (∃ G', Tw x m s w C1 G' wx ∧ UrG m G0 (a + 1) a 0 G'))
                case first =>
                  obtain ⟨hc, hz⟩ := HT5.out.g1 HA.out
                  cases hb : bG m a with
                  | true =>
                    have HX : Hid (Tw x m s w C1 (u1 G a true) (w5.setCell ⟨s + 2, a, none⟩ (.bool true)) ∧ UrG m G0 (a + 1) a 0 (u1 G a true)) := Lib.hid ⟨HT5.out.setG a true, (HG.out.put HA.out (by
                      unfold bG at hb
                      rw [Bool.and_eq_true] at hb
                      exact gg_base HRT.out hb.1 hb.2)).base (fun _ => u1_same _ _ _)⟩
                    clear hb
                    go_wp2_with fail
                    go_meet
                    case rel => exact Lib.hid ⟨_, HX.out.1, HX.out.2⟩
                  | false =>
                    have HX : Hid (UrG m G0 (a + 1) a 0 G) := Lib.hid (HG.out.base (fun h => by rw [hb] at h; cases h))
                    clear hb
                    go_wp2_with fail
                    go_meet
                    case rel => exact Lib.hid ⟨_, HT5.out, HX.out⟩
                case rest =>
                  obtain ⟨G1, HX⟩ := hcut.out
                  have HT6 := Lib.hid HX.1
                  have HG1 := Lib.hid HX.2
                  clear HX hcut HT5 HG
                  generalize hwc : wc = w6 at *
                  clear hwc wc w5
                  have HM6 := Lib.hid (HMK.out _ HT6.out.bel)
                  obtain ⟨lf, hlf⟩ : ∃ lf, Hid (m.fo.getD a [] = lf) := ⟨_, Lib.hid rfl⟩
                  have HAF : Hid (a < m.fo.length) := Lib.hid (by rw [HRT.out.fol]; exact HA.out)
                  have haf : (a : Int) < (m.fo.length : Int) := by have := HAF.out; omega
                  have HLF : Hid (lf.length ≤ 1000) := Lib.hid (by rw [← hlf.out]; exact (HF.out.each _ (getD_mem HAF.out)).1)
                  clear HM6
                  go_wp2_with fail
                  go_loopw [8] (fun i wr => ∃ (k : Nat) (C G : Nat → Bool), i = .int .i64 k ∧ k ≤ lf.length ∧ Hid (Tw x m s w C G wr) ∧ Hid (UrC m C0 (a + 1) a k C) ∧ Hid (UrG m G0 (a + 1) a k G)) (fun i _ => ((lf.length : Int) - intOf i).toNat)
                  case atStart => exact ⟨0, C1, G1, rfl, Nat.zero_le _, HT6, HC1, HG1⟩
                  case round =>
                    clear HT6 HC1 HG1
                    obtain ⟨k, C2, G2, rfl, hk, HT, HC, HG⟩ := hrel
                    generalize hwr : wr = w5 at *
                    clear hwr wr
                    have hM := HMK.out _ HT.out.bel
                    obtain ⟨ob, oo, oa, oc, hoa, hor, hon⟩ := hM.fo a HAF.out
                    have c2 := HT.out.box.c2
                    rw [hoa] at c2
                    rw [hlf.out] at hor hon
                    by_cases hlt : k < lf.length
                    · have hdd5 : decide ((k : Int) < (lf.length : Int)) = true := decide_eq_true (by omega)
                      have hd6 : decide (k < lf.length) = true := decide_eq_true hlt
                      have hki : (k : Int) < (lf.length : Int) := by omega
                      have HW3 : Hid (wrap64 ((k : Int) + 1) = ((k + 1 : Nat) : Int)) := Lib.hid (nat_wrap (by have := HLF.out; omega))
                      have HK := Lib.hid hlt
                      clear hlt
                      obtain ⟨hp1, hp2, hp3⟩ := fo_at HRT.out (a := a) (i := k) (by rw [hlf.out]; exact HK.out)
                      obtain ⟨nb, no, rfl, hcz⟩ := hon k HK.out
                      rw [hlf.out] at hp1
                      rw [hp1] at hcz
                      obtain ⟨p, hp⟩ : ∃ p, Hid (jn m a k = p) := ⟨_, Lib.hid rfl⟩
                      rw [hp.out] at hp2 hp3 hcz
                      have HP2 := Lib.hid hp2
                      have HP3 := Lib.hid hp3
                      have hpi : (p : Int) < (m.sp.length : Int) := by omega
                      clear hp1 hp2 hp3 hM hoa hon
                      go_upto_region 18 with fail
                      clear c2 hor hcz
                      have hM := HMK.out _ HT.out.bel
                      have c0 := HT.out.box.c0
                      obtain ⟨sb, so, hsa, hsr⟩ := hM.sp p HP2.out
                      rw [hsa] at c0
                      have HROW : Hid (w5.rangeAt sb (so + p * 5) (setC (stN m p)).toList) := Lib.hid (spot_set hsr)
                      have HFU := Lib.hid (rfull_any (stN m p) w5 (HST.out p HP2.out))
                      rw [fl_eq] at HFU
                      obtain ⟨hcc, -⟩ := HT.out.c1 HA.out
                      clear hM hsa hsr
                      go_cut [91] from 61 to 110 (fun v wx => v = .bool (C2 a && fl m p) ∧ Hid (Tw x m s w C2 G2 wx))
                      case first =>
                        cases hh : C2 a with
                        | false =>
                          rw [hh] at hcc
                          have HBC := Lib.hid hh
                          clear hh
                          go_wp2_with fail
                          go_meet
                          case rel => exact ⟨by rw [HBC.out]; rfl, HT⟩
                        | true =>
                          rw [hh] at hcc
                          have HBC := Lib.hid hh
                          clear hh
                          go_wp2_with (first
                            | (refine BigFrame.wpList_want rfl (fun K' hK' => ?_); refine wp_load_mid 39 _ rfl sb (so + p * 5) rfl (setC (stN m p)).toList _ HROW.out Tryd.underlying39 rfl (sizeSet (stN m p)) ?_; refine hK' _ _ ?_; clear hK' K')
                            | (go_at_call 47; refine HFU.out.mono ?_; rintro e w6 ⟨rfl, hb⟩; have HT6 := Lib.hid (HT.out.stay hb); clear hb))
                          go_meet
                          case rel => exact ⟨by rw [HBC.out]; rfl, HT6⟩
                      case rest =>
                        obtain ⟨rfl, HT5⟩ := hcut
                        clear c0 HFU HROW HT hcc
                        generalize hwc : wc = w6 at *
                        clear hwc wc w5
                        go_upto_if 91 with fail
                        go_cut [] from 61 to 110 (fun wx => Hid (∃ C', Tw x m s w C' G2 wx ∧ UrC m C0 (a + 1) a (k + 1) C'))
                        case first =>
                          obtain ⟨hc, hz⟩ := HT5.out.c1 HP2.out
                          cases hb : (C2 a && fl m p) with
                          | true =>
                            have HX : Hid (Tw x m s w (u1 C2 p true) G2 (w6.setCell ⟨s + 1, p, none⟩ (.bool true)) ∧ UrC m C0 (a + 1) a (k + 1) (u1 C2 p true)) := Lib.hid ⟨HT5.out.setC p true, (HC.out.put HP2.out (by
                              rw [Bool.and_eq_true] at hb
                              exact co_step (HC.out.sound a HA.out hb.1) HP3.out hb.2)).pair (fun _ _ => by rw [hp.out]; exact u1_same _ _ _)⟩
                            clear hb
                            go_wp2_with fail
                            go_meet
                            case rel => exact Lib.hid ⟨_, HX.out.1, HX.out.2⟩
                          | false =>
                            have HX : Hid (UrC m C0 (a + 1) a (k + 1) C2) := Lib.hid (HC.out.pair (fun h1 h2 => by
                              rw [hp.out] at h2
                              rw [show C2 a = true from h1, h2] at hb
                              cases hb))
                            clear hb
                            go_wp2_with fail
                            go_meet
                            case rel => exact Lib.hid ⟨_, HT5.out, HX.out⟩
                        case rest =>
                          obtain ⟨C3, HX⟩ := hcut.out
                          have HT := Lib.hid HX.1
                          have HC3 := Lib.hid HX.2
                          clear HX hcut HT5 HC
                          generalize hwc : wc = w5 at *
                          clear hwc wc w6
                          go_upto_region 20 with fail
                          have hM := HMK.out _ HT.out.bel
                          have c0 := HT.out.box.c0
                          obtain ⟨sb, so, hsa, hsr⟩ := hM.sp a HA.out
                          rw [hsa] at c0
                          have HROW : Hid (w5.rangeAt sb (so + a * 5) (setC (stN m a)).toList) := Lib.hid (spot_set hsr)
                          have HFU := Lib.hid (rfull_any (stN m a) w5 (HST.out a HA.out))
                          rw [fl_eq] at HFU
                          obtain ⟨hcc, -⟩ := HT.out.g1 HP2.out
                          clear hM hsa hsr
                          go_cut [107] from 61 to 110 (fun v wx => v = .bool (G2 p && fl m a) ∧ Hid (Tw x m s w C3 G2 wx))
                          case first =>
                            cases hh : G2 p with
                            | false =>
                              rw [hh] at hcc
                              have HBC := Lib.hid hh
                              clear hh
                              go_wp2_with fail
                              go_meet
                              case rel => exact ⟨by rw [HBC.out]; rfl, HT⟩
                            | true =>
                              rw [hh] at hcc
                              have HBC := Lib.hid hh
                              clear hh
                              go_wp2_with (first
                                | (refine BigFrame.wpList_want rfl (fun K' hK' => ?_); refine wp_load_mid 39 _ rfl sb (so + a * 5) rfl (setC (stN m a)).toList _ HROW.out Tryd.underlying39 rfl (sizeSet (stN m a)) ?_; refine hK' _ _ ?_; clear hK' K')
                                | (go_at_call 47; refine HFU.out.mono ?_; rintro e w6 ⟨rfl, hb⟩; have HT6 := Lib.hid (HT.out.stay hb); clear hb))
                              go_meet
                              case rel => exact ⟨by rw [HBC.out]; rfl, HT6⟩
                          case rest =>
                            obtain ⟨rfl, HT5⟩ := hcut
                            clear c0 HFU HROW HT hcc
                            generalize hwc : wc = w6 at *
                            clear hwc wc w5
                            obtain ⟨hc, hz⟩ := HT5.out.g1 HA.out
                            cases hb : (G2 p && fl m a) with
                            | true =>
                              have HX : Hid (Tw x m s w C3 (u1 G2 a true) (w6.setCell ⟨s + 2, a, none⟩ (.bool true)) ∧ UrG m G0 (a + 1) a (k + 1) (u1 G2 a true)) := Lib.hid ⟨HT5.out.setG a true, (HG.out.put HA.out (by
                                rw [Bool.and_eq_true] at hb
                                exact gg_step (HG.out.sound p HP2.out hb.1) HP3.out hb.2)).pair (fun _ _ => u1_same _ _ _)⟩
                              clear hb HT5 HG
                              go_wp2_with fail
                              go_roundw
                              case rel => exact ⟨k + 1, _, _, by rw [HW3.out], HK.out, Lib.hid HX.out.1, HC3, Lib.hid HX.out.2⟩
                              case measure => rw [HW3.out]; have := HK.out; simp only [intOf]; omega
                            | false =>
                              have HX : Hid (UrG m G0 (a + 1) a (k + 1) G2) := Lib.hid (HG.out.pair (fun h1 h2 => by
                                rw [hp.out] at h1
                                rw [h1, show fl m a = true from h2] at hb
                                cases hb))
                              clear hb HG
                              go_wp2_with fail
                              go_roundw
                              case rel => exact ⟨k + 1, _, _, by rw [HW3.out], HK.out, HT5, HC3, HX⟩
                              case measure => rw [HW3.out]; have := HK.out; simp only [intOf]; omega
                    · have hdd5 : decide ((k : Int) < (lf.length : Int)) = false := decide_eq_false (by omega)
                      have hd6 : decide (k < lf.length) = false := decide_eq_false hlt
                      have hke : k = (m.fo.getD a []).length := by rw [hlf.out]; omega
                      rw [hke] at HC HG
                      have HC3 := Lib.hid HC.out.row
                      have HG3 := Lib.hid HG.out.row
                      clear hlt hke HC HG
                      go_wp2_with fail
                      go_roundw
                      case rel => exact ⟨a + 1, _, _, by rw [HW2.out], HA.out, HT, HC3, HG3⟩
                      case measure => rw [HW2.out]; have := HA.out; simp only [intOf]; omega
        · have hdd3 : decide ((a : Int) < (m.sp.length : Int)) = false := decide_eq_false (by omega)
          have hd4 : decide (a < m.sp.length) = false := decide_eq_false hlt
          have hae : a = m.sp.length := by omega
          rw [hae] at HC HG
          have HC2 := Lib.hid (HC0.out.next HC.out (wantC HRT.out) (fun r q hr hq => ⟨hr, (fo_at HRT.out hq).2.1⟩))
          have HG2 := Lib.hid (HG0.out.next HG.out (wantG HRT.out) (fun r q hr hq => ⟨(fo_at HRT.out hq).2.1, hr⟩))
          clear hlt hae
          go_wp2_with fail
          go_roundw
          case rel => exact ⟨r + 1, _, _, by rw [HW1.out], by have := HR.out; omega, HT, HC2, HG2⟩
          case measure => rw [HW1.out]; have := HR.out; simp only [intOf]; omega
    · have hdd : decide ((r : Int) ≤ (m.sp.length : Int)) = false := decide_eq_false (by omega)
      have hd2 : decide (r ≤ m.sp.length) = false := decide_eq_false hlt
      have HCD := Lib.hid (HC0.out.done (by omega) (wantC HRT.out))
      have HGD := Lib.hid (HG0.out.done (by omega) (wantG HRT.out))
      clear hlt HC0 HG0
      have HUS := Lib.hid (useN_us HRT.out)
      go_wp2_with fail
      go_loopw [10] (fun i wr => ∃ (a : Nat) (C : Nat → Bool), i = .int .i64 a ∧ a ≤ m.sp.length ∧ Hid (Tw x m s w C G0 wr) ∧ Hid (∀ j, C j = if j < a then C0 j && G0 j else C0 j)) (fun i _ => ((m.sp.length : Int) - intOf i).toNat)
      case atStart => exact ⟨0, C0, rfl, Nat.zero_le _, HT, Lib.hid (fun j => by rw [if_neg (Nat.not_lt_zero _)])⟩
      case round =>
        clear HT
        obtain ⟨a, C, rfl, ha, HT, HC⟩ := hrel
        generalize hwr : wr = w4 at *
        clear hwr wr
        by_cases hlt : a < m.sp.length
        · have hdd3 : decide ((a : Int) < (m.sp.length : Int)) = true := decide_eq_true (by omega)
          have hd4 : decide (a < m.sp.length) = true := decide_eq_true hlt
          have hai : (a : Int) < (m.sp.length : Int) := by omega
          have HW2 : Hid (wrap64 ((a : Int) + 1) = ((a + 1 : Nat) : Int)) := Lib.hid (nat_wrap (by have := HN.out; omega))
          have HA := Lib.hid hlt
          clear hlt
          have HT2 := Lib.hid (HT.out.setC a (C0 a && G0 a))
          have HC2 : Hid (∀ j, u1 C a (C0 a && G0 a) j = if j < a + 1 then C0 j && G0 j else C0 j) := Lib.hid (fun j => by
            unfold u1
            by_cases e : j = a
            · rw [if_pos e, if_pos (by omega), e]
            · rw [if_neg e, HC.out j]
              by_cases e2 : j < a
              · rw [if_pos e2, if_pos (by omega)]
              · rw [if_neg e2, if_neg (by omega)])
          obtain ⟨hc, hz⟩ := HT.out.c1 HA.out
          obtain ⟨hg, -⟩ := HT.out.g1 HA.out
          rw [HC.out a, if_neg (Nat.lt_irrefl _)] at hc
          cases h1 : C0 a with
          | false =>
            rw [h1] at hc
            rw [h1, Bool.false_and] at HT2
            have HC3 := Lib.hid (fun j => (HC2.out j))
            rw [h1, Bool.false_and] at HC3
            clear h1 HC2 HC
            go_wp2_with fail
            go_roundw
            case rel => exact ⟨a + 1, _, by rw [HW2.out], HA.out, HT2, HC3⟩
            case measure => rw [HW2.out]; have := HA.out; simp only [intOf]; omega
          | true =>
            rw [h1] at hc
            rw [h1, Bool.true_and] at HT2
            have HC3 := Lib.hid (fun j => (HC2.out j))
            rw [h1, Bool.true_and] at HC3
            clear h1 HC2 HC
            go_wp2_with fail
            go_roundw
            case rel => exact ⟨a + 1, _, by rw [HW2.out], HA.out, HT2, HC3⟩
            case measure => rw [HW2.out]; have := HA.out; simp only [intOf]; omega
        · have hdd3 : decide ((a : Int) < (m.sp.length : Int)) = false := decide_eq_false (by omega)
          have hd4 : decide (a < m.sp.length) = false := decide_eq_false hlt
          have HAE : Hid (a = m.sp.length) := Lib.hid (by omega)
          clear hlt
          go_wp2_with fail
          go_ret
          refine ⟨s + 1, rfl, by rw [hs.out]; omega, World.rowIs.congr HT.out.c (fun j hj => ?_), by rw [hs.out]; exact HT.out.bel⟩
          rw [HC.out j, HAE.out, if_pos hj]
          congr 1
          rw [Bool.eq_iff_iff, HUS.out j, Bool.and_eq_true, HCD.out j hj, HGD.out j hj]
end Nu
end Go.Proofs.YtlbaecjmfgahgaaDoor
namespace Go.Proofs.YtlbaecjmfgahgaaDoor
open Go.RowKit Sets Nf
namespace Nu
theorem Tq.start {m : Mc} {U : Nat} {w0 : World} (cs0 : Array Value) : Tq w0.heap.size m U w0 [] [] [] [] (.slice none 0 0) (.slice none 0 0) (.slice none 0 0) (.slice none 0 0) [] ((w0.alloc (.cells cs0 27)).setRow w0.heap.size #[.slice none 0 0, .slice none 0 0, .slice none 0 0, .slice none 0 0, .bool m.em]) :=
  ⟨setRow_heap _ _ _ _ _ _ (heap_alloc_new w0 _), World.ownsRow_nil _ _ _ _, World.ownsRow_nil _ _ _ _, World.ownsRow_nil _ _ _ _, rfl, fun i hi => absurd hi (Nat.not_lt_zero _), World.ownsRow_nil _ _ _ _, But.below ((Below.refl w0.heap.size w0).alloc (Nat.le_refl _) _) (But.setRow _ _ _) (Nat.le_refl _) (by simp)⟩
/-- What lies below the machine in the making. -/
structure Lo (x : Ma) (m : Mc) (U s kb : Nat) (w0 : World) (na : Option Addr) (W : World) : Prop where
  box : BoxM W s x m
  kp : W.rowIs kb 4 m.sp.length (fun j => .bool (U.testBit j))
  nm : NumsIn W na (nuL U m.sp.length)
  ret : W.heap[s + 1]? = some (.cells #[.slice none 0 0, .slice none 0 0, .slice none 0 0, .slice none 0 0, .bool false] 27 (0, 0))
  bel : Below s w0 W
theorem Lo.stay {x : Ma} {m : Mc} {U s kb : Nat} {w0 W W' : World} {na : Option Addr} (h : Lo x m U s kb w0 na W) (hb : Below W.heap.size W W') : Lo x m U s kb w0 na W' :=
  ⟨h.box.kept hb h.box.lt, World.rowIs.of_block h.kp (hb.block _ (World.rowIs.lt h.kp)), h.nm.kept hb, (hb.block _ (Array.getElem?_eq_some_iff.1 h.ret).1).trans h.ret, h.bel.trans (hb.mono (Nat.le_of_lt h.box.lt))⟩
theorem nums_at {W : World} {a : Option Addr} {l : List Int} (h : NumsIn W a l) {q o : Nat} (e : a = some ⟨q, o, none⟩) {i : Nat} (hi : i < l.length) : W.cell? ⟨q, o + i, none⟩ = some (.int .i64 (l.getD i 0)) := by
  obtain ⟨b, o2, e2, hc⟩ := h i hi
  rw [e] at e2
  injection e2 with e2
  injection e2 with e3 e4
  subst e3; subst e4
  exact hc
/-- an append to numbers of the call's own, the world by an equation (the arm fails at once elsewhere) -/
theorem wpList_pushQ {ops : Array Oper} {rest : List Oper} {o : Oper} {a : Act} {W : World} {Q : Exit → Act → World → Prop} (hgd : o.guard = none) (s x : Operand)
    (ho : o.op = .call { callee := .builtin .append, args := #[s, x], argTypes := #[23, 23] }) (w : World) (k : Int) (hW : W = w.alloc (.cells #[.int .i64 k] 3)) (B : Nat) (v : Value) (l : List Int) (hs : a.eval s = v)
    (hown : OwnN B w v l) (hx : a.eval x = .slice (some ⟨w.heap.size, 0, none⟩) 1 1) (hn : l.length ≤ 100000) (hbase : B ≤ w.heap.size)
    (h : ∀ v' w', OwnN B w' v' (l ++ [k]) → Below B w w' → Ap w v w' v' → wpList Tryd.prog ops Q rest (a.put o.dst v') w') :
    wpList Tryd.prog ops Q (o :: rest) a W := by
  subst hW
  exact wpList_pushN hgd s x ho B v l k hs hown hx hn hbase h
set_option maxHeartbeats 12800000 in
set_option maxRecDepth 100000 in
theorem trim10_any (x : Ma) (m : Mc) (w : World) (h : MAt w x m) (hf : Fine m) (hr : Rt m) :
    Calls Tryd.prog 12 #[.agg (mc x m)] w fun e w' => ∃ y, e = .returned (.agg (mc y (trimM m (useN m)))) ∧ MAt w' y (trimM m (useN m)) ∧ Below w.heap.size w w' := by
  have HM0 := Lib.hid h
  have HF := Lib.hid hf
  have HRT := Lib.hid hr
  have HN : Hid (m.sp.length ≤ 250) := Lib.hid hr.many
  obtain ⟨U, hU⟩ : ∃ U, Hid (useN m = U) := ⟨_, Lib.hid rfl⟩
  rw [hU.out]
  clear h hf hr
  go_enter Tryd.func12, Tryd.ntmps12
  go_upto_region 1 with fail
  have hz : (w.alloc (.cells (mc x m) 27)).heap.size = w.heap.size + 1 := by simp
  have hal := (Below.refl (w.heap.size + 1) (w.alloc (.cells (mc x m) 27))).alloc (by simp) (.cells #[.slice none 0 0, .slice none 0 0, .slice none 0 0, .slice none 0 0, .bool false] 27)
  have HX1 := Lib.hid ((BoxM.new w x m).kept hal (by omega))
  have HR1 := Lib.hid (heap_alloc_new (w.alloc (.cells (mc x m) 27)) (.cells #[.slice none 0 0, .slice none 0 0, .slice none 0 0, .slice none 0 0, .bool false] 27))
  have HB1 := Lib.hid (((Below.refl w.heap.size w).alloc (Nat.le_refl _) (.cells (mc x m) 27)).trans (hal.mono (Nat.le_succ _)))
  rw [hz] at HR1
  clear hal hz
  generalize (w.alloc (.cells (mc x m) 27)).alloc (.cells #[.slice none 0 0, .slice none 0 0, .slice none 0 0, .slice none 0 0, .bool false] 27) = w1 at *
  have HMK : Hid (∀ wr, Below w.heap.size w wr → MAt wr x m) := Lib.hid (fun wr hb => HM0.out.kept hb)
  obtain ⟨s, hs⟩ : ∃ s, Hid (w.heap.size = s) := ⟨_, Lib.hid rfl⟩
  rw [hs.out] at HX1 HR1 HB1 HMK ⊢
  clear HM0
  have HUF := Lib.hid (useful10_any x m w1 (HMK.out _ HB1.out) HF.out HRT.out)
  rw [hU.out] at HUF
  go_upto_region 2 with (first
    | (refine wpList_load_mach rfl (.tmp 1) rfl s x m rfl HX1.out ?_)
    | (go_at_call 31; refine HUF.out.mono ?_; rintro e w2 ⟨kb, rfl, -, hkp, hb2⟩; have HKP2 := Lib.hid hkp; have HB2 := Lib.hid hb2; clear hkp hb2))
  have HX2 := Lib.hid (HX1.out.kept HB2.out HX1.out.lt)
  have HR2 := Lib.hid ((HB2.out.block _ (Array.getElem?_eq_some_iff.1 HR1.out).1).trans HR1.out)
  have HBs2 := Lib.hid (HB1.out.trans (HB2.out.mono (Nat.le_of_lt HX1.out.lt)))
  clear HX1 HR1 HB1 HUF HB2 w1
  go_wp2_with fail
  go_loopw [4, 5, 6] (fun v c i wr => ∃ j : Nat, i = .int .i64 j ∧ j ≤ m.sp.length ∧ c = .int .i64 (nu U j : Nat) ∧ Hid (OwnN w2.heap.size wr v (nuL U j)) ∧ Hid (Below w2.heap.size w2 wr)) (fun _ _ i _ => ((m.sp.length : Int) - intOf i).toNat)
  case atStart => exact ⟨0, rfl, Nat.zero_le _, rfl, Lib.hid (OwnN.nil _ _), Lib.hid (Below.refl _ _)⟩
  case round =>
    obtain ⟨j, rfl, hj, rfl, HO, HB⟩ := hrel
    generalize hwr : wr = w3 at *
    clear hwr wr
    by_cases hlt : j < m.sp.length
    · have hdd : decide ((j : Int) < (m.sp.length : Int)) = true := decide_eq_true (by omega)
      have hd2 : decide (j < m.sp.length) = true := decide_eq_true hlt
      have hji : (j : Int) < (m.sp.length : Int) := by omega
      have HW1 : Hid (wrap64 ((j : Int) + 1) = ((j + 1 : Nat) : Int)) := Lib.hid (nat_wrap (by have := HN.out; omega))
      have HJ := Lib.hid hlt
      have HNS := Lib.hid (nu_succ U j)
      have HNL := Lib.hid (nuL_succ U j)
      have HLE : Hid ((nuL U j).length ≤ 100000) := Lib.hid (by rw [nuL_len]; have := HN.out; omega)
      have HW2 : Hid (wrap64 ((nu U j : Int) + 1) = ((nu U j + 1 : Nat) : Int)) := Lib.hid (nat_wrap (by have := HN.out; have := nu_le U j; omega))
      have HS3 := Lib.hid HB.out.size
      clear hlt
      generalize nu U j = c at *
      generalize nuL U j = L at *
      go_upto_region 8 with (refine wpList_pushN rfl (.tmp 20) (.tmp 22) rfl w2.heap.size _ L c rfl HO.out rfl HLE.out HS3.out ?_; intro v' w8 ho8 hb8 _; have HO8 := Lib.hid ho8; have HB8 := Lib.hid (HB.out.trans hb8); clear ho8 hb8)
      have hkc : w8.cell? ⟨kb, j, none⟩ = some (.bool (U.testBit j)) := World.rowIs.cell (World.rowIs.of_block HKP2.out (HB8.out.block _ (World.rowIs.lt HKP2.out))) HJ.out
      rw [← HNL.out] at HO8
      clear HO HB HNL HLE HS3
      cases hb : U.testBit j with
      | false =>
        rw [hb] at hkc HNS
        clear hb
        go_wp2_with fail
        go_roundw
        case rel => exact ⟨j + 1, by rw [HW1.out], HJ.out, by rw [HNS.out]; rfl, HO8, HB8⟩
        case measure => rw [HW1.out]; have := HJ.out; simp only [intOf]; omega
      | true =>
        rw [hb] at hkc HNS
        clear hb
        go_wp2_with fail
        go_roundw
        case rel => exact ⟨j + 1, by rw [HW1.out], HJ.out, by rw [HW2.out, HNS.out]; rfl, HO8, HB8⟩
        case measure => rw [HW1.out]; have := HJ.out; simp only [intOf]; omega
    · have hdd : decide ((j : Int) < (m.sp.length : Int)) = false := decide_eq_false (by omega)
      have hd2 : decide (j < m.sp.length) = false := decide_eq_false hlt
      have hje : j = m.sp.length := by omega
      rw [hje] at HO
      clear hlt hje
      obtain ⟨na, nc, rfl, hnn⟩ := HO.out.nums
      have HLO : Hid (Lo x m U s kb w na w3) := Lib.hid ⟨HX2.out.kept HB.out HX2.out.lt, World.rowIs.of_block HKP2.out (HB.out.block _ (World.rowIs.lt HKP2.out)), hnn, (HB.out.block _ (Array.getElem?_eq_some_iff.1 HR2.out).1).trans HR2.out, HBs2.out.trans (HB.out.mono (Nat.le_of_lt HX2.out.lt))⟩
      clear hnn HO HB HX2 HKP2 HR2 HBs2
      go_upto_region 10 with fail
      have c4 := HLO.out.box.c4
      rw [nuL_len]
      go_upto_region 11 with (refine wpList_store_row rfl 27 (.tmp 7) (.tmp 32) rfl w3.heap.size #[.slice none 0 0, .slice none 0 0, .slice none 0 0, .slice none 0 0, .bool m.em] rfl rfl 27 _ (heap_alloc_new w3 _) (by kernel_rfl) rfl (by simp [Value.oneCell']) ?_)
      rw [show ∀ a : Act, a.put none undef = a from fun _ => rfl]
      have HTQ := Lib.hid (Tq.start (m := m) (U := U) (w0 := w3) #[.slice none 0 0, .slice none 0 0, .slice none 0 0, .slice none 0 0, .bool false])
      obtain ⟨b, hb⟩ : ∃ b, Hid (w3.heap.size = b) := ⟨_, Lib.hid rfl⟩
      have HALL : Hid (∀ W, Below b w3 W → Lo x m U s kb w na W) := Lib.hid (fun W hW => HLO.out.stay (hb.out ▸ hW))
      have HSB : Hid (s + 1 < b) := Lib.hid (by rw [← hb.out]; exact (Array.getElem?_eq_some_iff.1 HLO.out.ret).1)
      rw [hb.out] at HTQ ⊢
      clear c4 HLO
      generalize (w3.alloc (.cells #[.slice none 0 0, .slice none 0 0, .slice none 0 0, .slice none 0 0, .bool false] 27)).setRow b #[.slice none 0 0, .slice none 0 0, .slice none 0 0, .slice none 0 0, .bool m.em] = w4 at *
      go_wp2_with fail
      go_loopw [8] (fun i wr => ∃ (i' : Nat) (fv : Value), i = .int .i64 i' ∧ i' ≤ m.fi.length ∧ Hid (Tq b m U w3 (leftL U (m.fi.take i')) [] [] [] (.slice none 0 0) fv (.slice none 0 0) (.slice none 0 0) [] wr)) (fun i _ => ((m.fi.length : Int) - intOf i).toNat)
      case atStart => exact ⟨0, _, rfl, Nat.zero_le _, by rw [List.take_zero]; exact HTQ⟩
      case round =>
        clear HTQ
        obtain ⟨i, fv, rfl, hi, HT⟩ := hrel
        generalize hwr : wr = w5 at *
        clear hwr wr
        have HL := Lib.hid (HALL.out _ HT.out.below)
        have c1 := HL.out.box.c1
        by_cases hlt : i < m.fi.length
        · have hdd3 : decide ((i : Int) < (m.fi.length : Int)) = true := decide_eq_true (by omega)
          have hd4 : decide (i < m.fi.length) = true := decide_eq_true hlt
          have hii : (i : Int) < (m.fi.length : Int) := by omega
          have HW1 : Hid (wrap64 ((i : Int) + 1) = ((i + 1 : Nat) : Int)) := Lib.hid (nat_wrap (by have := HF.out.fi; omega))
          have HI := Lib.hid hlt
          clear hlt
          have hM := HMK.out _ HL.out.bel
          have hrz := ((rise_iff _ _).1 HRT.out.fiR).1 _ (getD_mem (d := 0) HI.out)
          obtain ⟨t, ht⟩ := Int.eq_ofNat_of_zero_le hrz.1
          rw [ht] at hrz
          have HTN : Hid (t < m.sp.length) := Lib.hid (by have := hrz.2; omega)
          have hti : (t : Int) < (m.sp.length : Int) := hrz.2
          have HT0 := Lib.hid ht
          obtain ⟨fb, fo, hfa, hcz⟩ := hM.fi i HI.out
          have HFA := Lib.hid hfa
          rw [hfa] at c1
          rw [ht] at hcz
          have hkc := World.rowIs.cell HL.out.kp HTN.out
          have HLT := Lib.hid (leftL_take U m.fi i t HI.out ht)
          clear hM hrz ht hfa
          cases hbt : U.testBit t with
          | false =>
            rw [hbt] at hkc
            rw [hbt, if_neg Bool.false_ne_true] at HLT
            clear hbt
            go_wp2_with fail
            go_roundw
            case rel => exact ⟨i + 1, fv, by rw [HW1.out], HI.out, by rw [HLT.out]; exact HT⟩
            case measure => rw [HW1.out]; have := HI.out; simp only [intOf]; omega
          | true =>
            rw [hbt] at hkc
            rw [hbt, if_pos rfl] at HLT
            clear hbt
            go_upto_region 15 with fail
            clear c1 hcz hkc
            obtain ⟨nb, no, rfl, -⟩ := HL.out.nm t (by rw [nuL_len]; exact HTN.out)
            have htn : (t : Int) < ((nuL U m.sp.length).length : Int) := by rw [nuL_len]; exact hti
            have HD := Lib.hid (HT.out.stay ((Below.refl _ _).drew))
            have HLL : Hid ((leftL U (m.fi.take i)).length ≤ 100000) := Lib.hid (by
              have h1 := leftL_len U (m.fi.take i)
              have h2 : (m.fi.take i).length ≤ m.fi.length := by rw [List.length_take]; omega
              have h3 := HF.out.fi
              omega)
            have HCC : Hid (∀ (W : World) (cs : Array Value), W.heap[b]? = some (.cells cs 27 (0, 0)) → cs[1]? = some fv → Below b w3 W → W.cell? ⟨b, 1, none⟩ = some fv ∧ W.cell? ⟨s, 1, none⟩ = some (.slice (some ⟨fb, fo, none⟩) m.fi.length x.fc) ∧ W.cell? ⟨fb, fo + i, none⟩ = some (.int .i64 t) ∧ W.cell? ⟨nb, no + t, none⟩ = some (.int .i64 (nu U t : Nat))) := Lib.hid (fun W cs hrow hfv hbel => by
              have hL := HALL.out _ hbel
              refine ⟨by rw [cell_of_row W b 1 _ _ _ hrow]; exact hfv, by have := hL.box.c1; rw [HFA.out] at this; exact this, ?_, ?_⟩
              · have := nums_at (HMK.out _ hL.bel).fi HFA.out HI.out
                rw [HT0.out] at this; exact this
              · have := nums_at hL.nm rfl (i := t) (by rw [nuL_len]; exact HTN.out)
                rw [nuL_get _ _ _ HTN.out] at this; exact this)
            have HC0 := Lib.hid (HCC.out _ _ HD.out.row rfl HD.out.below)
            clear HT HL
            refine region_mix [(false, 0), (false, 1), (false, 2), (false, 3), (false, 4), (false, 5), (false, 6), (false, 7), (false, 8), (false, 9), (true, 10), (true, 11), (false, 12)] (fun w' => w'.cell? ⟨b, 1, none⟩ = some fv ∧ w'.cell? ⟨s, 1, none⟩ = some (.slice (some ⟨fb, fo, none⟩) m.fi.length x.fc) ∧ w'.cell? ⟨fb, fo + i, none⟩ = some (.int .i64 t) ∧ w'.cell? ⟨nb, no + t, none⟩ = some (.int .i64 (nu U t : Nat))) (by kernel_rfl) (by kernel_rfl) HC0.out ?_
            simp only [planOps, List.map_cons, List.map_nil, List.getD_cons_zero, List.getD_cons_succ, List.length_cons, List.length_nil, List.drop_succ_cons, List.drop_zero]
            refine mix_seg (seg := [_, _, _, _, _, _, _, _, _, _]) rfl HC0.out ?_
            intro ι hι F hF
            have f1 := fun n => (hF n).1
            have f2 := fun n => (hF n).2.1
            have f3 := fun n => (hF n).2.2.1
            have f4 := fun n => (hF n).2.2.2
            iterate 10 (go_big_quiet_step (fail))
            refine wpQuiet_nil ?_
            clear f1 f2 f3 f4 hF hι F
            generalize w5.drew = w6 at *
            refine mix_eff (fun K' hK => ?_)
            go_wp2_with fail
            have HAL := Lib.hid (HD.out.stay ((Below.refl w6.heap.size w6).alloc (Nat.le_refl _) (.cells #[.int .i64 (nu U t : Nat)] 3)))
            refine mix_on hK (HCC.out _ _ HAL.out.row rfl HAL.out.below) ?_
            clear hK K' HAL
            refine mix_eff (fun K' hK => ?_)
            refine wpList_pushN rfl (.tmp 49) (.tmp 58) rfl b fv (leftL U (m.fi.take i)) (nu U t : Nat) rfl HD.out.fi rfl HLL.out (Nat.le_of_lt HD.out.lt) ?_
            intro fv2 w8 ho hb2 ha
            have HT8 := Lib.hid (HD.out.pushF ho hb2 ha)
            have hr2 := (ha.block b HD.out.lt (fun e => HD.out.notB HD.out.fi (by decide) b e rfl)).trans HD.out.row
            have hC := HCC.out _ _ hr2 rfl (HD.out.below.trans hb2)
            have hfz : w8.frozen? ⟨b, 1, none⟩ = false := frozen_of_row w8 _ 1 _ _ hr2
            have hc3 := hC.1
            obtain ⟨a9, c9, hv9, -⟩ := own_slice ho
            simp only [List.length_append, List.length_cons, List.length_nil, Nat.zero_add] at hv9
            subst hv9
            clear ho hb2 ha hr2
            refine wpList_nil ?_
            refine mix_on hK hC ?_
            clear hK K'
            refine mix_seg (seg := [_]) (rest := []) rfl hC ?_
            intro ι hι F hF
            simp only [Act.put, List.setIfInBounds_toArray, List.set_cons_zero, List.set_cons_succ]
            iterate 1 (go_big_quiet_step (fail))
            refine wpQuiet_nil ?_
            clear hF hι F hC
            show wpList _ _ _ _ _ _
            clear HD HC0
            go_wp2_with fail
            refine NoPanic.normal ?_
            go_wp2_with fail
            go_roundw
            case rel => exact ⟨i + 1, .slice a9 ((leftL U (m.fi.take i)).length + 1) c9, by rw [HW1.out], HI.out, by rw [HLT.out]; exact HT8⟩
            case measure => rw [HW1.out]; have := HI.out; simp only [intOf]; omega
        · have hdd3 : decide ((i : Int) < (m.fi.length : Int)) = false := decide_eq_false (by omega)
          have hd4 : decide (i < m.fi.length) = false := decide_eq_false hlt
          have hie : m.fi.take i = m.fi := List.take_of_length_le (by omega)
          rw [hie] at HT
          clear hlt hie
          clear HL hi
          go_wp2_with fail
          go_loopw [9] (fun i wr => ∃ (i' : Nat) (sv ov lv : Value) (vs : List Value), i = .int .i64 i' ∧ i' ≤ m.sp.length ∧ Hid (Tq b m U w3 (leftL U m.fi) (kept U i') (kept U i') (kept U i') sv fv ov lv vs wr)) (fun i _ => ((m.sp.length : Int) - intOf i).toNat)
          case atStart => exact ⟨0, _, _, _, _, rfl, Nat.zero_le _, HT⟩
          case round =>
            clear HT c1
            obtain ⟨i, sv, ov, lv, vs, rfl, hi, HT⟩ := hrel
            generalize hwr : wr = w5 at *
            clear hwr wr
            by_cases hlt : i < m.sp.length
            · have hdd3 : decide ((i : Int) < (m.sp.length : Int)) = true := decide_eq_true (by omega)
              have hd4 : decide (i < m.sp.length) = true := decide_eq_true hlt
              have hii : (i : Int) < (m.sp.length : Int) := by omega
              have HW1 : Hid (wrap64 ((i : Int) + 1) = ((i + 1 : Nat) : Int)) := Lib.hid (nat_wrap (by have := HN.out; omega))
              have HI := Lib.hid hlt
              clear hlt
              have hkc := World.rowIs.cell (HALL.out _ HT.out.below).kp HI.out
              have HKS := Lib.hid (kept_succ U i)
              have HKL := Lib.hid (kept_len U i)
              generalize hkk : kept U i = P at *
              clear hkk
              cases hbt : U.testBit i with
              | false =>
                rw [hbt] at hkc
                rw [hbt, if_neg Bool.false_ne_true] at HKS
                clear hbt
                go_wp2_with fail
                go_roundw
                case rel => exact ⟨i + 1, sv, ov, lv, vs, by rw [HW1.out], HI.out, by rw [HKS.out]; exact HT⟩
                case measure => rw [HW1.out]; have := HI.out; simp only [intOf]; omega
              | true =>
                rw [hbt] at hkc
                rw [hbt, if_pos rfl] at HKS
                clear hbt
                obtain ⟨lf, hlf⟩ : ∃ lf, Hid (m.fo.getD i [] = lf) := ⟨_, Lib.hid rfl⟩
                have HAF : Hid (i < m.fo.length) := Lib.hid (by rw [HRT.out.fol]; exact HI.out)
                have haf : (i : Int) < (m.fo.length : Int) := by have := HAF.out; omega
                have HLF : Hid (lf.length ≤ 1000) := Lib.hid (by rw [← hlf.out]; exact (HF.out.each _ (getD_mem HAF.out)).1)
                go_wp2_with fail
                clear hkc
                go_loopw [10, 11] (fun v k wr => ∃ k' : Nat, k = .int .i64 k' ∧ k' ≤ lf.length ∧ Hid (OwnN w5.heap.size wr v (leftL U (lf.take k'))) ∧ Hid (Below w5.heap.size w5 wr)) (fun _ k _ => ((lf.length : Int) - intOf k).toNat)
                case atStart => exact ⟨0, rfl, Nat.zero_le _, Lib.hid (OwnN.nil _ _), Lib.hid (Below.refl _ _)⟩
                case round =>
                  obtain ⟨k, rfl, hk, HO, HB⟩ := hrel
                  generalize hwr : wr = w6 at *
                  clear hwr wr
                  have HT6 := Lib.hid (HT.out.stay HB.out)
                  have HL := Lib.hid (HALL.out _ HT6.out.below)
                  obtain ⟨ob, oo, oa, oc, hoa, hor, hon⟩ := (HMK.out _ HL.out.bel).fo i HAF.out
                  have c2 := HL.out.box.c2
                  rw [hoa] at c2
                  rw [hlf.out] at hor hon
                  by_cases hlt : k < lf.length
                  · have hdd5 : decide ((k : Int) < (lf.length : Int)) = true := decide_eq_true (by omega)
                    have hd6 : decide (k < lf.length) = true := decide_eq_true hlt
                    have hki : (k : Int) < (lf.length : Int) := by omega
                    have HW3 : Hid (wrap64 ((k : Int) + 1) = ((k + 1 : Nat) : Int)) := Lib.hid (nat_wrap (by have := HLF.out; omega))
                    have HK := Lib.hid hlt
                    clear hlt
                    obtain ⟨hp1, hp2, -⟩ := fo_at HRT.out (a := i) (i := k) (by rw [hlf.out]; exact HK.out)
                    obtain ⟨qb, qo, rfl, hcz⟩ := hon k HK.out
                    obtain ⟨p, hp⟩ : ∃ p, Hid (jn m i k = p) := ⟨_, Lib.hid rfl⟩
                    rw [hlf.out, hp.out] at hp1
                    rw [hp.out] at hp2
                    rw [hp1] at hcz
                    have HLT := Lib.hid (leftL_take U lf k p HK.out hp1)
                    have HP2 := Lib.hid hp2
                    have hpi : (p : Int) < (m.sp.length : Int) := by omega
                    have hkc := World.rowIs.cell HL.out.kp hp2
                    clear hp1 hp2 hoa hon
                    cases hbt : U.testBit p with
                    | false =>
                      rw [hbt] at hkc
                      rw [hbt, if_neg Bool.false_ne_true] at HLT
                      clear hbt
                      go_wp2_with fail
                      go_roundw
                      case rel => exact ⟨k + 1, by rw [HW3.out], HK.out, by rw [HLT.out]; exact HO, HB⟩
                      case measure => rw [HW3.out]; have := HK.out; simp only [intOf]; omega
                    | true =>
                      rw [hbt] at hkc
                      rw [hbt, if_pos rfl] at HLT
                      clear hbt
                      obtain ⟨nb, no, rfl, hcn⟩ := HL.out.nm p (by rw [nuL_len]; exact HP2.out)
                      rw [nuL_get _ _ _ HP2.out] at hcn
                      have HLE : Hid ((leftL U (lf.take k)).length ≤ 100000) := Lib.hid (by
                        have h1 := leftL_len U (lf.take k)
                        have h2 : (lf.take k).length ≤ lf.length := by rw [List.length_take]; omega
                        have h3 := HLF.out
                        omega)
                      have HS6 := Lib.hid HB.out.size
                      generalize leftL U (lf.take k) = L at *
                      generalize nu U p = c at *
                      go_wp2_with (refine wpList_pushQ rfl (.tmp 93) (.tmp 105) rfl w6 c rfl w5.heap.size _ L rfl HO.out rfl HLE.out HS6.out ?_; intro v' w8 ho8 hb8 _; have HO8 := Lib.hid ho8; have HB8 := Lib.hid (HB.out.trans hb8); clear ho8 hb8)
                      go_roundw
                      case rel => exact ⟨k + 1, by rw [HW3.out], HK.out, by rw [HLT.out]; exact HO8, HB8⟩
                      case measure => rw [HW3.out]; have := HK.out; simp only [intOf]; omega
                  · have hdd5 : decide ((k : Int) < (lf.length : Int)) = false := decide_eq_false (by omega)
                    have hd6 : decide (k < lf.length) = false := decide_eq_false hlt
                    have hke : lf.take k = lf := List.take_of_length_le (by omega)
                    rw [hke] at HO
                    clear hlt hke
                    go_upto_region 26 with fail
                    clear c2 hor hon hoa
                    obtain ⟨la, lc, rfl, -⟩ := own_slice HO.out
                    obtain ⟨sb, so, hsa, hsr⟩ := (HMK.out _ HL.out.bel).sp i HI.out
                    have HSA := Lib.hid hsa
                    have HPL : Hid (P.length ≤ 100000) := Lib.hid (by have h1 := HKL.out; have h2 := HI.out; have h3 := HN.out; omega)
                    have HD := Lib.hid (HT6.out.stay ((Below.refl _ _).drew))
                    have HOD := Lib.hid (own_stay HO.out ((Below.refl _ _).drew))
                    have HWS : Hid (b ≤ w5.heap.size) := Lib.hid (Nat.le_of_lt HT.out.lt)
                    have HCC : Hid (∀ (W : World) (cs : Array Value), W.heap[b]? = some (.cells cs 27 (0, 0)) → cs[0]? = some sv → Below b w3 W → W.cell? ⟨b, 0, none⟩ = some sv ∧ W.cell? ⟨s, 0, none⟩ = some (.slice (some ⟨sb, so, none⟩) m.sp.length x.sc) ∧ W.rangeAt sb (so + i * 5) (sp5 (m.sp.getD i (0, 0)))) := Lib.hid (fun W cs hrow hfv hbel => by
                      have hL := HALL.out _ hbel
                      refine ⟨by rw [cell_of_row W b 0 _ _ _ hrow]; exact hfv, by have := hL.box.c0; rw [HSA.out] at this; exact this, ?_⟩
                      obtain ⟨sb2, so2, h1, h2⟩ := (HMK.out _ hL.bel).sp i HI.out
                      rw [HSA.out] at h1
                      injection h1 with h1
                      injection h1 with h3 h4
                      subst h3; subst h4
                      exact h2)
                    have HC0 := Lib.hid (HCC.out _ _ HD.out.row rfl HD.out.below)
                    clear hsa hsr HO HT6 HL HB
                    refine region_mix [(false, 0), (false, 1), (false, 2), (false, 3), (false, 4), (false, 5), (false, 6), (true, 7), (true, 8), (false, 9)] (fun w' => w'.cell? ⟨b, 0, none⟩ = some sv ∧ w'.cell? ⟨s, 0, none⟩ = some (.slice (some ⟨sb, so, none⟩) m.sp.length x.sc) ∧ w'.rangeAt sb (so + i * 5) (sp5 (m.sp.getD i (0, 0)))) (by kernel_rfl) (by kernel_rfl) HC0.out ?_
                    simp only [planOps, List.map_cons, List.map_nil, List.getD_cons_zero, List.getD_cons_succ, List.length_cons, List.length_nil, List.drop_succ_cons, List.drop_zero]
                    refine mix_seg (seg := [_, _, _, _, _, _, _]) rfl HC0.out ?_
                    intro ι hι F hF
                    have f1 := fun n => (hF n).1
                    have f2 := fun n => (hF n).2.1
                    have Q1 := Lib.hid (fun n => (hF n).2.2)
                    have HCC2 := HCC
                    clear HCC
                    obtain ⟨Y, hY⟩ : ∃ Y, Hid (m.sp.getD i (0, 0) = Y) := ⟨_, Lib.hid rfl⟩
                    rw [hY.out] at HCC2 Q1 HC0 ⊢
                    iterate 6 (go_big_quiet_step (fail))
                    refine BigFrame.wpQuiet_want rfl (fun K hK => ?_); refine quiet_load_mid 41 _ rfl sb (so + i * 5) rfl (sp5 Y) _ (fun w' ⟨n, e⟩ => e ▸ Q1.out n) Tryd.underlying41 rfl (sizeSpot Y) ?_; refine hK _ ?_; clear hK K; simp only [Act.put, List.setIfInBounds_toArray, List.set_cons_zero, List.set_cons_succ]
                    refine wpQuiet_nil ?_
                    clear f1 f2 Q1 hF hι F
                    rw [show (sp5 Y).toArray = row5 Y from rfl]
                    unfold row5
                    generalize w6.drew = w7 at *
                    refine mix_eff (fun K' hK => ?_)
                    go_wp2_with fail
                    have HAL := Lib.hid (HD.out.stay ((Below.refl w7.heap.size w7).alloc (Nat.le_refl _) (.cells #[.int .u64 (wd Y.1 0), .int .u64 (wd Y.1 1), .int .u64 (wd Y.1 2), .int .u64 (wd Y.1 3), .int .u8 Y.2] 41)))
                    refine mix_on hK (HCC2.out _ _ HAL.out.row rfl HAL.out.below) ?_
                    clear hK K' HAL
                    refine mix_eff (fun K' hK => ?_)
                    refine wpList_push 22 41 (.agg zero5) 5 40 Tryd.underlying22 infoSpot rfl (by decide) rfl (.tmp 108) (.tmp 114) rfl b sv P.length _ rfl HD.out.sp (sp5 Y) _ rfl rfl (fun u hu => by simp [sp5] at hu; rcases hu with rfl | rfl | rfl | rfl | rfl <;> rfl) rfl HPL.out (by decide) (Nat.le_of_lt HD.out.lt) ?_
                    intro sv2 w8 ho hb2 ha
                    have HT8 := Lib.hid (HD.out.pushS (k := i) (by rw [hY.out]; exact ho) hb2 ha)
                    have hr2 := (ha.block b HD.out.lt (fun e => HD.out.notB HD.out.sp (by decide) b e rfl)).trans HD.out.row
                    have HO8 : Hid ((w8.setCell ⟨b, 0, none⟩ sv2).ownsRow w5.heap.size 3 1 (.slice la (leftL U lf).length lc) (leftL U lf).length (is64 (leftL U lf))) := Lib.hid (own_put ((ha.fr HD.out.sp b).own HOD.out (by decide) (HD.out.notB HOD.out (by decide))) hr2 (by decide) _ _)
                    have hC := HCC2.out _ _ hr2 rfl (HD.out.below.trans hb2)
                    have hfz : w8.frozen? ⟨b, 0, none⟩ = false := frozen_of_row w8 _ 0 _ _ hr2
                    have hc3 := hC.1
                    obtain ⟨a9, c9, rfl, -⟩ := own_slice ho
                    clear ho hb2 ha hr2
                    refine wpList_nil ?_
                    refine mix_on hK hC ?_
                    clear hK K'
                    refine mix_seg (seg := [_]) (rest := []) rfl hC ?_
                    intro ι hι F hF
                    simp only [Act.put, List.setIfInBounds_toArray, List.set_cons_zero, List.set_cons_succ]
                    iterate 1 (go_big_quiet_step (fail))
                    refine wpQuiet_nil ?_
                    clear hF hι F hC
                    show wpList _ _ _ _ _ _
                    clear HD HC0 HCC2 HOD
                    go_wp2_with fail
                    generalize w8.setCell ⟨b, 0, none⟩ (.slice a9 (P.length + 1) c9) = w9 at *
                    refine NoPanic.normal ?_
                    clear hfz hc3
                    go_upto_region 27 with fail
                    have HIL : Hid (i < m.la.length) := Lib.hid (by rw [HRT.out.lal]; exact HI.out)
                    have hil : (i : Int) < (m.la.length : Int) := by have := HIL.out; omega
                    obtain ⟨lb, lo, hla, -⟩ := (HMK.out _ (HALL.out _ HT8.out.below).bel).la i HIL.out
                    have HLA := Lib.hid hla
                    have HD := Lib.hid (HT8.out.stay ((Below.refl _ _).drew))
                    have HOD := Lib.hid (own_stay HO8.out ((Below.refl _ _).drew))
                    obtain ⟨Z, hZ⟩ : ∃ Z, Hid (m.la.getD i false = Z) := ⟨_, Lib.hid rfl⟩
                    have HCC : Hid (∀ (W : World) (cs : Array Value), W.heap[b]? = some (.cells cs 27 (0, 0)) → cs[3]? = some lv → Below b w3 W → W.cell? ⟨b, 3, none⟩ = some lv ∧ W.cell? ⟨s, 3, none⟩ = some (.slice (some ⟨lb, lo, none⟩) m.la.length x.lc) ∧ W.cell? ⟨lb, lo + i, none⟩ = some (.bool Z)) := Lib.hid (fun W cs hrow hfv hbel => by
                      have hL := HALL.out _ hbel
                      refine ⟨by rw [cell_of_row W b 3 _ _ _ hrow]; exact hfv, by have := hL.box.c3; rw [HLA.out] at this; exact this, ?_⟩
                      obtain ⟨sb2, so2, h1, h2⟩ := (HMK.out _ hL.bel).la i HIL.out
                      rw [HLA.out] at h1
                      injection h1 with h1
                      injection h1 with h3 h4
                      subst h3; subst h4
                      rw [hZ.out] at h2
                      exact h2)
                    have HC0 := Lib.hid (HCC.out _ _ HD.out.row rfl HD.out.below)
                    clear hla HT8 HO8
                    refine region_mix [(false, 0), (false, 1), (false, 2), (false, 3), (false, 4), (false, 5), (false, 6), (true, 7), (true, 8), (false, 9)] (fun w' => w'.cell? ⟨b, 3, none⟩ = some lv ∧ w'.cell? ⟨s, 3, none⟩ = some (.slice (some ⟨lb, lo, none⟩) m.la.length x.lc) ∧ w'.cell? ⟨lb, lo + i, none⟩ = some (.bool Z)) (by kernel_rfl) (by kernel_rfl) HC0.out ?_
                    simp only [planOps, List.map_cons, List.map_nil, List.getD_cons_zero, List.getD_cons_succ, List.length_cons, List.length_nil, List.drop_succ_cons, List.drop_zero]
                    refine mix_seg (seg := [_, _, _, _, _, _, _]) rfl HC0.out ?_
                    intro ι hι F hF
                    have f1 := fun n => (hF n).1
                    have f2 := fun n => (hF n).2.1
                    have f3 := fun n => (hF n).2.2
                    iterate 7 (go_big_quiet_step (fail))
                    refine wpQuiet_nil ?_
                    clear f1 f2 f3 hF hι F
                    generalize w9.drew = w10 at *
                    refine mix_eff (fun K' hK => ?_)
                    go_wp2_with fail
                    have HAL := Lib.hid (HD.out.stay ((Below.refl w10.heap.size w10).alloc (Nat.le_refl _) (.cells #[.bool Z] 4)))
                    refine mix_on hK (HCC.out _ _ HAL.out.row rfl HAL.out.below) ?_
                    clear hK K' HAL
                    refine mix_eff (fun K' hK => ?_)
                    refine wpList_push 25 4 (.bool false) 1 1 Tryd.underlying25 infoBool rfl (by decide) rfl (.tmp 118) (.tmp 124) rfl b lv P.length _ rfl HD.out.la [.bool Z] _ rfl rfl (fun u hu => by rw [List.mem_singleton.1 hu]; rfl) rfl HPL.out (by decide) (Nat.le_of_lt HD.out.lt) ?_
                    intro lv2 w11 ho hb2 ha
                    have HT11 := Lib.hid (HD.out.pushL (k := i) (by rw [hZ.out]; exact ho) hb2 ha)
                    have hr2 := (ha.block b HD.out.lt (fun e => HD.out.notB HD.out.la (by decide) b e rfl)).trans HD.out.row
                    have HO11 : Hid ((w11.setCell ⟨b, 3, none⟩ lv2).ownsRow w5.heap.size 3 1 (.slice la (leftL U lf).length lc) (leftL U lf).length (is64 (leftL U lf))) := Lib.hid (own_put ((ha.fr HD.out.la b).own HOD.out (by decide) (HD.out.notB HOD.out (by decide))) hr2 (by decide) _ _)
                    have hC := HCC.out _ _ hr2 rfl (HD.out.below.trans hb2)
                    have hfz : w11.frozen? ⟨b, 3, none⟩ = false := frozen_of_row w11 _ 3 _ _ hr2
                    have hc3 := hC.1
                    obtain ⟨a8, c8, rfl, -⟩ := own_slice ho
                    clear ho hb2 ha hr2
                    refine wpList_nil ?_
                    refine mix_on hK hC ?_
                    clear hK K'
                    refine mix_seg (seg := [_]) (rest := []) rfl hC ?_
                    intro ι hι F hF
                    simp only [Act.put, List.setIfInBounds_toArray, List.set_cons_zero, List.set_cons_succ]
                    iterate 1 (go_big_quiet_step (fail))
                    refine wpQuiet_nil ?_
                    clear hF hι F hC
                    show wpList _ _ _ _ _ _
                    clear HD HC0 HCC HOD
                    go_wp2_with fail
                    generalize w11.setCell ⟨b, 3, none⟩ (.slice a8 (P.length + 1) c8) = w12 at *
                    refine NoPanic.normal ?_
                    clear hfz hc3
                    go_upto_region 28 with fail
                    have hr12 := HT11.out.row
                    have hcb : w12.cell? ⟨b, 2, none⟩ = some ov := by rw [cell_of_row w12 b 2 _ _ _ hr12]; rfl
                    have HFO := Lib.hid HT11.out.fo
                    have HBL : Hid (b ≤ w12.heap.size) := Lib.hid (Nat.le_of_lt HT11.out.lt)
                    clear hr12
                    go_wp2_with (refine wpList_push 24 23 (.slice none 0 0) 1 24 Tryd.underlying24 infoIs rfl (by decide) rfl (.tmp 128) (.tmp 130) rfl b ov P.length vs rfl HFO.out [.slice la (leftL U lf).length lc] _ rfl rfl (fun u hu => by rw [List.mem_singleton.1 hu]; rfl) rfl HPL.out (by decide) HBL.out ?_; intro ov2 w13 ho hb2 ha; have HT13 := Lib.hid (HT11.out.pushO (k := i) ho (by rw [hlf.out]; exact own_mono ((ha.fr HT11.out.fo b).own HO11.out (by decide) (HT11.out.notB HO11.out (by decide))) HWS.out) hb2 ha); have hr13 := (ha.block b HT11.out.lt (fun e => HT11.out.notB HT11.out.fo (by decide) b e rfl)).trans HT11.out.row; have hfz : w13.frozen? ⟨b, 2, none⟩ = false := frozen_of_row w13 _ 2 _ _ hr13; have hcb2 : w13.cell? ⟨b, 2, none⟩ = some ov := (by rw [cell_of_row w13 b 2 _ _ _ hr13]; rfl); obtain ⟨a7, c7, rfl, -⟩ := own_slice ho; clear ho hb2 ha hr13 hcb)
                    go_roundw
                    case rel => exact ⟨i + 1, _, _, _, _, by rw [HW1.out], HI.out, by rw [HKS.out]; exact HT13⟩
                    case measure => rw [HW1.out]; have := HI.out; simp only [intOf]; omega
            · have hdd3 : decide ((i : Int) < (m.sp.length : Int)) = false := decide_eq_false (by omega)
              have hd4 : decide (i < m.sp.length) = false := decide_eq_false hlt
              have hie : i = m.sp.length := by omega
              rw [hie] at HT
              clear hlt hie
              obtain ⟨y, hy, hown⟩ := HT.out.whole
              have HLE := Lib.hid (HALL.out _ HT.out.below)
              have HROW := Lib.hid HT.out.row
              rw [hy] at HROW
              have HOW := Lib.hid hown
              clear hy hown
              go_wp2_with (first
                | (refine wpList_load_row rfl 27 (.tmp 7) rfl b rfl 27 (mc y (trimM m U)) (0, 0) _ HROW.out Tryd.underlying27 rfl (sizeMach _ _) ?_)
                | (refine wpList_store_row rfl 27 (.tmp 2) (.tmp 133) rfl (s + 1) (mc y (trimM m U)) rfl rfl 27 _ HLE.out.ret (by kernel_rfl) rfl (oneMach _ _) ?_))
              refine bodyPost_ret (v := .agg (mc y (trimM m U))) (results_cell_row (p := 2) Tryd.results12 _ _ (s + 1) 27 _ (0, 0) _ rfl (setRow_heap w5 _ _ _ _ _ HLE.out.ret) Tryd.underlying27 rfl (sizeMach _ _)) rfl ⟨_, rfl, ?_, ?_⟩
              · refine (HOW.out.move (fun k cs t hk ht => setRow_other _ _ _ _ (fun e => ?_))).mat
                have h1 := HLE.out.ret
                rw [← e, hk] at h1
                injection h1 with h1
                injection h1 with _ h2
                exact ht h2
              · rw [hs.out]
                exact But.below HLE.out.bel (But.setRow _ _ _) (by omega) (Nat.le_of_lt HLE.out.box.lt)
end Nu
end Go.Proofs.YtlbaecjmfgahgaaDoor
