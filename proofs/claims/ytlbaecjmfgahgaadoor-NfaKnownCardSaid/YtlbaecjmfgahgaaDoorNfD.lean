/- useful. -/
import Derived.Test.YtlbaecjmfgahgaaDoorNfA
import Derived.Test.YtlbaecjmfgahgaaDoorNfC
import Derived.Test.YtlbaecjmfgahgaaDoorInv
namespace Go.Proofs.YtlbaecjmfgahgaaDoor
open Go.RowKit Sets Nf
namespace Nf
def turnsL (L : List (List Int)) : List (List Int) := (List.range L.length).map (turnL L)
theorem turnsL_len (L : List (List Int)) : (turnsL L).length = L.length := by unfold turnsL; rw [List.length_map, List.length_range]
def R8 (x : Ma) (m : Mc) (B S3 : Nat) : Nat → Value → World → Prop
  | 0, v, _ => v = .pointer (some ⟨B, 1, none⟩)
  | 1, v, _ => v = .slice x.fa m.fi.length x.fc
  | 2, v, _ => v = .agg (setC (grp m.fi))
  | 3, v, _ => v = .pointer (some ⟨B, 2, none⟩)
  | 4, v, _ => v = .slice x.oa m.fo.length x.oc
  | 5, v, w => ∃ g, v = .slice (some ⟨g, 0, none⟩) m.fo.length m.fo.length ∧ GsB w g (m.fo.map grp)
  | 6, v, _ => v = .agg (setC (fullN m))
  | 7, v, _ => v = .agg (setC (rch (grp m.fi) (m.fo.map grp) (fullN m)))
  | 8, v, w => ∃ g, v = .pointer (some ⟨g, 0, none⟩) ∧ S3 < g ∧ SetB w g 0
  | _, _, _ => True
theorem R8_mono (x : Ma) (m : Mc) (B S3 : Nat) (i : Nat) (v : Value) (w w' : World) (hb : Below w.heap.size w w') (h : R8 x m B S3 i v w) : R8 x m B S3 i v w' := by
  match i with
  | 0 => exact h
  | 1 => exact h
  | 2 => exact h
  | 3 => exact h
  | 4 => exact h
  | 5 => obtain ⟨g, e, h1⟩ := h; exact ⟨g, e, h1.stay hb⟩
  | 6 => exact h
  | 7 => exact h
  | 8 => obtain ⟨g, e, h0, h1⟩ := h; exact ⟨g, e, h0, h1.stay hb⟩
  | n + 9 => exact h
def R8d (i : Nat) : Nat := if i = 8 then 6 else i + 23
def R9 (x : Ma) (m : Mc) (B N : Nat) : Nat → Value → World → Prop
  | 0, v, _ => v = .agg (mc x m)
  | 1, v, _ => v = .agg (setC (lastN m))
  | 2, v, _ => v = .pointer (some ⟨B, 2, none⟩)
  | 3, v, _ => v = .slice x.oa m.fo.length x.oc
  | 4, v, w => ∃ g, v = .slice (some ⟨g, 0, none⟩) m.fo.length m.fo.length ∧ ListsIn w (some ⟨g, 0, none⟩) (turnsL m.fo)
  | 5, v, w => ∃ g, v = .slice (some ⟨g, 0, none⟩) m.fo.length m.fo.length ∧ GsB w g ((turnsL m.fo).map grp)
  | 6, v, _ => v = .agg (setC (fullN m))
  | 7, v, _ => v = .agg (setC (rch (lastN m) ((turnsL m.fo).map grp) (fullN m)))
  | 8, v, w => ∃ g, v = .pointer (some ⟨g, 0, none⟩) ∧ N < g + 1 ∧ SetB w g 0
  | _, _, _ => True
theorem R9_mono (x : Ma) (m : Mc) (B N : Nat) (i : Nat) (v : Value) (w w' : World) (hb : Below w.heap.size w w') (h : R9 x m B N i v w) : R9 x m B N i v w' := by
  match i with
  | 0 => exact h
  | 1 => exact h
  | 2 => exact h
  | 3 => exact h
  | 4 => obtain ⟨g, e, h1⟩ := h; exact ⟨g, e, h1.kept hb⟩
  | 5 => obtain ⟨g, e, h1⟩ := h; exact ⟨g, e, h1.stay hb⟩
  | 6 => exact h
  | 7 => exact h
  | 8 => obtain ⟨g, e, h0, h1⟩ := h; exact ⟨g, e, h0, h1.stay hb⟩
  | n + 9 => exact h
def R9d (i : Nat) : Nat := if i = 8 then 7 else i + 31
theorem full_snoc (m : Mc) (j : Nat) : ofN ((List.range (j + 1)).filter fun k => stN m k != 0) = if stN m j = 0 then ofN ((List.range j).filter fun k => stN m k != 0) else ofN ((List.range j).filter fun k => stN m k != 0) ||| 2 ^ j := by
  rw [List.range_succ, List.filter_append, List.filter_cons]
  by_cases h : stN m j = 0
  · simp [h]
  · simp [h, ofN_snoc]
set_option maxHeartbeats 12800000 in
set_option maxRecDepth 100000 in
theorem useful_any (x : Ma) (m : Mc) (w : World) (h : MAt w x m) (hf : Fine m) (hr : Rt m) (hT : Tab w) :
    Calls Tryd.prog 21 #[.agg (mc x m)] w fun e w' => e = .returned (.agg (setC (useN m))) ∧ Below w.heap.size w w' := by
  have HG : Hid (0 < w.heap.size) := Lib.hid (World.block_lt_of_cell? _ _ (hT 0 (by decide)))
  have HF := Lib.hid hf
  have HRT := Lib.hid hr
  have HT0 := Lib.hid hT
  have HM0 := Lib.hid h
  have HFI : Hid (∀ k ∈ m.fi, 0 ≤ k ∧ k < 256) := Lib.hid (fun k hk => by
    have h1 := (rise_iff _ _).1 hr.fiR
    have h2 := h1.1 k hk
    have h3 := hr.many
    omega)
  have HFO : Hid (∀ l ∈ m.fo, l.length ≤ 1000 ∧ ∀ k ∈ l, 0 ≤ k ∧ k < 256) := Lib.hid (fun l hl => ⟨(hf.each l hl).1, fun k hk => by
    have h1 := (rise_iff _ _).1 (hr.foR l hl)
    have h2 := h1.1 k hk
    have h3 := hr.many
    omega⟩)
  have HFO2 : Hid (m.fo.length ≤ 250) := Lib.hid (by rw [hr.fol]; exact hr.many)
  have HFO3 : Hid (∀ l ∈ m.fo, rise m.fo.length l = true) := Lib.hid (by rw [hr.fol]; exact hr.foR)
  have HFO4 : Hid (∀ l ∈ m.fo, l.length ≤ 1000) := Lib.hid (fun l hl => (hf.each l hl).1)
  have HLA : Hid (m.la.length ≤ 250) := Lib.hid (by rw [hr.lal]; exact hr.many)
  have HFL : Hid (fullN m < 2 ^ 256) := Lib.hid (full_lt (by have := hr.many; omega))
  have HFB : Hid (∀ k, (fullN m).testBit k = true → k < m.fo.length) := Lib.hid (fun k hk => by
    rw [full_bit] at hk
    rw [hr.fol]
    rcases Nat.lt_or_ge k m.sp.length with h | h
    · exact h
    · unfold stN at hk; rw [getD_ge h] at hk; exact absurd rfl hk)
  have HTL : Hid (∀ l ∈ turnsL m.fo, l.length ≤ 1000 ∧ ∀ k ∈ l, 0 ≤ k ∧ k < 256) := Lib.hid (fun l hl => by
    unfold turnsL at hl
    obtain ⟨q, -, rfl⟩ := List.mem_map.1 hl
    have h3 := hr.many
    have h4 := hr.fol
    unfold turnL
    constructor
    · rw [List.length_map]
      refine Nat.le_trans (List.length_filter_le _ _) ?_
      rw [List.length_range]; omega
    · intro k hk
      obtain ⟨i, hi, rfl⟩ := List.mem_map.1 hk
      have := List.mem_range.1 (List.mem_filter.1 hi).1
      omega)
  clear h hf hr hT
  go_enter Tryd.func21, Tryd.ntmps21
  go_upto_region 2 with fail
  rw [zeroC]
  obtain ⟨w5, hw5⟩ : ∃ w5, w5 = ((w.alloc (.cells (mc x m) 27)).alloc (.cells (setC 0) 39)).alloc (.cells (setC 0) 39) := ⟨_, rfl⟩
  rw [← hw5]
  have b5 : Below w.heap.size w w5 := by
    rw [hw5]
    exact (((Below.refl _ _).alloc (Nat.le_refl _) _).alloc (by simp) _).alloc (by simp <;> omega) _
  have m5 : BoxM w5 w.heap.size x m := by
    rw [hw5]
    exact ((BoxM.new w x m).kept ((Below.refl (w.heap.size + 1) _).alloc (by simp) _) (by omega)).kept ((Below.refl (w.heap.size + 1) _).alloc (by simp) _) (by omega)
  have t5 : SetB w5 (w.heap.size + 1) 0 := by
    rw [hw5]
    have := SetB.new (w.alloc (.cells (mc x m) 27)) 0
    simp only [World.size_alloc] at this
    exact this.stay ((Below.refl _ _).alloc (by simp) _)
  have u5 : SetB w5 (w.heap.size + 1 + 1) 0 := by
    rw [hw5]
    have := SetB.new ((w.alloc (.cells (mc x m) 27)).alloc (.cells (setC 0) 39)) 0
    simp only [World.size_alloc] at this
    exact this
  clear hw5
  have HB := Lib.hid b5
  have HTs := Lib.hid t5
  have HU := Lib.hid u5
  have HX5 := Lib.hid m5
  have c0 := m5.c0
  clear b5 t5 u5 m5
  obtain ⟨B, hBq⟩ : ∃ B, Hid (w.heap.size = B) := ⟨_, Lib.hid rfl⟩
  have HB' : Hid (Below B w w5) := Lib.hid (by rw [← hBq.out]; exact HB.out)
  rw [hBq.out] at HTs HU HX5 c0 HG ⊢
  clear HB
  go_wp2_with fail
  go_loopw [11] (fun i wr => ∃ j : Nat, i = .int .i64 j ∧ j ≤ m.sp.length ∧ Hid (SetB wr (B + 1 + 1) (ofN ((List.range j).filter fun k => stN m k != 0))) ∧ Hid (SetB wr (B + 1) 0) ∧ Hid (BoxM wr B x m) ∧ Hid (Below B w wr)) (fun i _ => ((m.sp.length : Int) - intOf i).toNat)
  case atStart => exact ⟨0, rfl, Nat.zero_le _, HU, HTs, HX5, HB'⟩
  case round =>
    obtain ⟨j, rfl, hj, HS, HZ, HXr, HB2⟩ := hrel
    generalize hwr : wr = w2 at *
    clear hwr wr HB' HTs HU HX5 c0
    by_cases hlt : j < m.sp.length
    · have hdd : decide ((j : Int) < (m.sp.length : Int)) = true := decide_eq_true (by omega)
      have hd2 : decide (j < m.sp.length) = true := decide_eq_true hlt
      obtain ⟨b, o, hsa, hc0⟩ := (HM0.out.kept (hBq.out ▸ HB2.out)).sp j hlt
      rw [hsa]
      have HLS := Lib.hid (full_snoc m j)
      have HW1 : Hid (wrap64 ((j : Int) + 1) = ((j + 1 : Nat) : Int)) := Lib.hid (nat_wrap (by have := HF.out.sp; omega))
      have HSS : Hid ((m.sp.getD j (0, 0)).1 = stN m j) := Lib.hid rfl
      have HSL : Hid ((m.sp.getD j (0, 0)).1 < 2 ^ 256) := Lib.hid (HF.out.set _ (getD_mem hlt)).1
      have HJ := Lib.hid hlt
      clear hsa hlt
      generalize m.sp.getD j (0, 0) = Y at *
      have HNS := Lib.hid (SetB.new w2 Y.1)
      have ha := (Below.refl w2.heap.size w2).alloc (Nat.le_refl _) (.cells (row5 Y) 41)
      have HBN : Hid (Below B w (w2.alloc (.cells (row5 Y) 41))) := Lib.hid (HB2.out.trans (ha.mono (Nat.le_of_lt HXr.out.lt)))
      have KS := Lib.hid (HS.out.stay ha)
      have KZ := Lib.hid (HZ.out.stay ha)
      have KX := Lib.hid (HXr.out.kept ha HXr.out.lt)
      have HRG : Hid ((w2.alloc (.cells (row5 Y) 41)).rangeAt w2.heap.size 0 (setC Y.1).toList) := Lib.hid (by
        intro q v hv
        rw [Nat.zero_add, World.cell?_alloc_new]
        have hq : q < 4 := by have := (List.getElem?_eq_some_iff.1 hv).1; simpa [setC] using this
        rw [← hv]
        have h4 : q = 0 ∨ q = 1 ∨ q = 2 ∨ q = 3 := by omega
        rcases h4 with rfl | rfl | rfl | rfl <;> rfl)
      clear ha HNS
      have HA := Lib.hid (add_any (B + 1 + 1) (ofN ((List.range j).filter fun k => stN m k != 0)) j (w2.alloc (.cells (row5 Y) 41)) KS.out (by have h1 := HJ.out; have h2 := HRT.out.many; omega))
      go_upto_region 5 with (first | (refine wpList_load_spot rfl (.tmp 14) rfl b (o + j * 5) Y rfl hc0 ?_) | (refine wpList_store_spot rfl (.tmp 5) (.tmp 15) rfl Y rfl rfl ?_))
      rw [show ∀ a : Act, a.put none undef = a from fun _ => rfl]
      generalize w2.alloc (.cells (row5 Y) 41) = w3 at *
      clear hc0
      by_cases hz : stN m j = 0
      · rw [if_pos hz] at HLS
        have HY0 : Hid (Y.1 = 0) := Lib.hid (HSS.out.trans hz)
        clear hz
        go_wp2_with (first
          | (refine wpList_load_mid rfl 39 (.tmp 16) rfl w2.heap.size 0 rfl (setC Y.1).toList _ HRG.out Tryd.underlying39 rfl (sizeSetL _) ?_; rw [show (setC Y.1).toList.toArray = setC Y.1 from rfl])
          | (refine wpList_neq_none rfl _ _ _ rfl Y.1 rfl rfl HSL.out HY0.out ?_))
        go_roundw
        case rel => exact ⟨j + 1, by rw [HW1.out], HJ.out, Lib.hid (by rw [HLS.out]; exact KS.out), KZ, KX, HBN⟩
        case measure => rw [HW1.out]; exact meas8 HJ.out
      · rw [if_neg hz] at HLS
        have HY0 : Hid (¬ Y.1 = 0) := Lib.hid (by rw [HSS.out]; exact hz)
        clear hz
        go_wp2_with (first
          | (refine wpList_load_mid rfl 39 (.tmp 16) rfl w2.heap.size 0 rfl (setC Y.1).toList _ HRG.out Tryd.underlying39 rfl (sizeSetL _) ?_; rw [show (setC Y.1).toList.toArray = setC Y.1 from rfl])
          | (refine wpList_neq_some rfl _ _ _ rfl Y.1 rfl rfl HSL.out HY0.out ?_)
          | (go_at_call 40; refine HA.out.mono ?_; rintro e w4 ⟨⟨v, rfl⟩, hs3, hb3⟩; have HS3 := Lib.hid hs3; have HB3 := Lib.hid hb3; clear hs3 hb3))
        go_roundw
        case rel =>
          have hl := KX.out.lt
          refine ⟨j + 1, by rw [HW1.out], HJ.out, Lib.hid (by rw [HLS.out]; exact HS3.out), Lib.hid (KZ.out.but HB3.out (by omega)), Lib.hid (BoxM.mk ((HB3.out.block B hl (by omega)).trans KX.out.row)), Lib.hid (But.below HBN.out HB3.out (by omega) (Nat.le_of_lt hl))⟩
        case measure => rw [HW1.out]; exact meas8 HJ.out
    · have hdd : decide ((j : Int) < (m.sp.length : Int)) = false := decide_eq_false (by omega)
      have hd2 : decide (j < m.sp.length) = false := decide_eq_false hlt
      have HE : Hid (ofN ((List.range j).filter fun k => stN m k != 0) = fullN m) := Lib.hid (by rw [show j = m.sp.length by omega]; rfl)
      rw [HE.out] at HS
      clear hlt HE
      go_upto_region 8 with fail
      have HM := Lib.hid (HM0.out.kept (hBq.out ▸ HB2.out))
      have HT := Lib.hid (HT0.out.below (hBq.out ▸ HB2.out) (by rw [hBq.out]; exact HG.out))
      have HGT : Hid (0 < w2.heap.size) := Lib.hid (Nat.lt_of_lt_of_le HG.out (Nat.le_of_lt HXr.out.lt))
      have HX := HXr
      obtain ⟨S3, hS3⟩ : ∃ S3, S3 = B + 1 + 1 := ⟨_, rfl⟩
      have HS3 : Hid (SetB w2 S3 (fullN m)) := Lib.hid (by rw [hS3]; exact HS.out)
      have HSQ := Lib.hid hS3
      rw [← hS3]
      clear hS3 HS
      refine Rinv.region_inv' (R8 x m B S3) 9 R8d (by kernel_rfl) (by kernel_rfl) ?_ (R8_mono x m B S3) ?_ ?_
      · intro j hj
        have : j = 0 ∨ j = 1 ∨ j = 2 ∨ j = 3 ∨ j = 4 ∨ j = 5 ∨ j = 6 ∨ j = 7 ∨ j = 8 := by omega
        rcases this with rfl | rfl | rfl | rfl | rfl | rfl | rfl | rfl | rfl <;> rfl
      · intro i hi X w' hB hR K hK
        have HK := Lib.hid hK
        have HBW := Lib.hid hB
        clear hK hB
        have hi' : i = 0 ∨ i = 1 ∨ i = 2 ∨ i = 3 ∨ i = 4 ∨ i = 5 ∨ i = 6 ∨ i = 7 ∨ i = 8 := by omega
        rcases hi' with rfl | rfl | rfl | rfl | rfl | rfl | rfl | rfl | rfl
        · simp only [List.getD_cons_zero]
          clear hR
          simp only [Rinv.putAll, R8d, Act.put, Nat.reduceEqDiff, Nat.reduceAdd, if_true, if_false, List.setIfInBounds_toArray, List.set_cons_zero, List.set_cons_succ]
          go_wp2_with fail
          exact HK.out _ _ (.pointer (some ⟨B, 1, none⟩)) (by simp only [Rinv.putAll, R8d, Act.put, Nat.reduceEqDiff, Nat.reduceAdd, if_true, if_false, List.setIfInBounds_toArray, List.set_cons_zero, List.set_cons_succ]) (Below.refl _ _) (rfl)
        · simp only [List.getD_cons_zero, List.getD_cons_succ]
          have hr0 : R8 x m B S3 0 (X 0) w' := hR 0 (by decide) (by unfold Rinv.waits; kernel_rfl)
          have e0 : X 0 = _ := hr0
          clear hr0
          clear hR
          have c1 := (HX.out.kept HBW.out HX.out.lt).c1
          simp only [Rinv.putAll, R8d, Act.put, Nat.reduceEqDiff, Nat.reduceAdd, if_true, if_false, List.setIfInBounds_toArray, List.set_cons_zero, List.set_cons_succ, e0]
          go_wp2_with fail
          exact HK.out _ _ (.slice x.fa m.fi.length x.fc) (by simp only [Rinv.putAll, R8d, Act.put, Nat.reduceEqDiff, Nat.reduceAdd, if_true, if_false, List.setIfInBounds_toArray, List.set_cons_zero, List.set_cons_succ, e0]) (Below.refl _ _) (rfl)
        · simp only [List.getD_cons_zero, List.getD_cons_succ]
          have hr1 : R8 x m B S3 1 (X 1) w' := hR 1 (by decide) (by unfold Rinv.waits; kernel_rfl)
          have e1 : X 1 = _ := hr1
          clear hr1
          clear hR
          have HGR := Lib.hid (group_any x.fa x.fc m.fi w' (HM.out.kept HBW.out).fi HF.out.fi HFI.out)
          simp only [Rinv.putAll, R8d, Act.put, Nat.reduceEqDiff, Nat.reduceAdd, if_true, if_false, List.setIfInBounds_toArray, List.set_cons_zero, List.set_cons_succ, e1]
          go_wp2_with (go_at_call 33; refine HGR.out.mono ?_; rintro e w4 ⟨rfl, hb⟩)
          exact HK.out _ _ (.agg (setC (grp m.fi))) (by simp only [Rinv.putAll, R8d, Act.put, Nat.reduceEqDiff, Nat.reduceAdd, if_true, if_false, List.setIfInBounds_toArray, List.set_cons_zero, List.set_cons_succ, e1]) (hb) (rfl)
        · simp only [List.getD_cons_zero, List.getD_cons_succ]
          clear hR
          simp only [Rinv.putAll, R8d, Act.put, Nat.reduceEqDiff, Nat.reduceAdd, if_true, if_false, List.setIfInBounds_toArray, List.set_cons_zero, List.set_cons_succ]
          go_wp2_with fail
          exact HK.out _ _ (.pointer (some ⟨B, 2, none⟩)) (by simp only [Rinv.putAll, R8d, Act.put, Nat.reduceEqDiff, Nat.reduceAdd, if_true, if_false, List.setIfInBounds_toArray, List.set_cons_zero, List.set_cons_succ]) (Below.refl _ _) (rfl)
        · simp only [List.getD_cons_zero, List.getD_cons_succ]
          have hr3 : R8 x m B S3 3 (X 3) w' := hR 3 (by decide) (by unfold Rinv.waits; kernel_rfl)
          have e3 : X 3 = _ := hr3
          clear hr3
          clear hR
          have c2 := (HX.out.kept HBW.out HX.out.lt).c2
          simp only [Rinv.putAll, R8d, Act.put, Nat.reduceEqDiff, Nat.reduceAdd, if_true, if_false, List.setIfInBounds_toArray, List.set_cons_zero, List.set_cons_succ, e3]
          go_wp2_with fail
          exact HK.out _ _ (.slice x.oa m.fo.length x.oc) (by simp only [Rinv.putAll, R8d, Act.put, Nat.reduceEqDiff, Nat.reduceAdd, if_true, if_false, List.setIfInBounds_toArray, List.set_cons_zero, List.set_cons_succ, e3]) (Below.refl _ _) (rfl)
        · simp only [List.getD_cons_zero, List.getD_cons_succ]
          have hr4 : R8 x m B S3 4 (X 4) w' := hR 4 (by decide) (by unfold Rinv.waits; kernel_rfl)
          have e4 : X 4 = _ := hr4
          clear hr4
          clear hR
          have HGR := Lib.hid (groups_any x.oa x.oc m.fo w' (HM.out.kept HBW.out).fo HF.out.fo HFO.out)
          simp only [Rinv.putAll, R8d, Act.put, Nat.reduceEqDiff, Nat.reduceAdd, if_true, if_false, List.setIfInBounds_toArray, List.set_cons_zero, List.set_cons_succ, e4]
          go_wp2_with (go_at_call 32; refine HGR.out.mono ?_; rintro e w4 ⟨g4, rfl, hg4, -, hb⟩)
          exact HK.out _ _ (.slice (some ⟨g4, 0, none⟩) m.fo.length m.fo.length) (by simp only [Rinv.putAll, R8d, Act.put, Nat.reduceEqDiff, Nat.reduceAdd, if_true, if_false, List.setIfInBounds_toArray, List.set_cons_zero, List.set_cons_succ, e4]) (hb) (⟨g4, rfl, hg4⟩)
        · simp only [List.getD_cons_zero, List.getD_cons_succ]
          clear hR
          have HFS := Lib.hid (HS3.out.stay HBW.out)
          simp only [Rinv.putAll, R8d, Act.put, Nat.reduceEqDiff, Nat.reduceAdd, if_true, if_false, List.setIfInBounds_toArray, List.set_cons_zero, List.set_cons_succ]
          go_wp2_with (refine wpList_load_set rfl (.tmp 3) rfl S3 (fullN m) rfl HFS.out ?_)
          exact HK.out _ _ (.agg (setC (fullN m))) (by simp only [Rinv.putAll, R8d, Act.put, Nat.reduceEqDiff, Nat.reduceAdd, if_true, if_false, List.setIfInBounds_toArray, List.set_cons_zero, List.set_cons_succ]) (Below.refl _ _) (rfl)
        · simp only [List.getD_cons_zero, List.getD_cons_succ]
          have hr2 : R8 x m B S3 2 (X 2) w' := hR 2 (by decide) (by unfold Rinv.waits; kernel_rfl)
          have e2 : X 2 = _ := hr2
          clear hr2
          have hr5 : R8 x m B S3 5 (X 5) w' := hR 5 (by decide) (by unfold Rinv.waits; kernel_rfl)
          obtain ⟨g5, e5, h5⟩ := hr5
          have H5 := Lib.hid h5
          clear h5
          have hr6 : R8 x m B S3 6 (X 6) w' := hR 6 (by decide) (by unfold Rinv.waits; kernel_rfl)
          have e6 : X 6 = _ := hr6
          clear hr6
          clear hR
          have HRE := Lib.hid (reach_any g5 (grp m.fi) (fullN m) (m.fo.map grp) w' H5.out HFL.out (fun k hk => by rw [List.length_map]; exact HFB.out k hk) (HT.out.below HBW.out HGT.out))
          rw [List.length_map] at HRE
          simp only [Rinv.putAll, R8d, Act.put, Nat.reduceEqDiff, Nat.reduceAdd, if_true, if_false, List.setIfInBounds_toArray, List.set_cons_zero, List.set_cons_succ, e2, e5, e6]
          go_wp2_with (go_at_call 41; refine HRE.out.mono ?_; rintro e w4 ⟨rfl, hb⟩)
          exact HK.out _ _ (.agg (setC (rch (grp m.fi) (m.fo.map grp) (fullN m)))) (by simp only [Rinv.putAll, R8d, Act.put, Nat.reduceEqDiff, Nat.reduceAdd, if_true, if_false, List.setIfInBounds_toArray, List.set_cons_zero, List.set_cons_succ, e2, e5, e6]) (hb) (rfl)
        · simp only [List.getD_cons_zero, List.getD_cons_succ]
          clear hR
          simp only [Rinv.putAll, R8d, Act.put, Nat.reduceEqDiff, Nat.reduceAdd, if_true, if_false, List.setIfInBounds_toArray, List.set_cons_zero, List.set_cons_succ]
          go_wp2_with fail
          exact HK.out _ _ (.pointer (some ⟨w'.heap.size, 0, none⟩)) (by simp only [Rinv.putAll, R8d, Act.put, Nat.reduceEqDiff, Nat.reduceAdd, if_true, if_false, List.setIfInBounds_toArray, List.set_cons_zero, List.set_cons_succ]) ((Below.refl _ _).alloc (Nat.le_refl _) _) (⟨_, rfl, Nat.lt_of_lt_of_le HS3.out.lt HBW.out.size, by have := SetB.new w' 0; rw [← zeroC] at this; exact this⟩)
      · intro X w' hB hR K hK
        have HK := Lib.hid hK
        have HBW := Lib.hid hB
        clear hK hB
        simp only [List.getD_cons_zero, List.getD_cons_succ]
        have hr7 : R8 x m B S3 7 (X 7) w' := hR 7 (by decide)
        have e7 : X 7 = _ := hr7
        clear hr7
        have hr8 : R8 x m B S3 8 (X 8) w' := hR 8 (by decide)
        obtain ⟨g8, e8, hl8, h8⟩ := hr8
        have H8 := Lib.hid h8
        have HL8 := Lib.hid hl8
        clear h8 hl8
        clear hR
        simp only [Rinv.putAll, R8d, Act.put, Nat.reduceEqDiff, Nat.reduceAdd, if_true, if_false, List.setIfInBounds_toArray, List.set_cons_zero, List.set_cons_succ, e7, e8]
        go_wp2_with (refine wpList_store_set rfl (.tmp 6) (.tmp 30) rfl g8 0 (rch (grp m.fi) (m.fo.map grp) (fullN m)) rfl rfl H8.out ?_)
        refine HK.out _ _ ?_
        clear HK
        have hg8 : SetB (w'.setRow g8 (setC (rch (grp m.fi) (m.fo.map grp) (fullN m)))) g8 (rch (grp m.fi) (m.fo.map grp) (fullN m)) := H8.out.put _
        have hbut := But.setRow g8 w' (setC (rch (grp m.fi) (m.fo.map grp) (fullN m)))
        have hl8 := HL8.out
        have hs3 := HSQ.out
        have JS3 := Lib.hid ((HS3.out.stay HBW.out).but hbut (by omega))
        have JZ := Lib.hid ((HZ.out.stay HBW.out).but hbut (by omega))
        have JX := Lib.hid (BoxM.mk ((hbut.block B (Nat.lt_of_lt_of_le HX.out.lt HBW.out.size) (by omega)).trans (HX.out.kept HBW.out HX.out.lt).row))
        have JB := Lib.hid (But.below (HB2.out.trans (HBW.out.mono (Nat.le_of_lt HX.out.lt))) hbut (by omega) (Nat.le_trans (Nat.le_of_lt HX.out.lt) HBW.out.size))
        have J8 := Lib.hid hg8
        clear hbut hg8 H8 HBW HS3 HZ HX HXr HB2 HM HT HGT
        generalize w'.setRow g8 (setC (rch (grp m.fi) (m.fo.map grp) (fullN m))) = w8 at *
        go_upto_region 9 with fail
        have HM := Lib.hid (HM0.out.kept (hBq.out ▸ JB.out))
        have HT := Lib.hid (HT0.out.below (hBq.out ▸ JB.out) (by rw [hBq.out]; exact HG.out))
        have HGT : Hid (0 < w8.heap.size) := Lib.hid (Nat.lt_of_lt_of_le HG.out (Nat.le_of_lt JX.out.lt))
        have HX := JX
        have HS3 := JS3
        have HNS : Hid (w8.heap.size ≤ w8.heap.size) := Lib.hid (Nat.le_refl _)
        clear hs3
        refine Rinv.region_inv' (R9 x m B w8.heap.size) 9 R9d (by kernel_rfl) (by kernel_rfl) ?_ (R9_mono x m B w8.heap.size) ?_ ?_
        · intro j hj
          have : j = 0 ∨ j = 1 ∨ j = 2 ∨ j = 3 ∨ j = 4 ∨ j = 5 ∨ j = 6 ∨ j = 7 ∨ j = 8 := by omega
          rcases this with rfl | rfl | rfl | rfl | rfl | rfl | rfl | rfl | rfl <;> rfl
        · intro i hi X w' hB hR K hK
          have HK := Lib.hid hK
          have HBW := Lib.hid hB
          clear hK hB
          have hi' : i = 0 ∨ i = 1 ∨ i = 2 ∨ i = 3 ∨ i = 4 ∨ i = 5 ∨ i = 6 ∨ i = 7 ∨ i = 8 := by omega
          rcases hi' with rfl | rfl | rfl | rfl | rfl | rfl | rfl | rfl | rfl
          · simp only [List.getD_cons_zero]
            clear hR
            have HXX := Lib.hid (HX.out.kept HBW.out HX.out.lt)
            simp only [Rinv.putAll, R9d, Act.put, Nat.reduceEqDiff, Nat.reduceAdd, if_true, if_false, List.setIfInBounds_toArray, List.set_cons_zero, List.set_cons_succ]
            go_wp2_with (refine wpList_load_mach rfl (.tmp 1) rfl B x m rfl HXX.out ?_)
            exact HK.out _ _ (.agg (mc x m)) (by simp only [Rinv.putAll, R9d, Act.put, Nat.reduceEqDiff, Nat.reduceAdd, if_true, if_false, List.setIfInBounds_toArray, List.set_cons_zero, List.set_cons_succ]) (Below.refl _ _) (rfl)
          · simp only [List.getD_cons_zero, List.getD_cons_succ]
            have hr0 : R9 x m B w8.heap.size 0 (X 0) w' := hR 0 (by decide) (by unfold Rinv.waits; kernel_rfl)
            have e0 : X 0 = _ := hr0
            clear hr0
            clear hR
            have HGR := Lib.hid (last_any x m w' (HM.out.kept HBW.out) HLA.out)
            simp only [Rinv.putAll, R9d, Act.put, Nat.reduceEqDiff, Nat.reduceAdd, if_true, if_false, List.setIfInBounds_toArray, List.set_cons_zero, List.set_cons_succ, e0]
            go_wp2_with (go_at_call 37; refine HGR.out.mono ?_; rintro e w4 ⟨rfl, hb⟩)
            exact HK.out _ _ (.agg (setC (lastN m))) (by simp only [Rinv.putAll, R9d, Act.put, Nat.reduceEqDiff, Nat.reduceAdd, if_true, if_false, List.setIfInBounds_toArray, List.set_cons_zero, List.set_cons_succ, e0]) (hb) (rfl)
          · simp only [List.getD_cons_zero, List.getD_cons_succ]
            clear hR
            simp only [Rinv.putAll, R9d, Act.put, Nat.reduceEqDiff, Nat.reduceAdd, if_true, if_false, List.setIfInBounds_toArray, List.set_cons_zero, List.set_cons_succ]
            go_wp2_with fail
            exact HK.out _ _ (.pointer (some ⟨B, 2, none⟩)) (by simp only [Rinv.putAll, R9d, Act.put, Nat.reduceEqDiff, Nat.reduceAdd, if_true, if_false, List.setIfInBounds_toArray, List.set_cons_zero, List.set_cons_succ]) (Below.refl _ _) (rfl)
          · simp only [List.getD_cons_zero, List.getD_cons_succ]
            have hr2 : R9 x m B w8.heap.size 2 (X 2) w' := hR 2 (by decide) (by unfold Rinv.waits; kernel_rfl)
            have e2 : X 2 = _ := hr2
            clear hr2
            clear hR
            have c2 := (HX.out.kept HBW.out HX.out.lt).c2
            simp only [Rinv.putAll, R9d, Act.put, Nat.reduceEqDiff, Nat.reduceAdd, if_true, if_false, List.setIfInBounds_toArray, List.set_cons_zero, List.set_cons_succ, e2]
            go_wp2_with fail
            exact HK.out _ _ (.slice x.oa m.fo.length x.oc) (by simp only [Rinv.putAll, R9d, Act.put, Nat.reduceEqDiff, Nat.reduceAdd, if_true, if_false, List.setIfInBounds_toArray, List.set_cons_zero, List.set_cons_succ, e2]) (Below.refl _ _) (rfl)
          · simp only [List.getD_cons_zero, List.getD_cons_succ]
            have hr3 : R9 x m B w8.heap.size 3 (X 3) w' := hR 3 (by decide) (by unfold Rinv.waits; kernel_rfl)
            have e3 : X 3 = _ := hr3
            clear hr3
            clear hR
            have HGR := Lib.hid (turned_any x.oa x.oc m.fo w' (HM.out.kept HBW.out).fo HFO2.out HFO3.out HFO4.out)
            simp only [Rinv.putAll, R9d, Act.put, Nat.reduceEqDiff, Nat.reduceAdd, if_true, if_false, List.setIfInBounds_toArray, List.set_cons_zero, List.set_cons_succ, e3]
            go_wp2_with (go_at_call 42; refine HGR.out.mono ?_; rintro e w4 ⟨g4, rfl, hg4, hb⟩)
            exact HK.out _ _ (.slice (some ⟨g4, 0, none⟩) m.fo.length m.fo.length) (by simp only [Rinv.putAll, R9d, Act.put, Nat.reduceEqDiff, Nat.reduceAdd, if_true, if_false, List.setIfInBounds_toArray, List.set_cons_zero, List.set_cons_succ, e3]) (hb) (⟨g4, rfl, hg4⟩)
          · simp only [List.getD_cons_zero, List.getD_cons_succ]
            have hr4 : R9 x m B w8.heap.size 4 (X 4) w' := hR 4 (by decide) (by unfold Rinv.waits; kernel_rfl)
            obtain ⟨g4, e4, h4⟩ := hr4
            have H4 := Lib.hid h4
            clear h4
            clear hR
            have HGR := Lib.hid (groups_any (some ⟨g4, 0, none⟩) m.fo.length (turnsL m.fo) w' H4.out (by rw [turnsL_len]; exact HF.out.fo) HTL.out)
            rw [turnsL_len] at HGR
            simp only [Rinv.putAll, R9d, Act.put, Nat.reduceEqDiff, Nat.reduceAdd, if_true, if_false, List.setIfInBounds_toArray, List.set_cons_zero, List.set_cons_succ, e4]
            go_wp2_with (go_at_call 32; refine HGR.out.mono ?_; rintro e w4 ⟨g5, rfl, hg5, -, hb⟩)
            exact HK.out _ _ (.slice (some ⟨g5, 0, none⟩) m.fo.length m.fo.length) (by simp only [Rinv.putAll, R9d, Act.put, Nat.reduceEqDiff, Nat.reduceAdd, if_true, if_false, List.setIfInBounds_toArray, List.set_cons_zero, List.set_cons_succ, e4]) (hb) (⟨g5, rfl, hg5⟩)
          · simp only [List.getD_cons_zero, List.getD_cons_succ]
            clear hR
            have HFS := Lib.hid (HS3.out.stay HBW.out)
            simp only [Rinv.putAll, R9d, Act.put, Nat.reduceEqDiff, Nat.reduceAdd, if_true, if_false, List.setIfInBounds_toArray, List.set_cons_zero, List.set_cons_succ]
            go_wp2_with (refine wpList_load_set rfl (.tmp 3) rfl S3 (fullN m) rfl HFS.out ?_)
            exact HK.out _ _ (.agg (setC (fullN m))) (by simp only [Rinv.putAll, R9d, Act.put, Nat.reduceEqDiff, Nat.reduceAdd, if_true, if_false, List.setIfInBounds_toArray, List.set_cons_zero, List.set_cons_succ]) (Below.refl _ _) (rfl)
          · simp only [List.getD_cons_zero, List.getD_cons_succ]
            have hr1 : R9 x m B w8.heap.size 1 (X 1) w' := hR 1 (by decide) (by unfold Rinv.waits; kernel_rfl)
            have e1 : X 1 = _ := hr1
            clear hr1
            have hr5 : R9 x m B w8.heap.size 5 (X 5) w' := hR 5 (by decide) (by unfold Rinv.waits; kernel_rfl)
            obtain ⟨g5, e5, h5⟩ := hr5
            have H5 := Lib.hid h5
            clear h5
            have hr6 : R9 x m B w8.heap.size 6 (X 6) w' := hR 6 (by decide) (by unfold Rinv.waits; kernel_rfl)
            have e6 : X 6 = _ := hr6
            clear hr6
            clear hR
            have HRE := Lib.hid (reach_any g5 (lastN m) (fullN m) ((turnsL m.fo).map grp) w' H5.out HFL.out (fun k hk => by rw [List.length_map, turnsL_len]; exact HFB.out k hk) (HT.out.below HBW.out HGT.out))
            rw [List.length_map, turnsL_len] at HRE
            simp only [Rinv.putAll, R9d, Act.put, Nat.reduceEqDiff, Nat.reduceAdd, if_true, if_false, List.setIfInBounds_toArray, List.set_cons_zero, List.set_cons_succ, e1, e5, e6]
            go_wp2_with (go_at_call 41; refine HRE.out.mono ?_; rintro e w4 ⟨rfl, hb⟩)
            exact HK.out _ _ (.agg (setC (rch (lastN m) ((turnsL m.fo).map grp) (fullN m)))) (by simp only [Rinv.putAll, R9d, Act.put, Nat.reduceEqDiff, Nat.reduceAdd, if_true, if_false, List.setIfInBounds_toArray, List.set_cons_zero, List.set_cons_succ, e1, e5, e6]) (hb) (rfl)
          · simp only [List.getD_cons_zero, List.getD_cons_succ]
            clear hR
            simp only [Rinv.putAll, R9d, Act.put, Nat.reduceEqDiff, Nat.reduceAdd, if_true, if_false, List.setIfInBounds_toArray, List.set_cons_zero, List.set_cons_succ]
            go_wp2_with fail
            exact HK.out _ _ (.pointer (some ⟨w'.heap.size, 0, none⟩)) (by simp only [Rinv.putAll, R9d, Act.put, Nat.reduceEqDiff, Nat.reduceAdd, if_true, if_false, List.setIfInBounds_toArray, List.set_cons_zero, List.set_cons_succ]) ((Below.refl _ _).alloc (Nat.le_refl _) _) (⟨_, rfl, by have h1 := HBW.out.size; have h2 := HNS.out; omega, by have := SetB.new w' 0; rw [← zeroC] at this; exact this⟩)
        · intro X w' hB hR K hK
          have HK := Lib.hid hK
          have HBW := Lib.hid hB
          clear hK hB
          simp only [List.getD_cons_zero, List.getD_cons_succ]
          have hr7 : R9 x m B w8.heap.size 7 (X 7) w' := hR 7 (by decide)
          have e7 : X 7 = _ := hr7
          clear hr7
          have hr8 : R9 x m B w8.heap.size 8 (X 8) w' := hR 8 (by decide)
          obtain ⟨g9, e8, hl8, h8⟩ := hr8
          have H9 := Lib.hid h8
          have HL9 := Lib.hid hl8
          clear h8 hl8
          clear hR
          simp only [Rinv.putAll, R9d, Act.put, Nat.reduceEqDiff, Nat.reduceAdd, if_true, if_false, List.setIfInBounds_toArray, List.set_cons_zero, List.set_cons_succ, e7, e8]
          go_wp2_with (refine wpList_store_set rfl (.tmp 7) (.tmp 38) rfl g9 0 (rch (lastN m) ((turnsL m.fo).map grp) (fullN m)) rfl rfl H9.out ?_)
          refine HK.out _ _ ?_
          clear HK
          have hg9 : SetB (w'.setRow g9 (setC (rch (lastN m) ((turnsL m.fo).map grp) (fullN m)))) g9 (rch (lastN m) ((turnsL m.fo).map grp) (fullN m)) := H9.out.put _
          have hbut := But.setRow g9 w' (setC (rch (lastN m) ((turnsL m.fo).map grp) (fullN m)))
          have hl9 := HL9.out
          have hgl := J8.out.lt
          have hzl := JZ.out.lt
          have K8 := Lib.hid ((J8.out.stay HBW.out).but hbut (by omega))
          have KZ := Lib.hid ((JZ.out.stay HBW.out).but hbut (by omega))
          have KB := Lib.hid (But.below (JB.out.trans (HBW.out.mono (Nat.le_of_lt HX.out.lt))) hbut (by omega) (Nat.le_trans (Nat.le_of_lt HX.out.lt) HBW.out.size))
          have K9 := Lib.hid hg9
          have HUS : Hid (rch (grp m.fi) (m.fo.map grp) (fullN m) &&& rch (lastN m) ((turnsL m.fo).map grp) (fullN m) = useN m) := Lib.hid (by
            unfold useN turnsL
            rw [HRT.out.fol, List.map_map]; rfl)
          clear hbut hg9 H9 HBW HS3 JZ HX JX JB J8 JS3 HM HT HGT hgl hzl
          generalize w'.setRow g9 (setC (rch (lastN m) ((turnsL m.fo).map grp) (fullN m))) = w9 at *
          generalize rch (grp m.fi) (m.fo.map grp) (fullN m) = R1 at *
          generalize rch (lastN m) ((turnsL m.fo).map grp) (fullN m) = R2 at *
          have HAN := Lib.hid (and_any R1 R2 w9)
          go_wp2_with (first
            | (refine wpList_load_set rfl (.tmp 6) rfl g8 R1 rfl K8.out ?_)
            | (refine wpList_load_set rfl (.tmp 7) rfl g9 R2 rfl K9.out ?_)
            | (go_at_call 36; refine HAN.out.mono ?_; rintro e w10 ⟨rfl, hb10⟩; have HB10 := Lib.hid hb10; clear hb10)
            | (refine wpList_store_set rfl (.tmp 2) (.tmp 41) rfl (B + 1) 0 (R1 &&& R2) rfl rfl (KZ.out.stay HB10.out) ?_))
          refine bodyPost_ret (v := .agg (setC (R1 &&& R2))) (results_cell_row (p := 2) Tryd.results21 _ _ (B + 1) 39 _ (0, 0) _ rfl ((KZ.out.stay HB10.out).put (R1 &&& R2)).row Tryd.underlying39 rfl (sizeSet _)) rfl ⟨by rw [HUS.out], ?_⟩
          rw [hBq.out]
          have hzl := KZ.out.lt
          exact But.below (KB.out.trans (HB10.out.mono (by omega))) (But.setRow _ _ _) (by omega) (by have := HB10.out.size; omega)
end Nf
end Go.Proofs.YtlbaecjmfgahgaaDoor
