/- The document's Step. -/
import Derived.Test.YtkpdggemhjhnbaaDoorNfL
import Derived.Deep.CutRange
import Derived.Deep.CutBlock
namespace Go.Proofs.YtkpdggemhjhnbaaDoor
open Go.RowKit Sets Nf
namespace Nf
def frP (m : Mc) (l : List Int) (k : Nat) : Bool := l.any fun i => (m.fo.getD i.toNat []).contains (k : Int)
def stepP (m : Mc) (l : List Int) (start : Bool) (c k : Nat) : Bool := ((start && m.fi.contains (k : Int)) || frP m l k) && (stN m k).testBit c
def stepL (m : Mc) (l : List Int) (start : Bool) (c j : Nat) : List Int := ((List.range j).filter (stepP m l start c)).map fun k : Nat => (k : Int)
theorem stepL_succ (m : Mc) (l : List Int) (start : Bool) (c j : Nat) : stepL m l start c (j + 1) = if stepP m l start c j then stepL m l start c j ++ [(j : Int)] else stepL m l start c j := by
  unfold stepL
  rw [List.range_succ, List.filter_append, List.map_append, List.filter_cons]
  by_cases h : stepP m l start c j = true
  · rw [if_pos h, if_pos h]; rfl
  · rw [if_neg h, if_neg h]; simp
theorem stepL_len (m : Mc) (l : List Int) (start : Bool) (c j : Nat) : (stepL m l start c j).length ≤ j := by
  unfold stepL
  rw [List.length_map]
  refine Nat.le_trans (List.length_filter_le _ _) ?_
  rw [List.length_range]; exact Nat.le_refl _
theorem stepL_mem (m : Mc) (l : List Int) (start : Bool) (c j : Nat) (i : Int) : i ∈ stepL m l start c j ↔ ∃ k : Nat, i = k ∧ k < j ∧ stepP m l start c k = true := by
  unfold stepL
  simp only [List.mem_map, List.mem_filter, List.mem_range]
  constructor
  · rintro ⟨k, ⟨h1, h2⟩, rfl⟩; exact ⟨k, rfl, h1, h2⟩
  · rintro ⟨k, rfl, h1, h2⟩; exact ⟨k, ⟨h1, h2⟩, rfl⟩
theorem frP_take (m : Mc) (l : List Int) (k n : Nat) (h : n < l.length) : frP m (l.take (n + 1)) k = (frP m (l.take n) k || (m.fo.getD (l.getD n 0).toNat []).contains (k : Int)) := by
  unfold frP
  exact any_snoc _ l 0 n h
theorem frP_of (m : Mc) (l : List Int) (k n : Nat) (h : frP m (l.take n) k = true) : frP m l k = true := by
  unfold frP at *
  rw [List.any_eq_true] at *
  obtain ⟨x, hx, h⟩ := h
  exact ⟨x, List.mem_of_mem_take hx, h⟩
set_option maxHeartbeats 6400000 in
set_option maxRecDepth 100000 in
theorem rstep_any (x : Ma) (m : Mc) (w : World) (h : MAt w x m) (hf : Fine m) (a : Option Addr) (cap : Nat) (l : List Int) (hl : NumsIn w a l) (hll : l.length ≤ 1000) (hlr : ∀ i ∈ l, 0 ≤ i ∧ i < m.fo.length) (start : Bool) (c : Nat) (hc : c < 256) :
    Calls Tryd.prog 36 #[.agg (mc x m), .slice a l.length cap, .bool start, .int .u8 c] w fun e w' => ∃ v, e = .returned v ∧ OwnN w.heap.size w' v (stepL m l start c m.sp.length) ∧ Below w.heap.size w w' := by
  have HM0 := Lib.hid h
  have HF := Lib.hid hf
  have HL0 := Lib.hid hl
  have HLL := Lib.hid hll
  have HLR := Lib.hid hlr
  have HC := Lib.hid hc
  clear h hf hl hll hlr hc
  go_enter Tryd.func36, Tryd.ntmps36
  go_upto_region 1 with fail
  have HX := Lib.hid (BoxM.new w x m)
  have HB := Lib.hid ((Below.refl w.heap.size w).alloc (Nat.le_refl _) (.cells (mc x m) 27))
  have HM := Lib.hid (HM0.out.kept HB.out)
  have HL := Lib.hid (HL0.out.kept HB.out)
  generalize w.alloc (.cells (mc x m) 27) = w1 at *
  obtain ⟨B, hBq⟩ : ∃ B, Hid (w.heap.size = B) := ⟨_, Lib.hid rfl⟩
  have HBs : Hid (Below B w w1) := Lib.hid (by rw [← hBq.out]; exact HB.out)
  rw [hBq.out] at HX ⊢
  clear HB HM0 HL0
  have HBL := Lib.hid HX.out.lt
  go_wp2_with fail
  go_loopw [9, 10] (fun v i wr => ∃ j : Nat, i = .int .i64 j ∧ j ≤ m.sp.length ∧ Hid (OwnN w1.heap.size wr v (stepL m l start c j)) ∧ Hid (Below w1.heap.size w1 wr)) (fun _ i _ => ((m.sp.length : Int) - intOf i).toNat)
  case atStart => exact ⟨0, rfl, Nat.zero_le _, Lib.hid (OwnN.nil _ _), Lib.hid (Below.refl _ _)⟩
  case round =>
    rename_i v0 i0
    obtain ⟨j, rfl, hj, HO, HB⟩ := hrel
    generalize hwr : wr = w2 at *
    clear hwr wr
    have HX2 := Lib.hid (HX.out.kept HB.out HBL.out)
    have HM2 := Lib.hid (HM.out.kept HB.out)
    have HL2 := Lib.hid (HL.out.kept HB.out)
    have c0 := HX2.out.c0
    have c1 := HX2.out.c1
    have c2 := HX2.out.c2
    by_cases hlt : j < m.sp.length
    · have hdd : decide ((j : Int) < (m.sp.length : Int)) = true := decide_eq_true (by omega)
      have hd2 : decide (j < m.sp.length) = true := decide_eq_true hlt
      have HJ := Lib.hid hlt
      have hjl : (j : Int) < (m.sp.length : Int) := by omega
      have HW1 : Hid (wrap64 ((j : Int) + 1) = ((j + 1 : Nat) : Int)) := Lib.hid (nat_wrap (by have := HF.out.sp; omega))
      obtain ⟨b, o, hsa, hrow⟩ := HM2.out.sp j hlt
      rw [hsa] at c0
      have HT := Lib.hid (stepL_succ m l start c j)
      have HP : Hid (stepP m l start c j = (((start && m.fi.contains (j : Int)) || frP m l j) && (stN m j).testBit c)) := Lib.hid rfl
      clear hlt hsa
      have HHS := Lib.hid (hasN_any x.fa x.fc (j : Int) m.fi w2 HM2.out.fi HF.out.fi)
      generalize m.fi.contains (j : Int) = fc at HHS HP
      go_upto_region 5 with fail
      go_cut [11] from 13 to 61 (fun f wx => wx = w2 ∧ f = .bool (start && fc))
      case first =>
        cases start
        · go_wp2_with fail
          go_meet
          case rel => exact ⟨rfl, rfl⟩
        · go_wp2_with (go_at_call 60; refine HHS.out.mono ?_; rintro e w3 ⟨rfl, rfl⟩)
          go_meet
          case rel => exact ⟨rfl, rfl⟩
      case rest =>
        obtain ⟨rfl, rfl⟩ := hcut
        generalize wc = w2 at *
        generalize (start && fc) = fr at *
        clear HHS
        go_upto_block 2 with fail
        go_cut [11, 12] from 13 to 61 (fun f i wx => f = .bool (fr || frP m l j) ∧ (∃ n : Nat, i = .int .i64 n) ∧ ∃ k, wx = w2.drewN k)
        case first =>
          go_wp2_with fail
          go_loopw [11, 12] (fun f i wx => ∃ n k : Nat, i = .int .i64 n ∧ n ≤ l.length ∧ f = .bool (fr || frP m (l.take n) j) ∧ wx = w2.drewN k) (fun _ i _ => ((l.length : Int) - intOf i).toNat)
          case atStart => exact ⟨0, 0, rfl, Nat.zero_le _, by rw [List.take_zero]; show Value.bool fr = .bool (fr || false); rw [Bool.or_false], by rw [World.drewN_zero]⟩
          case round =>
            obtain ⟨n, k, rfl, hn, rfl, rfl⟩ := hrel
            have HD := Lib.hid (below_drewN (Below.refl w2.heap.size w2) k)
            have HL3 := Lib.hid (HL2.out.kept HD.out)
            have HM3 := Lib.hid (HM2.out.kept HD.out)
            have c2 := (HX2.out.kept HD.out HX2.out.lt).c2
            obtain ⟨w5, hw5⟩ : ∃ w5, Hid (w2.drewN k = w5) := ⟨_, Lib.hid rfl⟩
            rw [hw5.out] at HD HL3 HM3 c2 ⊢
            by_cases hnl : n < l.length
            · have hd4 : decide ((n : Int) < (l.length : Int)) = true := decide_eq_true (by omega)
              have hd5 : decide (n < l.length) = true := decide_eq_true hnl
              obtain ⟨b2, o2, rfl, hc3⟩ := HL3.out n hnl
              have HFT := Lib.hid (frP_take m l j n hnl)
              have HR := Lib.hid (HLR.out _ (getD_mem (d := 0) hnl))
              have HW2 : Hid (wrap64 ((n : Int) + 1) = ((n + 1 : Nat) : Int)) := Lib.hid (nat_wrap (by have := HLL.out; omega))
              have HN := Lib.hid hnl
              have hnl2 : (n : Int) < (l.length : Int) := by omega
              clear hnl
              generalize l.getD n 0 = z at *
              obtain ⟨t, rfl⟩ := Int.eq_ofNat_of_zero_le HR.out.1
              have htl : t < m.fo.length := by have := HR.out; omega
              have htl2 : (t : Int) < (m.fo.length : Int) := by omega
              obtain ⟨b3, o3, x3, c3, hoa, hc4, hn4⟩ := HM3.out.fo t htl
              rw [hoa] at c2
              rw [show ((t : Int)).toNat = t from by omega] at HFT
              have HE := Lib.hid (fun wz (hz : Below w5.heap.size w5 wz) => hasN_any x3 c3 (j : Int) (m.fo.getD t []) wz (hn4.kept hz) (HF.out.each _ (getD_mem htl)).1)
              clear hoa hn4 htl
              generalize m.fo.getD t [] = lt at *
              generalize lt.contains (j : Int) = fd at *
              have HFO := Lib.hid (frP_of m l j n)
              generalize frP m (l.take n) j = fe at *
              cases hfr : (fr || fe) with
              | true =>
                have HRR : Hid ((fr || frP m l j) = true) := Lib.hid (by
                  cases fr with
                  | true => rfl
                  | false => exact HFO.out hfr)
                clear hfr
                go_wp2_with fail
                go_meet
                case rel => exact ⟨by rw [HRR.out], ⟨n, rfl⟩, k, hw5.out.symm⟩
              | false =>
                have HFF : Hid ((fr || frP m (l.take (n + 1)) j) = fd) := Lib.hid (by rw [HFT.out, ← Bool.or_assoc, hfr, Bool.false_or])
                clear hfr
                go_wp2_with fail
                go_quiet ((go_at_call 60; exact Calls.quiet_of_same ((HE.out _ (below_drewN (Below.refl _ _) _)).mono fun _ _ h => ⟨h.1, h.2.symm⟩)))
                go_wp2_with fail
                go_roundw
                case rel => exact ⟨n + 1, _, by rw [HW2.out], HN.out, by rw [HFF.out], by rw [← hw5.out, World.drewN_drewN]⟩
                case measure => rw [HW2.out]; exact meas8 HN.out
            · have hd4 : decide ((n : Int) < (l.length : Int)) = false := decide_eq_false (by omega)
              have hd5 : decide (n < l.length) = false := decide_eq_false hnl
              have HTA : Hid (l.take n = l) := Lib.hid (List.take_of_length_le (by omega))
              rw [HTA.out]
              clear hnl
              generalize (fr || frP m l j) = ff at *
              go_wp2_with fail
              go_meet
              case rel => exact ⟨rfl, ⟨n, rfl⟩, k, hw5.out.symm⟩
        case rest =>
          obtain ⟨rfl, ⟨n, rfl⟩, k, rfl⟩ := hcut
          have HD := Lib.hid (below_drewN (Below.refl w2.heap.size w2) k)
          have HO3 := Lib.hid (own_stay HO.out HD.out)
          have HB3 := Lib.hid (HB.out.trans (HD.out.mono HB.out.size))
          have HX3 := Lib.hid (HX2.out.kept HD.out HX2.out.lt)
          have hrow3 := (HM2.out.kept HD.out).sp j HJ.out
          have HJ3 := HJ
          clear c0 c1 c2 hrow HX2 HM2 HL2 HO HB HD
          generalize w2.drewN k = w5 at *
          clear w2
          obtain ⟨b, o, hsa, hrow⟩ := hrow3
          have c0 := HX3.out.c0
          rw [hsa] at c0
          have HROW : Hid (w5.rangeAt b (o + j * 5) (setC (stN m j)).toList) := Lib.hid (spot_set hrow)
          have HIN := Lib.hid (inN_any (stN m j) c w5 HC.out)
          clear hrow hsa
          generalize (stN m j).testBit c = bt at *
          generalize frP m l j = fp at *
          generalize hff : (fr || fp) = ff at *
          have HFF := Lib.hid hff
          clear hff
          go_upto_region 10 with fail
          go_cut [57] from 13 to 61 (fun v wx => v = .bool (ff && bt) ∧ Hid (Below w5.heap.size w5 wx))
          case first =>
            cases ff
            · go_wp2_with fail
              go_meet
              case rel => exact ⟨rfl, Lib.hid (Below.refl _ _)⟩
            · go_wp2_with (first
                | (refine BigFrame.wpList_want rfl (fun K' hK' => ?_); refine wp_load_mid 39 _ rfl b (o + j * 5) rfl (setC (stN m j)).toList _ HROW.out Tryd.underlying39 rfl (sizeSet (stN m j)) ?_; refine hK' _ _ ?_; clear hK' K')
                | (go_at_call 61; refine HIN.out.mono ?_; rintro e w6 ⟨rfl, hb⟩; have HB6 := Lib.hid hb; clear hb HIN))
              go_meet
              case rel => exact ⟨rfl, HB6⟩
          case rest =>
            obtain ⟨rfl, HB6⟩ := hcut
            generalize hwc : wc = w6 at *
            clear hwc wc
            have HO6 := Lib.hid (own_stay HO3.out HB6.out)
            have HB7 := Lib.hid (HB3.out.trans (HB6.out.mono HB3.out.size))
            have HS7 := Lib.hid HB7.out.size
            have HLN := Lib.hid (stepL_len m l start c j)
            have HT2 : Hid (stepL m l start c (j + 1) = if (ff && bt) = true then stepL m l start c j ++ [(j : Int)] else stepL m l start c j) := Lib.hid (by rw [HT.out, HP.out])
            obtain ⟨lft, hlft⟩ : ∃ q, Hid (stepL m l start c j = q) := ⟨_, Lib.hid rfl⟩
            rw [hlft.out] at HO6 HT2 HLN
            clear HO3 HB3 HX3 c0 HIN HROW HB6 w5
            clear HT HP HFF
            have HLN2 : Hid (lft.length ≤ 100000) := Lib.hid (by have h1 := HLN.out; have h2 := HJ.out; have h3 := HF.out.sp; omega)
            cases hbb : (ff && bt) with
            | false =>
              rw [hbb] at HT2
              clear hbb
              go_wp2_with fail
              go_roundw
              case rel => exact ⟨j + 1, by rw [HW1.out], HJ.out, Lib.hid (by rw [HT2.out]; exact HO6.out), HB7⟩
              case measure => rw [HW1.out]; exact meas9 HJ.out
            | true =>
              rw [hbb] at HT2
              clear hbb
              go_wp2_with (refine wpList_pushN rfl (.tmp 58) (.tmp 60) rfl w1.heap.size _ lft j rfl HO6.out rfl HLN2.out HS7.out ?_; intro v' w8 ho8 hb8 _; have HO8 := Lib.hid ho8; have HB8 := Lib.hid (HB7.out.trans hb8); clear ho8 hb8)
              go_roundw
              case rel => exact ⟨j + 1, by rw [HW1.out], HJ.out, Lib.hid (by rw [HT2.out]; exact HO8.out), HB8⟩
              case measure => rw [HW1.out]; exact meas9 HJ.out
    · have hdd : decide ((j : Int) < (m.sp.length : Int)) = false := decide_eq_false (by omega)
      have hd2 : decide (j < m.sp.length) = false := decide_eq_false hlt
      have HE : Hid (j = m.sp.length) := Lib.hid (by omega)
      rw [HE.out] at HO
      have HZ : Hid (w.heap.size ≤ w1.heap.size) := Lib.hid (by rw [hBq.out]; exact Nat.le_of_lt HBL.out)
      clear hlt HE
      go_wp2_with fail
      go_ret
      exact ⟨_, rfl, own_mono HO.out HZ.out, by rw [hBq.out]; exact HBs.out.trans (HB.out.mono (Nat.le_of_lt HBL.out))⟩
end Nf
end Go.Proofs.YtkpdggemhjhnbaaDoor
