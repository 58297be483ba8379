/- The document's Run. -/
import Derived.Test.YtkpdggemhjhnbaaDoorNfN
namespace Go.Proofs.YtkpdggemhjhnbaaDoor
open Go.RowKit Sets Nf
namespace Nf
/-- the spots that the document's Run is at, having read j bytes -/
def atN (m : Mc) (w : List Nat) : Nat → List Int
  | 0 => []
  | j + 1 => stepL m (atN m w j) (decide (j = 0)) (w.getD j 0) m.sp.length
theorem frP_iff (m : Mc) (l : List Int) (k : Nat) : frP m l k = true ↔ ∃ i ∈ l, (k : Int) ∈ m.fo.getD i.toNat [] := by
  unfold frP; rw [List.any_eq_true]
  simp only [List.contains_iff_mem]
theorem at_front {m : Mc} (h : Rt m) (w : List Nat) : ∀ j, j ≤ w.length → ∀ k : Nat, (((decide (j = 0)) && m.fi.contains (k : Int)) || frP m (atN m w j) k) = (runN m w j).2.testBit k
  | 0, _, (k : Nat) => by
    show ((decide (0 = 0)) && m.fi.contains (k : Int) || frP m [] k) = (grp m.fi).testBit k
    rw [Bool.eq_iff_iff, grp_bit h.fiR]
    simp [frP]
  | j + 1, hj, (k : Nat) => by
    have ih := at_front h w j (by omega)
    have hs := runN_small h w j (by omega)
    rw [runN_succ m w j (by omega)]
    rw [decide_eq_false (by omega), Bool.false_and, Bool.false_or, Bool.eq_iff_iff, frP_iff, bh_bit]
    show (∃ i ∈ stepL m (atN m w j) (decide (j = 0)) (w.getD j 0) m.sp.length, _) ↔ _
    constructor
    · rintro ⟨i, hi, hk⟩
      obtain ⟨n, rfl, hn, hp⟩ := (stepL_mem ..).1 hi
      unfold stepP at hp
      rw [Bool.and_eq_true, ih n] at hp
      refine ⟨n, by have := h.many; omega, ?_, ?_⟩
      · rw [rd_bit]; exact ⟨by have := h.many; omega, hp⟩
      · rw [map_grp]; exact (grp_bit (foN_rise h n) k).2 hk
    · rintro ⟨n, -, h1, h2⟩
      rw [rd_bit] at h1
      rw [map_grp] at h2
      refine ⟨n, (stepL_mem ..).2 ⟨n, rfl, hs n h1.2.1, ?_⟩, (grp_bit (foN_rise h n) k).1 h2⟩
      unfold stepP
      rw [Bool.and_eq_true, ih n]
      exact h1.2
theorem at_mem {m : Mc} (h : Rt m) (w : List Nat) (j : Nat) (hj : j < w.length) (i : Int) : i ∈ atN m w (j + 1) ↔ ∃ k : Nat, i = k ∧ (runN m w (j + 1)).1.testBit k = true := by
  have hs := runN_small h w j (by omega)
  show i ∈ stepL m (atN m w j) (decide (j = 0)) (w.getD j 0) m.sp.length ↔ _
  rw [stepL_mem, runN_succ m w j hj]
  constructor
  · rintro ⟨k, rfl, hk, hp⟩
    unfold stepP at hp
    rw [Bool.and_eq_true, at_front h w j (by omega)] at hp
    exact ⟨k, rfl, by rw [rd_bit]; exact ⟨by have := h.many; omega, hp⟩⟩
  · rintro ⟨k, rfl, hk⟩
    rw [rd_bit] at hk
    refine ⟨k, rfl, hs k hk.2.1, ?_⟩
    unfold stepP
    rw [Bool.and_eq_true, at_front h w j (by omega)]
    exact hk.2
theorem at_lt (m : Mc) (w : List Nat) (j : Nat) (i : Int) (hi : i ∈ atN m w j) : 0 ≤ i ∧ i < m.sp.length := by
  cases j with
  | zero => cases hi
  | succ j =>
    obtain ⟨k, rfl, hk, -⟩ := (stepL_mem ..).1 hi
    omega
theorem at_len (m : Mc) (w : List Nat) (j : Nat) : (atN m w j).length ≤ m.sp.length := by
  cases j with
  | zero => exact Nat.zero_le _
  | succ j => exact stepL_len ..
theorem at_takes {m : Mc} (h : Rt m) (w : List Nat) (hw : w ≠ []) : (atN m w w.length).any (fun i => m.la.getD i.toNat false) = takesM m w := by
  obtain ⟨n, hn⟩ : ∃ n, w.length = n + 1 := by
    cases w with
    | nil => exact absurd rfl hw
    | cons c w => exact ⟨_, rfl⟩
  have hr : takesM m w = decide ((runS m w).1 &&& lastN m ≠ 0) := by
    unfold takesM
    rw [(right_iff m).2 h, if_neg hw, Bool.true_and]
  rw [hr, Bool.eq_iff_iff, List.any_eq_true, decide_eq_true_iff, hn, ← runN_all m w (n + 1) (by omega)]
  constructor
  · rintro ⟨i, hi, hl⟩ hz
    obtain ⟨k, rfl, hk⟩ := (at_mem h w n (by omega) i).1 hi
    have : ((runN m w (n + 1)).1 &&& lastN m).testBit k = true := by
      rw [Nat.testBit_and, Bool.and_eq_true, last_bit]
      exact ⟨hk, hl⟩
    rw [hz] at this
    simp at this
  · intro hz
    obtain ⟨k, hk⟩ := Nat.exists_testBit_of_ne_zero hz
    rw [Nat.testBit_and, Bool.and_eq_true, last_bit] at hk
    exact ⟨k, (at_mem h w n (by omega) _).2 ⟨k, rfl, hk.1⟩, hk.2⟩
set_option maxHeartbeats 6400000 in
set_option maxRecDepth 100000 in
theorem rrun_any (x : Ma) (m : Mc) (s : ByteArray) (w : World) (h : MAt w x m) (hf : Fine m) (hs : s.size ≤ 1000) :
    Calls Tryd.prog 14 #[.agg (mc x m), .string s] w fun e w' => e = .returned (.bool (takesM m (bs s))) ∧ Below w.heap.size w w' := by
  have HM := Lib.hid h
  have HF := Lib.hid hf
  have HS := Lib.hid hs
  have HLEN := Lib.hid (bs_len s)
  have HBL := Lib.hid (bs_lt s)
  clear h hf hs
  go_enter Tryd.func14, Tryd.ntmps14
  go_upto_region 1 with fail
  have HX := Lib.hid (BoxM.new w x m)
  have HB := Lib.hid ((Below.refl w.heap.size w).alloc (Nat.le_refl _) (.cells (mc x m) 27))
  generalize w.alloc (.cells (mc x m) 27) = w1 at *
  have HM1 := Lib.hid (HM.out.kept HB.out)
  have HR := Lib.hid (rright_any x m w1 HM1.out HF.out)
  cases hr : rightM m
  · rw [hr] at HR
    have HV : Hid (takesM m (bs s) = false) := Lib.hid (by unfold takesM; rw [hr]; rfl)
    clear hr
    go_wp2_with (first
      | (refine wpList_load_mach rfl (.tmp 2) rfl w.heap.size x m rfl HX.out ?_)
      | (go_at_call 12; refine HR.out.mono ?_; rintro e w2 ⟨rfl, hb2⟩; have HB2 := Lib.hid hb2; clear hb2))
    go_ret
    exact ⟨by rw [HV.out]; rfl, HB.out.trans (HB2.out.mono (Nat.le_of_lt HX.out.lt))⟩
  · rw [hr] at HR
    have HRT := Lib.hid ((right_iff m).1 hr)
    have HV : Hid (takesM m (bs s) = if bs s = [] then m.em else decide ((runS m (bs s)).1 &&& lastN m ≠ 0)) := Lib.hid (by unfold takesM; rw [hr, Bool.true_and])
    clear hr
    go_upto_region 3 with (first
      | (refine wpList_load_mach rfl (.tmp 2) rfl w.heap.size x m rfl HX.out ?_)
      | (go_at_call 12; refine HR.out.mono ?_; rintro e w2 ⟨rfl, hb2⟩; have HB2 := Lib.hid hb2; clear hb2))
    have HX2 := Lib.hid (HX.out.kept HB2.out HX.out.lt)
    have HM2 := Lib.hid (HM1.out.kept HB2.out)
    have HB3 := Lib.hid (HB.out.trans (HB2.out.mono (Nat.le_of_lt HX.out.lt)))
    generalize hBq : w.heap.size = B at *
    have HBq := Lib.hid hBq
    clear hBq HB HX HM1 HB2 HR w1
    have c4 := HX2.out.c4
    by_cases hs0 : s.size = 0
    · obtain rfl : s = ⟨#[]⟩ := by
        cases s with
        | mk d => cases d with
          | mk l => cases l with
            | nil => rfl
            | cons a l => simp [ByteArray.size] at hs0
      have HV2 : Hid (takesM m (bs ⟨#[]⟩) = m.em) := Lib.hid (by rw [HV.out]; rfl)
      clear hs0
      go_wp2_with fail
      go_ret
      exact ⟨by rw [HV2.out]; rfl, by rw [HBq.out]; exact HB3.out⟩
    · have hne : (((s.size : Nat) : Int) == 0) = false := by rw [beq_eq_false_iff_ne]; omega
      have HNE : Hid (bs s ≠ []) := Lib.hid (fun e => hs0 (by rw [← HLEN.out, e]; rfl))
      have HAT := Lib.hid (at_takes HRT.out (bs s) HNE.out)
      rw [HLEN.out] at HAT
      clear hs0 HV c4
      have HBX := Lib.hid HX2.out.lt
      go_wp2_with fail
      go_loopw [5, 6] (fun v i wr => ∃ j : Nat, i = .int .i64 j ∧ j ≤ s.size ∧ Hid (OwnN w2.heap.size wr v (atN m (bs s) j)) ∧ Hid (Below w2.heap.size w2 wr)) (fun _ i _ => ((s.size : Int) - intOf i).toNat)
      case atStart => exact ⟨0, rfl, Nat.zero_le _, Lib.hid (OwnN.nil _ _), Lib.hid (Below.refl _ _)⟩
      case round =>
        obtain ⟨j, rfl, hj, HO, HBr⟩ := hrel
        generalize hwr : wr = w7 at *
        clear hwr wr
        have HM7 := Lib.hid (HM2.out.kept HBr.out)
        have HX7 := Lib.hid (HX2.out.kept HBr.out HBX.out)
        have HBX7 := Lib.hid HX7.out.lt
        by_cases hlt : j < s.size
        · have hdd : decide ((j : Int) < (s.size : Int)) = true := decide_eq_true (by omega)
          have hd2 : decide (j < s.size) = true := decide_eq_true hlt
          have hix := index_bs s j _ rfl hlt
          have HCC : Hid ((bs s).getD j 0 < 256) := Lib.hid (HBL.out _ (getD_mem (by rw [HLEN.out]; exact hlt)))
          have HW1 : Hid (wrap64 ((j : Int) + 1) = ((j + 1 : Nat) : Int)) := Lib.hid (nat_wrap (by have := HS.out; omega))
          have HLT := Lib.hid (fun i hi => at_lt m (bs s) j i hi)
          have HLE := Lib.hid (at_len m (bs s) j)
          have HNX : Hid (atN m (bs s) (j + 1) = stepL m (atN m (bs s) j) (((j : Int)) == 0) ((bs s).getD j 0) m.sp.length) := Lib.hid (by
            rw [show (((j : Int)) == 0) = decide (j = 0) by rw [Bool.eq_iff_iff, beq_iff_eq, decide_eq_true_iff]; omega]; rfl)
          generalize (bs s).getD j 0 = c at *
          obtain ⟨a5, cap5, rfl, hn5⟩ := HO.out.nums
          have HN5 := Lib.hid (hn5.kept ((Below.refl _ _).drew))
          generalize atN m (bs s) j = l at *
          clear hn5
          have HJ := Lib.hid hlt
          clear hlt
          have HST := Lib.hid (fun st => rstep_any x m w7.drew (HM7.out.kept ((Below.refl _ _).drew)) HF.out a5 cap5 l HN5.out (by have h1 := HRT.out.many; have h2 := HLE.out; omega) (fun i hi => by have h1 := HLT.out i hi; have h2 := HRT.out.fol; omega) st c HCC.out)
          go_upto_region 9 with fail
          refine region_mix [(false, 0), (false, 1), (false, 2), (false, 3), (false, 4), (false, 5), (false, 6), (true, 7)] (fun w' => Below w7.heap.size w7 w') (by kernel_rfl) (by kernel_rfl) ((Below.refl _ _).drew) ?_
          simp only [planOps, List.map_cons, List.map_nil, List.getD_cons_zero, List.getD_cons_succ, List.length_cons, List.length_nil, List.drop_succ_cons, List.drop_zero]
          refine mix_seg (seg := [_, _, _, _, _, _, _]) (rest := [_]) rfl ((Below.refl _ _).drew) ?_
          intro ι hι F hF
          have f2 := Lib.hid (fun n => HX7.out.kept (hF n) HBX7.out)
          refine BigFrame.wpQuiet_want rfl (fun K hK => ?_); refine quiet_load_mach _ rfl B x m rfl (fun w' ⟨n, e⟩ => e ▸ f2.out n) ?_; refine hK _ ?_; clear hK K; simp only [Act.put, List.setIfInBounds_toArray, List.set_cons_zero, List.set_cons_succ]
          iterate 6 (go_big_quiet_step (fail))
          refine wpQuiet_nil ?_
          clear f2 hF hι F
          refine mix_eff (fun K hK => ?_)
          go_wp2_with (go_at_call 36; refine (HST.out _).mono ?_; rintro e w8 ⟨v, rfl, ho8, hb8⟩; have HO8 := Lib.hid ho8; have HB8 := Lib.hid (((Below.refl _ _).drew).trans hb8); clear ho8 hb8)
          refine mix_on hK HB8.out ?_
          clear hK K HST
          show wpList _ _ _ _ _ _
          go_wp2_with fail
          refine NoPanic.normal ?_
          rw [World.size_drew] at HO8
          have HO9 := Lib.hid (own_mono HO8.out HBr.out.size)
          have HB9 := Lib.hid (HBr.out.trans (HB8.out.mono HBr.out.size))
          clear HO8
          go_wp2_with fail
          go_roundw
          case rel => exact ⟨j + 1, by rw [HW1.out], HJ.out, Lib.hid (by rw [HNX.out]; exact HO9.out), HB9⟩
          case measure => rw [HW1.out]; exact meas9 HJ.out
        · have hdd : decide ((j : Int) < (s.size : Int)) = false := decide_eq_false (by omega)
          have hd2 : decide (j < s.size) = false := decide_eq_false hlt
          have HE : Hid (j = s.size) := Lib.hid (by omega)
          rw [HE.out] at HO
          have HLT := Lib.hid (fun i hi => at_lt m (bs s) s.size i hi)
          have HLE := Lib.hid (at_len m (bs s) s.size)
          obtain ⟨a5, cap5, rfl, hn5⟩ := HO.out.nums
          have HN5 := Lib.hid hn5
          generalize atN m (bs s) s.size = l at *
          clear hn5 hlt
          go_wp2_with fail
          go_loopw [7] (fun i wr => ∃ n k : Nat, i = .int .i64 n ∧ n ≤ l.length ∧ Hid ((l.take n).any (fun i => m.la.getD i.toNat false) = false) ∧ wr = w7.drewN k) (fun i _ => ((l.length : Int) - intOf i).toNat)
          case atStart => exact ⟨0, 0, rfl, Nat.zero_le _, Lib.hid (by simp), by rw [World.drewN_zero]⟩
          case round =>
            obtain ⟨n, k, rfl, hn, HA, rfl⟩ := hrel
            have c3 := HX7.out.c3
            by_cases hnl : n < l.length
            · have hd4 : decide ((n : Int) < (l.length : Int)) = true := decide_eq_true (by omega)
              have hd5 : decide (n < l.length) = true := decide_eq_true hnl
              obtain ⟨b2, o2, rfl, hc3⟩ := HN5.out n hnl
              have HFT := Lib.hid (any_snoc (fun i : Int => m.la.getD i.toNat false) l 0 n hnl)
              have HR := Lib.hid (HLT.out _ (getD_mem (d := 0) hnl))
              have HIT : Hid (m.la.getD (l.getD n 0).toNat false = true → l.any (fun i => m.la.getD i.toNat false) = true) := Lib.hid (fun h => List.any_eq_true.2 ⟨_, getD_mem hnl, h⟩)
              have HW2 : Hid (wrap64 ((n : Int) + 1) = ((n + 1 : Nat) : Int)) := Lib.hid (nat_wrap (by have h1 := HLE.out; have h2 := HRT.out.many; omega))
              have HN := Lib.hid hnl
              have hnl2 : (n : Int) < (l.length : Int) := by omega
              clear hnl
              generalize l.getD n 0 = z at *
              obtain ⟨t, rfl⟩ := Int.eq_ofNat_of_zero_le HR.out.1
              have htl : t < m.la.length := by have h1 := HR.out; have h2 := HRT.out.lal; omega
              have htl2 : (t : Int) < (m.la.length : Int) := by omega
              obtain ⟨b3, o3, hoa, hc4⟩ := HM7.out.la t htl
              rw [hoa] at c3
              rw [show ((t : Int)).toNat = t from by omega] at HFT HIT
              clear hoa htl
              cases hb : m.la.getD t false with
              | true =>
                rw [hb] at hc4 HIT
                have HRR := Lib.hid (HAT.out.symm.trans (HIT.out rfl))
                clear hb
                go_wp2_with fail
                go_quiet (fail)
                go_wp2_with fail
                go_ret
                exact ⟨by rw [HRR.out]; rfl, by rw [HBq.out]; exact HB3.out.trans ((HBr.out.trans ((below_drewN (below_drewN (Below.refl _ _) _) _).mono HBr.out.size)).mono (Nat.le_of_lt HBX.out))⟩
              | false =>
                rw [hb] at hc4 HFT
                have HA2 : Hid ((l.take (n + 1)).any (fun i => m.la.getD i.toNat false) = false) := Lib.hid (by rw [HFT.out, HA.out]; rfl)
                clear hb
                go_wp2_with fail
                go_quiet (fail)
                go_wp2_with fail
                go_roundw
                case rel => exact ⟨n + 1, _, by rw [HW2.out], HN.out, HA2, by first | rfl | rw [World.drewN_drewN]⟩
                case measure => rw [HW2.out]; exact meas8 HN.out
            · have hd4 : decide ((n : Int) < (l.length : Int)) = false := decide_eq_false (by omega)
              have hd5 : decide (n < l.length) = false := decide_eq_false hnl
              have HRR : Hid (takesM m (bs s) = false) := Lib.hid (by have e := HA.out; rw [List.take_of_length_le (by omega)] at e; exact HAT.out.symm.trans e)
              clear hnl
              go_wp2_with fail
              go_ret
              exact ⟨by rw [HRR.out]; rfl, by rw [HBq.out]; exact HB3.out.trans ((HBr.out.trans ((below_drewN (Below.refl _ _) _).mono HBr.out.size)).mono (Nat.le_of_lt HBX.out))⟩
end Nf
end Go.Proofs.YtkpdggemhjhnbaaDoor
