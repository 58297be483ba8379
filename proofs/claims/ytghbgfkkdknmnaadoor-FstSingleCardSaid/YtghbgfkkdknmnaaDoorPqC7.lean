/- Several texts in one. -/
import Derived.Test.YtghbgfkkdknmnaaDoorPqB6
namespace Go.Proofs.YtghbgfkkdknmnaaDoor
open Go.RowKit Sets Nf
namespace Fs
set_option maxHeartbeats 6400000 in
set_option maxRecDepth 100000 in
theorem ends14_any (x : Ma) (m : Mc) (k0 : Nat) (s : ByteArray) (w : World) (h : MAt w x m) (hf : Fine m) (hr : Rt m) (hk : k0 < m.sp.length) (hs : s.size ≤ 1000) :
    Calls Tryd.prog 28 #[.agg (mc x m), .int .i64 k0, .string s] w fun e w' => (∃ b, e = .returned (.bool b) ∧ (b = true ↔ Gs m k0 (bs s))) ∧ Below w.heap.size w w' := by
  have HM := Lib.hid h
  have HF := Lib.hid hf
  have HRT := Lib.hid hr
  have HKK := Lib.hid hk
  have HS := Lib.hid hs
  have HLEN := Lib.hid (Nf.bs_len s)
  have HBL := Lib.hid (Nf.bs_lt s)
  clear h hf hs hr hk
  go_enter Tryd.func28, Tryd.ntmps28
  go_upto_region 1 with fail
  have HX := Lib.hid (BoxM.new w x m)
  have HB := Lib.hid ((Below.refl w.heap.size w).alloc (Nat.le_refl _) (.cells (mc x m) 27))
  generalize w.alloc (.cells (mc x m) 27) = w1 at *
  have HM1 := Lib.hid (HM.out.kept HB.out)
  have HO1 : Hid (OwnN w1.heap.size (w1.alloc (.cells #[.int .i64 k0] 3)) (.slice (some ⟨w1.heap.size, 0, none⟩) 1 1) [(k0 : Int)]) := Lib.hid (World.ownsRow_lit w1 _ 1 (Nat.le_refl _) (by decide) rfl)
  have HA1 := Lib.hid ((Below.refl w1.heap.size w1).alloc (Nat.le_refl _) (.cells #[.int .i64 k0] 3))
  have HL1 := Lib.hid HX.out.lt
  go_upto_region 2 with fail
  have HX2 := Lib.hid (HX.out.kept HA1.out HL1.out)
  have HM2 := Lib.hid (HM1.out.kept HA1.out)
  have HO2 := Lib.hid (own_mono HO1.out (Nat.le_of_lt HL1.out))
  have HB3 := Lib.hid (HB.out.trans (HA1.out.mono (Nat.le_of_lt HL1.out)))
  have HO3 := HO1
  generalize hBq : w.heap.size = B at *
  have HBq := Lib.hid hBq
  obtain ⟨g1, hg1⟩ : ∃ g, Hid (w1.heap.size = g) := ⟨_, Lib.hid rfl⟩
  rw [hg1.out] at HO3 HO2 HA1 ⊢
  have HG1 : Hid (B < g1) := Lib.hid (by rw [← hg1.out]; exact HL1.out)
  generalize w1.alloc (.cells #[.int .i64 k0] 3) = w2 at *
  have HW2 : Hid (g1 ≤ w2.heap.size) := Lib.hid (by rw [← hg1.out]; exact HA1.out.size)
  clear hBq HB HX HM1 HO1 HL1 HA1 hg1 w1
  go_wp2_with fail
  go_loopw [7, 8] (fun v i wr => ∃ j : Nat, i = .int .i64 j ∧ j ≤ s.size ∧ Hid (OwnN g1 wr v (enN m k0 (bs s) j)) ∧ Hid (Below w2.heap.size w2 wr)) (fun _ i _ => ((s.size : Int) - intOf i).toNat)
  case atStart => exact ⟨0, rfl, Nat.zero_le _, HO3, Lib.hid (Below.refl _ _)⟩
  case round =>
    obtain ⟨j, rfl, hj, HO, HBr⟩ := hrel
    generalize hwr : wr = w7 at *
    clear hwr wr
    have HM7 := Lib.hid (HM2.out.kept HBr.out)
    have HX7 := Lib.hid (HX2.out.kept HBr.out HX2.out.lt)
    have HBX7 := Lib.hid HX7.out.lt
    by_cases hlt : j < s.size
    · have hdd : decide ((j : Int) < (s.size : Int)) = true := decide_eq_true (by omega)
      have hd2 : decide (j < s.size) = true := decide_eq_true hlt
      have hix := index_bs s j _ rfl hlt
      have HCC : Hid ((bs s).getD j 0 < 256) := Lib.hid (HBL.out _ (getD_mem (by rw [HLEN.out]; exact hlt)))
      have HW1 : Hid (wrap64 ((j : Int) + 1) = ((j + 1 : Nat) : Int)) := Lib.hid (nat_wrap (by have := HS.out; omega))
      have HLT := Lib.hid (fun i hi => en_lt HKK.out (bs s) j i hi)
      have HLE := Lib.hid (en_len HKK.out (bs s) j)
      have HNX : Hid (enN m k0 (bs s) (j + 1) = stepL m (enN m k0 (bs s) j) false ((bs s).getD j 0) m.sp.length) := Lib.hid rfl
      generalize (bs s).getD j 0 = c at *
      obtain ⟨a5, cap5, rfl, hn5⟩ := HO.out.nums
      have HN5 := Lib.hid (hn5.kept ((Below.refl _ _).drew))
      generalize enN m k0 (bs s) j = l at *
      clear hn5
      have HJ := Lib.hid hlt
      clear hlt
      have HST := Lib.hid (fun st => rstep_any x m w7.drew (HM7.out.kept ((Below.refl _ _).drew)) HF.out a5 cap5 l HN5.out (by have h1 := HRT.out.many; have h2 := HLE.out; omega) (fun i hi => by have h1 := HLT.out i hi; have h2 := HRT.out.fol; omega) st c HCC.out)
      go_upto_region 5 with fail
      refine region_mix [(false, 0), (false, 1), (false, 2), (false, 3), (false, 4), (true, 5)] (fun w' => Below w7.heap.size w7 w') (by kernel_rfl) (by kernel_rfl) ((Below.refl _ _).drew) ?_
      simp only [planOps, List.map_cons, List.map_nil, List.getD_cons_zero, List.getD_cons_succ, List.length_cons, List.length_nil, List.drop_succ_cons, List.drop_zero]
      refine mix_seg (seg := [_, _, _, _, _]) (rest := [_]) rfl ((Below.refl _ _).drew) ?_
      intro ι hι F hF
      have f2 := Lib.hid (fun n => HX7.out.kept (hF n) HBX7.out)
      refine BigFrame.wpQuiet_want rfl (fun K hK => ?_); refine quiet_load_mach _ rfl B x m rfl (fun w' ⟨n, e⟩ => e ▸ f2.out n) ?_; refine hK _ ?_; clear hK K; simp only [Act.put, List.setIfInBounds_toArray, List.set_cons_zero, List.set_cons_succ]
      iterate 4 (go_big_quiet_step (fail))
      refine wpQuiet_nil ?_
      clear f2 hF hι F
      refine mix_eff (fun K hK => ?_)
      go_wp2_with (go_at_call 21; refine (HST.out _).mono ?_; rintro e w8 ⟨v, rfl, ho8, hb8⟩; have HO8 := Lib.hid ho8; have HB8 := Lib.hid (((Below.refl _ _).drew).trans hb8); clear ho8 hb8)
      refine mix_on hK HB8.out ?_
      clear hK K HST
      show wpList _ _ _ _ _ _
      go_wp2_with fail
      refine NoPanic.normal ?_
      rw [World.size_drew] at HO8
      have HO9 := Lib.hid (own_mono HO8.out (Nat.le_trans HW2.out HBr.out.size))
      have HB9 := Lib.hid (HBr.out.trans (HB8.out.mono HBr.out.size))
      clear HO8
      go_wp2_with fail
      go_roundw
      case rel => exact ⟨j + 1, by rw [HW1.out], HJ.out, Lib.hid (by rw [HNX.out]; exact HO9.out), HB9⟩
      case measure => rw [HW1.out]; exact meas9 HJ.out
    · have hdd : decide ((j : Int) < (s.size : Int)) = false := decide_eq_false (by omega)
      have hd2 : decide (j < s.size) = false := decide_eq_false hlt
      have HE : Hid (j = s.size) := Lib.hid (by omega)
      rw [HE.out] at HO
      have HLT := Lib.hid (fun i hi => en_lt HKK.out (bs s) s.size i hi)
      have HLE := Lib.hid (en_len HKK.out (bs s) s.size)
      have HAT := Lib.hid (en_last HRT.out k0 (bs s))
      rw [HLEN.out] at HAT
      obtain ⟨a5, cap5, rfl, hn5⟩ := HO.out.nums
      have HN5 := Lib.hid hn5
      generalize enN m k0 (bs s) s.size = l at *
      clear hn5 hlt
      go_wp2_with fail
      go_loopw [9] (fun i wr => ∃ n k : Nat, i = .int .i64 n ∧ n ≤ l.length ∧ Hid ((l.take n).any (fun i => m.la.getD i.toNat false) = false) ∧ wr = w7.drewN k) (fun i _ => ((l.length : Int) - intOf i).toNat)
      case atStart => exact ⟨0, 0, rfl, Nat.zero_le _, Lib.hid (by simp), by rw [World.drewN_zero]⟩
      case round =>
        obtain ⟨n, k, rfl, hn, HA, rfl⟩ := hrel
        have c3 := HX7.out.c3
        by_cases hnl : n < l.length
        · have hd4 : decide ((n : Int) < (l.length : Int)) = true := decide_eq_true (by omega)
          have hd5 : decide (n < l.length) = true := decide_eq_true hnl
          obtain ⟨b2, o2, rfl, hc3⟩ := HN5.out n hnl
          have HFT := Lib.hid (any_snoc (fun i : Int => m.la.getD i.toNat false) l 0 n hnl)
          have HR := Lib.hid (HLT.out _ (getD_mem (d := 0) hnl))
          have HIT : Hid (m.la.getD (l.getD n 0).toNat false = true → l.any (fun i => m.la.getD i.toNat false) = true) := Lib.hid (fun h => List.any_eq_true.2 ⟨_, getD_mem hnl, h⟩)
          have HW3 : Hid (wrap64 ((n : Int) + 1) = ((n + 1 : Nat) : Int)) := Lib.hid (nat_wrap (by have h1 := HLE.out; have h2 := HRT.out.many; omega))
          have HN := Lib.hid hnl
          have hnl2 : (n : Int) < (l.length : Int) := by omega
          clear hnl
          generalize l.getD n 0 = z at *
          obtain ⟨t, rfl⟩ := Int.eq_ofNat_of_zero_le HR.out.1
          have htl : t < m.la.length := by have h1 := HR.out; have h2 := HRT.out.lal; omega
          have htl2 : (t : Int) < (m.la.length : Int) := by omega
          obtain ⟨b3, o3, hoa, hc4⟩ := HM7.out.la t htl
          rw [hoa] at c3
          rw [show ((t : Int)).toNat = t from by omega] at HFT HIT
          clear hoa htl
          cases hb : m.la.getD t false with
          | true =>
            rw [hb] at hc4 HIT
            have HRR := Lib.hid (HAT.out.1 (HIT.out rfl))
            clear hb
            go_wp2_with fail
            go_quiet (fail)
            go_wp2_with fail
            go_ret
            exact ⟨⟨true, rfl, ⟨fun _ => HRR.out, fun _ => rfl⟩⟩, by rw [HBq.out]; exact HB3.out.trans ((HBr.out.trans ((below_drewN (below_drewN (Below.refl _ _) _) _).mono HBr.out.size)).mono (Nat.le_of_lt (Nat.lt_of_lt_of_le HG1.out HW2.out)))⟩
          | false =>
            rw [hb] at hc4 HFT
            have HA2 : Hid ((l.take (n + 1)).any (fun i => m.la.getD i.toNat false) = false) := Lib.hid (by rw [HFT.out, HA.out]; rfl)
            clear hb
            go_wp2_with fail
            go_quiet (fail)
            go_wp2_with fail
            go_roundw
            case rel => exact ⟨n + 1, _, by rw [HW3.out], HN.out, HA2, by first | rfl | rw [World.drewN_drewN]⟩
            case measure => rw [HW3.out]; exact meas8 HN.out
        · have hd4 : decide ((n : Int) < (l.length : Int)) = false := decide_eq_false (by omega)
          have hd5 : decide (n < l.length) = false := decide_eq_false hnl
          have HRR : Hid (¬ Gs m k0 (bs s)) := Lib.hid (fun hg => by have e := HA.out; rw [List.take_of_length_le (by omega), HAT.out.2 hg] at e; cases e)
          clear hnl
          go_wp2_with fail
          go_ret
          exact ⟨⟨false, rfl, ⟨fun h => (by cases h), fun h => absurd h HRR.out⟩⟩, by rw [HBq.out]; exact HB3.out.trans ((HBr.out.trans ((below_drewN (Below.refl _ _) _).mono HBr.out.size)).mono (Nat.le_of_lt (Nat.lt_of_lt_of_le HG1.out HW2.out)))⟩
set_option maxHeartbeats 6400000 in
set_option maxRecDepth 100000 in
theorem goes14_any (x : Ma) (m : Mc) (k0 : Nat) (s : ByteArray) (w : World) (h : MAt w x m) (hf : Fine m) (hr : Rt m) (hk : k0 < m.sp.length) (hs : s.size ≤ 1000) :
    Calls Tryd.prog 22 #[.agg (mc x m), .int .i64 k0, .string s] w fun e w' => (∃ b, e = .returned (.bool b) ∧ (b = true ↔ Gs m k0 (bs s))) ∧ Below w.heap.size w w' := by
  have HM := Lib.hid h
  have HF := Lib.hid hf
  have HRT := Lib.hid hr
  have HKK := Lib.hid hk
  have HS := Lib.hid hs
  have HLEN := Lib.hid (Nf.bs_len s)
  have HBL := Lib.hid (Nf.bs_lt s)
  clear h hf hs hr hk
  go_enter Tryd.func22, Tryd.ntmps22
  go_upto_region 1 with fail
  have HX := Lib.hid (BoxM.new w x m)
  have HB := Lib.hid ((Below.refl w.heap.size w).alloc (Nat.le_refl _) (.cells (mc x m) 27))
  generalize w.alloc (.cells (mc x m) 27) = w1 at *
  have HM1 := Lib.hid (HM.out.kept HB.out)
  have HO1 : Hid (OwnN w1.heap.size (w1.alloc (.cells #[.int .i64 k0] 3)) (.slice (some ⟨w1.heap.size, 0, none⟩) 1 1) [(k0 : Int)]) := Lib.hid (World.ownsRow_lit w1 _ 1 (Nat.le_refl _) (by decide) rfl)
  have HA1 := Lib.hid ((Below.refl w1.heap.size w1).alloc (Nat.le_refl _) (.cells #[.int .i64 k0] 3))
  have HL1 := Lib.hid HX.out.lt
  go_upto_region 2 with fail
  have HX2 := Lib.hid (HX.out.kept HA1.out HL1.out)
  have HM2 := Lib.hid (HM1.out.kept HA1.out)
  have HO2 := Lib.hid (own_mono HO1.out (Nat.le_of_lt HL1.out))
  have HB3 := Lib.hid (HB.out.trans (HA1.out.mono (Nat.le_of_lt HL1.out)))
  have HO3 := HO1
  generalize hBq : w.heap.size = B at *
  have HBq := Lib.hid hBq
  obtain ⟨g1, hg1⟩ : ∃ g, Hid (w1.heap.size = g) := ⟨_, Lib.hid rfl⟩
  rw [hg1.out] at HO3 HO2 HA1 ⊢
  have HG1 : Hid (B < g1) := Lib.hid (by rw [← hg1.out]; exact HL1.out)
  generalize w1.alloc (.cells #[.int .i64 k0] 3) = w2 at *
  have HW2 : Hid (g1 ≤ w2.heap.size) := Lib.hid (by rw [← hg1.out]; exact HA1.out.size)
  clear hBq HB HX HM1 HO1 HL1 HA1 hg1 w1
  go_wp2_with fail
  go_loopw [7, 8] (fun v i wr => ∃ j : Nat, i = .int .i64 j ∧ j ≤ s.size ∧ Hid (OwnN g1 wr v (enN m k0 (bs s) j)) ∧ Hid (Below w2.heap.size w2 wr)) (fun _ i _ => ((s.size : Int) - intOf i).toNat)
  case atStart => exact ⟨0, rfl, Nat.zero_le _, HO3, Lib.hid (Below.refl _ _)⟩
  case round =>
    obtain ⟨j, rfl, hj, HO, HBr⟩ := hrel
    generalize hwr : wr = w7 at *
    clear hwr wr
    have HM7 := Lib.hid (HM2.out.kept HBr.out)
    have HX7 := Lib.hid (HX2.out.kept HBr.out HX2.out.lt)
    have HBX7 := Lib.hid HX7.out.lt
    by_cases hlt : j < s.size
    · have hdd : decide ((j : Int) < (s.size : Int)) = true := decide_eq_true (by omega)
      have hd2 : decide (j < s.size) = true := decide_eq_true hlt
      have hix := index_bs s j _ rfl hlt
      have HCC : Hid ((bs s).getD j 0 < 256) := Lib.hid (HBL.out _ (getD_mem (by rw [HLEN.out]; exact hlt)))
      have HW1 : Hid (wrap64 ((j : Int) + 1) = ((j + 1 : Nat) : Int)) := Lib.hid (nat_wrap (by have := HS.out; omega))
      have HLT := Lib.hid (fun i hi => en_lt HKK.out (bs s) j i hi)
      have HLE := Lib.hid (en_len HKK.out (bs s) j)
      have HNX : Hid (enN m k0 (bs s) (j + 1) = stepL m (enN m k0 (bs s) j) false ((bs s).getD j 0) m.sp.length) := Lib.hid rfl
      generalize (bs s).getD j 0 = c at *
      obtain ⟨a5, cap5, rfl, hn5⟩ := HO.out.nums
      have HN5 := Lib.hid (hn5.kept ((Below.refl _ _).drew))
      generalize enN m k0 (bs s) j = l at *
      clear hn5
      have HJ := Lib.hid hlt
      clear hlt
      have HST := Lib.hid (fun st => rstep_any x m w7.drew (HM7.out.kept ((Below.refl _ _).drew)) HF.out a5 cap5 l HN5.out (by have h1 := HRT.out.many; have h2 := HLE.out; omega) (fun i hi => by have h1 := HLT.out i hi; have h2 := HRT.out.fol; omega) st c HCC.out)
      go_upto_region 5 with fail
      refine region_mix [(false, 0), (false, 1), (false, 2), (false, 3), (false, 4), (true, 5)] (fun w' => Below w7.heap.size w7 w') (by kernel_rfl) (by kernel_rfl) ((Below.refl _ _).drew) ?_
      simp only [planOps, List.map_cons, List.map_nil, List.getD_cons_zero, List.getD_cons_succ, List.length_cons, List.length_nil, List.drop_succ_cons, List.drop_zero]
      refine mix_seg (seg := [_, _, _, _, _]) (rest := [_]) rfl ((Below.refl _ _).drew) ?_
      intro ι hι F hF
      have f2 := Lib.hid (fun n => HX7.out.kept (hF n) HBX7.out)
      refine BigFrame.wpQuiet_want rfl (fun K hK => ?_); refine quiet_load_mach _ rfl B x m rfl (fun w' ⟨n, e⟩ => e ▸ f2.out n) ?_; refine hK _ ?_; clear hK K; simp only [Act.put, List.setIfInBounds_toArray, List.set_cons_zero, List.set_cons_succ]
      iterate 4 (go_big_quiet_step (fail))
      refine wpQuiet_nil ?_
      clear f2 hF hι F
      refine mix_eff (fun K hK => ?_)
      go_wp2_with (go_at_call 21; refine (HST.out _).mono ?_; rintro e w8 ⟨v, rfl, ho8, hb8⟩; have HO8 := Lib.hid ho8; have HB8 := Lib.hid (((Below.refl _ _).drew).trans hb8); clear ho8 hb8)
      refine mix_on hK HB8.out ?_
      clear hK K HST
      show wpList _ _ _ _ _ _
      go_wp2_with fail
      refine NoPanic.normal ?_
      rw [World.size_drew] at HO8
      have HO9 := Lib.hid (own_mono HO8.out (Nat.le_trans HW2.out HBr.out.size))
      have HB9 := Lib.hid (HBr.out.trans (HB8.out.mono HBr.out.size))
      clear HO8
      go_wp2_with fail
      go_roundw
      case rel => exact ⟨j + 1, by rw [HW1.out], HJ.out, Lib.hid (by rw [HNX.out]; exact HO9.out), HB9⟩
      case measure => rw [HW1.out]; exact meas9 HJ.out
    · have hdd : decide ((j : Int) < (s.size : Int)) = false := decide_eq_false (by omega)
      have hd2 : decide (j < s.size) = false := decide_eq_false hlt
      have HE : Hid (j = s.size) := Lib.hid (by omega)
      rw [HE.out] at HO
      have HLT := Lib.hid (fun i hi => en_lt HKK.out (bs s) s.size i hi)
      have HLE := Lib.hid (en_len HKK.out (bs s) s.size)
      have HAT := Lib.hid (en_last HRT.out k0 (bs s))
      rw [HLEN.out] at HAT
      obtain ⟨a5, cap5, rfl, hn5⟩ := HO.out.nums
      have HN5 := Lib.hid hn5
      generalize enN m k0 (bs s) s.size = l at *
      clear hn5 hlt
      go_wp2_with fail
      go_loopw [9] (fun i wr => ∃ n k : Nat, i = .int .i64 n ∧ n ≤ l.length ∧ Hid ((l.take n).any (fun i => m.la.getD i.toNat false) = false) ∧ wr = w7.drewN k) (fun i _ => ((l.length : Int) - intOf i).toNat)
      case atStart => exact ⟨0, 0, rfl, Nat.zero_le _, Lib.hid (by simp), by rw [World.drewN_zero]⟩
      case round =>
        obtain ⟨n, k, rfl, hn, HA, rfl⟩ := hrel
        have c3 := HX7.out.c3
        by_cases hnl : n < l.length
        · have hd4 : decide ((n : Int) < (l.length : Int)) = true := decide_eq_true (by omega)
          have hd5 : decide (n < l.length) = true := decide_eq_true hnl
          obtain ⟨b2, o2, rfl, hc3⟩ := HN5.out n hnl
          have HFT := Lib.hid (any_snoc (fun i : Int => m.la.getD i.toNat false) l 0 n hnl)
          have HR := Lib.hid (HLT.out _ (getD_mem (d := 0) hnl))
          have HIT : Hid (m.la.getD (l.getD n 0).toNat false = true → l.any (fun i => m.la.getD i.toNat false) = true) := Lib.hid (fun h => List.any_eq_true.2 ⟨_, getD_mem hnl, h⟩)
          have HW3 : Hid (wrap64 ((n : Int) + 1) = ((n + 1 : Nat) : Int)) := Lib.hid (nat_wrap (by have h1 := HLE.out; have h2 := HRT.out.many; omega))
          have HN := Lib.hid hnl
          have hnl2 : (n : Int) < (l.length : Int) := by omega
          clear hnl
          generalize l.getD n 0 = z at *
          obtain ⟨t, rfl⟩ := Int.eq_ofNat_of_zero_le HR.out.1
          have htl : t < m.la.length := by have h1 := HR.out; have h2 := HRT.out.lal; omega
          have htl2 : (t : Int) < (m.la.length : Int) := by omega
          obtain ⟨b3, o3, hoa, hc4⟩ := HM7.out.la t htl
          rw [hoa] at c3
          rw [show ((t : Int)).toNat = t from by omega] at HFT HIT
          clear hoa htl
          cases hb : m.la.getD t false with
          | true =>
            rw [hb] at hc4 HIT
            have HRR := Lib.hid (HAT.out.1 (HIT.out rfl))
            clear hb
            go_wp2_with fail
            go_quiet (fail)
            go_wp2_with fail
            go_ret
            exact ⟨⟨true, rfl, ⟨fun _ => HRR.out, fun _ => rfl⟩⟩, by rw [HBq.out]; exact HB3.out.trans ((HBr.out.trans ((below_drewN (below_drewN (Below.refl _ _) _) _).mono HBr.out.size)).mono (Nat.le_of_lt (Nat.lt_of_lt_of_le HG1.out HW2.out)))⟩
          | false =>
            rw [hb] at hc4 HFT
            have HA2 : Hid ((l.take (n + 1)).any (fun i => m.la.getD i.toNat false) = false) := Lib.hid (by rw [HFT.out, HA.out]; rfl)
            clear hb
            go_wp2_with fail
            go_quiet (fail)
            go_wp2_with fail
            go_roundw
            case rel => exact ⟨n + 1, _, by rw [HW3.out], HN.out, HA2, by first | rfl | rw [World.drewN_drewN]⟩
            case measure => rw [HW3.out]; exact meas8 HN.out
        · have hd4 : decide ((n : Int) < (l.length : Int)) = false := decide_eq_false (by omega)
          have hd5 : decide (n < l.length) = false := decide_eq_false hnl
          have HRR : Hid (¬ Gs m k0 (bs s)) := Lib.hid (fun hg => by have e := HA.out; rw [List.take_of_length_le (by omega), HAT.out.2 hg] at e; cases e)
          clear hnl
          go_wp2_with fail
          go_ret
          exact ⟨⟨false, rfl, ⟨fun h => (by cases h), fun h => absurd h HRR.out⟩⟩, by rw [HBq.out]; exact HB3.out.trans ((HBr.out.trans ((below_drewN (Below.refl _ _) _).mono HBr.out.size)).mono (Nat.le_of_lt (Nat.lt_of_lt_of_le HG1.out HW2.out)))⟩
end Fs
end Go.Proofs.YtghbgfkkdknmnaaDoor
namespace Go.Proofs.YtghbgfkkdknmnaaDoor
open Go.RowKit Sets Nf
namespace Fs
set_option maxHeartbeats 3200000 in
set_option maxRecDepth 100000 in
theorem has14_any (a : Option Addr) (cap : Nat) (k : Int) (l : List Int) (w : World) (h : NumsIn w a l) (hl : l.length ≤ 1000) :
    Calls Tryd.prog 35 #[.slice a l.length cap, .int .i64 k] w fun e w' => e = .returned (.bool (l.contains k)) ∧ w = w' := by
  have HN := Lib.hid h
  have HL := Lib.hid hl
  clear h hl
  go_enter Tryd.func35, Tryd.ntmps35
  go_wp2_with fail
  go_loopw [5] (fun i wr => ∃ j : Nat, i = .int .i64 j ∧ j ≤ l.length ∧ wr = w ∧ Hid ((l.take j).contains k = false)) (fun i _ => ((l.length : Int) - intOf i).toNat)
  case atStart => exact ⟨0, rfl, Nat.zero_le _, rfl, Lib.hid (by simp)⟩
  case round =>
    obtain ⟨j, rfl, hj, rfl, HI⟩ := hrel
    by_cases hlt : j < l.length
    · have hdd : decide ((j : Int) < (l.length : Int)) = true := decide_eq_true (by omega)
      have hd2 : decide (j < l.length) = true := decide_eq_true hlt
      obtain ⟨b, o, rfl, hc⟩ := HN.out j hlt
      have HM : Hid (l.getD j 0 ∈ l) := Lib.hid (getD_mem hlt)
      have HT : Hid (l.getD j 0 ≠ k → (l.take (j + 1)).contains k = false) := Lib.hid (fun hne => by
        rw [List.take_succ_eq_append_getElem hlt, Bool.eq_false_iff]
        intro hh
        rw [List.contains_iff_mem, List.mem_append, List.mem_singleton] at hh
        rw [List.getD_eq_getElem?_getD, List.getElem?_eq_getElem hlt] at hne
        rcases hh with hh | hh
        · have h3 := HI.out
          rw [Bool.eq_false_iff] at h3
          exact h3 (List.contains_iff_mem.2 hh)
        · exact hne hh.symm)
      have HW1 : Hid (wrap64 ((j : Int) + 1) = ((j + 1 : Nat) : Int)) := Lib.hid (nat_wrap (by have := HL.out; omega))
      have HJ := Lib.hid hlt
      clear hlt
      generalize l.getD j 0 = z at *
      by_cases hz : z = k
      · have hb : (z == k) = true := by rw [beq_iff_eq]; exact hz
        have HR : Hid (l.contains k = true) := Lib.hid (List.contains_iff_mem.2 (hz ▸ HM.out))
        clear hz
        go_wp2_with fail
        go_ret
        exact ⟨by rw [HR.out]; rfl, rfl⟩
      · have hb : (z == k) = false := by rw [beq_eq_false_iff_ne]; exact hz
        have HI2 := Lib.hid (HT.out hz)
        clear hz
        go_wp2_with fail
        go_roundw
        case rel => exact ⟨j + 1, by rw [HW1.out], HJ.out, by first | rfl | trivial, HI2⟩
        case measure => rw [HW1.out]; exact meas8 HJ.out
    · have hdd : decide ((j : Int) < (l.length : Int)) = false := decide_eq_false (by omega)
      have hd2 : decide (j < l.length) = false := decide_eq_false hlt
      have HR : Hid (l.contains k = false) := Lib.hid (by rw [← HI.out, List.take_of_length_le (by omega)])
      clear hlt
      go_wp2_with fail
      go_ret
      exact ⟨by rw [HR.out]; rfl, rfl⟩
end Fs
end Go.Proofs.YtghbgfkkdknmnaaDoor
namespace Go.Proofs.YtghbgfkkdknmnaaDoor
open Go.RowKit Sets Nf
namespace Fs
set_option maxHeartbeats 6400000 in
set_option maxRecDepth 100000 in
theorem meet14_any (S T : Nat) (w : World) :
    Calls Tryd.prog 34 #[.agg (setC S), .agg (setC T)] w fun e w' => (∃ b, e = .returned (.bool b) ∧ (b = true ↔ ∃ c, c < 256 ∧ S.testBit c = true ∧ T.testBit c = true)) ∧ Below w.heap.size w w' := by
  go_enter Tryd.func34, Tryd.ntmps34
  go_upto_region 1 with fail
  have HS := Lib.hid (SetB.new w S)
  have hal := (Below.refl w.heap.size w).alloc (Nat.le_refl _) (.cells (setC S) 41)
  have hal2 := (Below.refl (w.alloc (.cells (setC S) 41)).heap.size (w.alloc (.cells (setC S) 41))).alloc (Nat.le_refl _) (.cells (setC T) 41)
  have HT : Hid (SetB ((w.alloc (.cells (setC S) 41)).alloc (.cells (setC T) 41)) (w.heap.size + 1) T) := Lib.hid (by
    have h := SetB.new (w.alloc (.cells (setC S) 41)) T
    rw [show (w.alloc (.cells (setC S) 41)).heap.size = w.heap.size + 1 from by simp] at h
    exact h)
  have HS2 : Hid (((w.alloc (.cells (setC S) 41)).alloc (.cells (setC T) 41)).heap[w.heap.size]? = some (.cells (setC S) 41 (0, 0))) := Lib.hid ((hal2.block _ (by simp)).trans HS.out.row)
  have HB := Lib.hid (hal.trans (hal2.mono hal.size))
  clear hal hal2 HS
  generalize (w.alloc (.cells (setC S) 41)).alloc (.cells (setC T) 41) = w1 at *
  obtain ⟨s, hs⟩ : ∃ s, Hid (w.heap.size = s) := ⟨_, Lib.hid rfl⟩
  have HR2 : Hid (w1.heap[s]? = some (.cells (setC S) 41 (0, 0))) := Lib.hid (by rw [← hs.out]; exact HS2.out)
  have HT2 : Hid (w1.heap[s + 1]? = some (.cells (setC T) 41 (0, 0))) := Lib.hid (by rw [← hs.out]; exact HT.out.row)
  rw [hs.out]
  clear HS2 HT
  obtain ⟨s2, hs2⟩ : ∃ s2, Hid (s + 1 = s2) := ⟨_, Lib.hid rfl⟩
  rw [hs2.out] at HT2 ⊢
  clear hs2
  have HK : Hid (∀ W, Below w1.heap.size w1 W → (∀ q, q < 4 → W.cell? ⟨s, q, none⟩ = some (.int .u64 (wd S q))) ∧ (∀ q, q < 4 → W.cell? ⟨s2, q, none⟩ = some (.int .u64 (wd T q))) ∧ Below w.heap.size w W) := Lib.hid (fun W hW => by
    have h1 := (hW.block s (Array.getElem?_eq_some_iff.1 HR2.out).1).trans HR2.out
    have h2 := (hW.block s2 (Array.getElem?_eq_some_iff.1 HT2.out).1).trans HT2.out
    exact ⟨fun q hq => SetB.cell ⟨h1⟩ hq, fun q hq => SetB.cell ⟨h2⟩ hq, HB.out.trans (hW.mono HB.out.size)⟩)
  clear HR2 HT2 HB
  go_wp2_with fail
  go_loopw [5] (fun i wr => ∃ j : Nat, i = .int .i64 j ∧ j ≤ 256 ∧ Hid (Below w1.heap.size w1 wr) ∧ Hid (∀ c, c < j → ¬ (S.testBit c = true ∧ T.testBit c = true))) (fun i _ => (256 - intOf i).toNat)
  case atStart => exact ⟨0, rfl, Nat.zero_le _, Lib.hid (Below.refl _ _), Lib.hid (fun c hc => absurd hc (Nat.not_lt_zero _))⟩
  case round =>
    obtain ⟨j, rfl, hj, HB, HN⟩ := hrel
    generalize hwr : wr = w2 at *
    clear hwr wr
    by_cases hlt : j < 256
    · have hdd : decide ((j : Int) < 256) = true := decide_eq_true (by omega)
      have hd2 : decide (j < 256) = true := decide_eq_true hlt
      have HW1 : Hid (wrap64 ((j : Int) + 1) = ((j + 1 : Nat) : Int)) := Lib.hid (nat_wrap (by omega))
      have hu8 : IntKind.u8.wrap (j : Int) = (j : Int) := by unfold IntKind.wrap; simp [IntKind.signed, IntKind.bits]; omega
      have hu9 : (j : Int) % 256 = (j : Int) := by omega
      have HI1 := Lib.hid (inN_any S j w2 hlt)
      obtain ⟨hs1, -, -⟩ := HK.out _ HB.out
      have p0 := hs1 0 (by decide)
      have p1 := hs1 1 (by decide)
      have p2 := hs1 2 (by decide)
      have p3 := hs1 3 (by decide)
      have HJ := Lib.hid hlt
      have HI2 := Lib.hid (fun W => inN_any T j W hlt)
      clear hs1 hlt
      cases hb : S.testBit j with
      | false =>
        rw [hb] at HI1
        have HB0 := Lib.hid hb
        clear hb
        go_wp2_with (first
          | (go_at_call 44; refine HI1.out.mono ?_; rintro e w3 ⟨rfl, hb3⟩; have HB3 := Lib.hid (HB.out.trans (hb3.mono HB.out.size)); clear hb3))
        go_roundw
        case rel => exact ⟨j + 1, by first | rfl | (congr 1; omega), HJ.out, HB3, Lib.hid (fun c hc => by
          rcases Nat.lt_or_ge c j with h | h
          · exact HN.out c h
          · obtain rfl : c = j := by omega
            rw [HB0.out]; simp)⟩
        case measure => show ((256 : Int) - ((j : Int) + 1)).toNat < ((256 : Int) - (j : Int)).toNat; have := HJ.out; omega
      | true =>
        rw [hb] at HI1
        have HB0 := Lib.hid hb
        clear hb
        cases hc : T.testBit j with
        | false =>
          have HC0 := Lib.hid hc
          have HI3 := Lib.hid (fun W => hc ▸ HI2.out W)
          clear hc HI2
          go_wp2_with (first
            | (go_at_call 44; refine HI1.out.mono ?_; rintro e w3 ⟨rfl, hb3⟩; clear HI1; have HB3 := Lib.hid (HB.out.trans (hb3.mono HB.out.size)); clear hb3; have q0 := (HK.out _ HB3.out).2.1 0 (by decide); have q1 := (HK.out _ HB3.out).2.1 1 (by decide); have q2 := (HK.out _ HB3.out).2.1 2 (by decide); have q3 := (HK.out _ HB3.out).2.1 3 (by decide))
            | (go_at_call 44; refine (HI3.out _).mono ?_; rintro e w4 ⟨rfl, hb4⟩; have HB4 := Lib.hid (HB3.out.trans (hb4.mono HB3.out.size)); clear hb4))
          go_roundw
          case rel => exact ⟨j + 1, by first | rfl | (congr 1; omega), HJ.out, HB4, Lib.hid (fun c hc => by
            rcases Nat.lt_or_ge c j with h | h
            · exact HN.out c h
            · obtain rfl : c = j := by omega
              rw [HC0.out]; simp)⟩
          case measure => show ((256 : Int) - ((j : Int) + 1)).toNat < ((256 : Int) - (j : Int)).toNat; have := HJ.out; omega
        | true =>
          have HC0 := Lib.hid hc
          have HI3 := Lib.hid (fun W => hc ▸ HI2.out W)
          clear hc HI2
          go_wp2_with (first
            | (go_at_call 44; refine HI1.out.mono ?_; rintro e w3 ⟨rfl, hb3⟩; clear HI1; have HB3 := Lib.hid (HB.out.trans (hb3.mono HB.out.size)); clear hb3; have q0 := (HK.out _ HB3.out).2.1 0 (by decide); have q1 := (HK.out _ HB3.out).2.1 1 (by decide); have q2 := (HK.out _ HB3.out).2.1 2 (by decide); have q3 := (HK.out _ HB3.out).2.1 3 (by decide))
            | (go_at_call 44; refine (HI3.out _).mono ?_; rintro e w4 ⟨rfl, hb4⟩; have HB4 := Lib.hid (HB3.out.trans (hb4.mono HB3.out.size)); clear hb4))
          go_ret
          exact ⟨⟨true, rfl, ⟨fun _ => ⟨j, HJ.out, HB0.out, HC0.out⟩, fun _ => rfl⟩⟩, (HK.out _ HB4.out).2.2⟩
    · have hdd : decide ((j : Int) < 256) = false := decide_eq_false (by omega)
      have hd2 : decide (j < 256) = false := decide_eq_false hlt
      obtain rfl : j = 256 := by omega
      go_wp2_with fail
      go_ret
      exact ⟨⟨false, rfl, ⟨fun h => (by cases h), fun ⟨c, hc, h1, h2⟩ => absurd ⟨h1, h2⟩ (HN.out c hc)⟩⟩, (HK.out _ HB.out).2.2⟩
end Fs
end Go.Proofs.YtghbgfkkdknmnaaDoor
namespace Go.Proofs.YtghbgfkkdknmnaaDoor
open Go.RowKit Sets Nf
namespace Fs
theorem take_same {L M : List Nat} {n : Nat} (hn : n < L.length) (hm : n < M.length) (h : L.take n = M.take n) (he : L.getD n 0 = M.getD n 0) : L.take (n + 1) = M.take (n + 1) := by
  rw [List.take_succ_eq_append_getElem hn, List.take_succ_eq_append_getElem hm, h]
  congr 2
  rw [List.getD_eq_getElem?_getD, List.getD_eq_getElem?_getD, List.getElem?_eq_getElem hn, List.getElem?_eq_getElem hm] at he
  exact he
set_option maxHeartbeats 6400000 in
set_option maxRecDepth 100000 in
theorem marked14_any (a b : Value) (L M : List Nat) (w : World) (h1 : BytesAt w a L) (h2 : BytesAt w b M) (hl : L.length ≤ 1000) :
    Calls Tryd.prog 13 #[a, b] w fun e w' => e = .returned (.bool (decide (L = M))) ∧ Below w.heap.size w w' := by
  obtain ⟨-, -, a1, c1, rfl, hc1⟩ := h1
  obtain ⟨-, -, a2, c2, rfl, hc2⟩ := h2
  have HC1 := Lib.hid hc1
  have HC2 := Lib.hid hc2
  have HL := Lib.hid hl
  clear hc1 hc2 hl
  go_enter Tryd.func13, Tryd.ntmps13
  by_cases hlen : L.length = M.length
  · have hne : ((L.length : Int) != (M.length : Int)) = false := by rw [hlen]; simp
    have HLE := Lib.hid hlen
    rw [hlen] at hne ⊢
    clear hlen
    go_wp2_with fail
    go_loopw [5] (fun i wr => ∃ n k : Nat, i = .int .i64 n ∧ n ≤ M.length ∧ Hid (L.take n = M.take n) ∧ wr = w.drewN k) (fun i _ => ((M.length : Int) - intOf i).toNat)
    case atStart => exact ⟨0, 0, rfl, Nat.zero_le _, Lib.hid (by simp), by rw [World.drewN_zero]⟩
    case round =>
      obtain ⟨n, k, rfl, hn, HE, rfl⟩ := hrel
      by_cases hnl : n < M.length
      · have hd4 : decide ((n : Int) < (M.length : Int)) = true := decide_eq_true (by omega)
        have hd5 : decide (n < M.length) = true := decide_eq_true hnl
        have hnl2 : (n : Int) < (M.length : Int) := by omega
        have hnl3 : n < L.length := by rw [HLE.out]; exact hnl
        obtain ⟨b1, o1, rfl, hx1⟩ := HC1.out n hnl3
        obtain ⟨b2, o2, rfl, hx2⟩ := HC2.out n hnl
        have HW3 : Hid (wrap64 ((n : Int) + 1) = ((n + 1 : Nat) : Int)) := Lib.hid (nat_wrap (by have h1 := HL.out; have h2 := HLE.out; omega))
        have HTS := Lib.hid (take_same (L := L) (M := M) hnl3 hnl HE.out)
        have HNE : Hid (L.getD n 0 ≠ M.getD n 0 → decide (L = M) = false) := Lib.hid (fun h => decide_eq_false (fun e => h (by rw [e])))
        have HN := Lib.hid hnl
        clear hnl hnl3
        generalize L.getD n 0 = y at *
        generalize M.getD n 0 = z at *
        by_cases hyz : y = z
        · have hb : ((y : Int) != (z : Int)) = false := by rw [hyz]; simp
          have hb2 : (y == z) = true := by rw [beq_iff_eq]; exact hyz
          have HT2 := Lib.hid (HTS.out hyz)
          subst hyz
          go_wp2_with fail
          go_quiet (fail)
          go_wp2_with fail
          go_roundw
          case rel => exact ⟨n + 1, _, by rw [HW3.out], HN.out, HT2, by first | rfl | rw [World.drewN_drewN]⟩
          case measure => rw [HW3.out]; exact meas9 HN.out
        · have hb : ((y : Int) != (z : Int)) = true := by rw [bne_iff_ne]; omega
          have hb2 : (y == z) = false := by rw [beq_eq_false_iff_ne]; exact hyz
          have HRR := Lib.hid (HNE.out hyz)
          go_wp2_with fail
          go_quiet (fail)
          go_wp2_with fail
          go_ret
          exact ⟨by rw [HRR.out]; rfl, below_drewN (below_drewN (Below.refl _ _) _) _⟩
      · have hd4 : decide ((n : Int) < (M.length : Int)) = false := decide_eq_false (by omega)
        have hd5 : decide (n < M.length) = false := decide_eq_false hnl
        have HRR : Hid (decide (L = M) = true) := Lib.hid (decide_eq_true (by
          have e := HE.out
          rwa [List.take_of_length_le (by rw [HLE.out]; omega), List.take_of_length_le (by omega)] at e))
        clear hnl
        go_wp2_with fail
        go_ret
        exact ⟨by rw [HRR.out]; rfl, below_drewN (Below.refl _ _) _⟩
  · have hne : ((L.length : Int) != (M.length : Int)) = true := by rw [bne_iff_ne]; omega
    have HRR : Hid (decide (L = M) = false) := Lib.hid (decide_eq_false (fun e => hlen (by rw [e])))
    go_wp2_with fail
    go_ret
    exact ⟨by rw [HRR.out]; rfl, Below.refl _ _⟩
end Fs
end Go.Proofs.YtghbgfkkdknmnaaDoor
