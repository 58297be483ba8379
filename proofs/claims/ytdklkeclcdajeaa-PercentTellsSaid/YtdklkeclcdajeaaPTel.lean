/- PercentTells, walked. -/
import Derived.Test.YtdklkeclcdajeaaPJoi
import Derived.Test.YtdklkeclcdajeaaVal
import Derived.Test.YtdklkeclcdajeaaREnc
import Derived.Test.YtdklkeclcdajeaaMem
import Derived.Test.YtdklkeclcdajeaaMix
namespace Go.Proofs.Ytdklkeclcdajeaa
open Go.RowKit Pct Sets
theorem refdec_two (s : ByteArray) (w : World) (hs : s.size ≤ 1000000) :
    Calls Try.prog 20 #[.string s] w fun e w' => e = .returned (.tuple #[.string (decS (dec (tx s) 0)), .bool (dec (tx s) 0).isSome]) ∧ Below w.heap.size w w' := by rw [← decV_two]; exact refdec_any s w hs
set_option maxHeartbeats 3200000 in
set_option maxRecDepth 100000 in
theorem ptells_any (s : ByteArray) (S : Nat) (w : World) :
    Calls Try.prog 5 #[.string s, .agg #[.int .u64 (wd S 0), .int .u64 (wd S 1), .int .u64 (wd S 2), .int .u64 (wd S 3)]] w fun e w' => e = .returned (.bool true) ∧ Below w.heap.size w w' := by
  have hS0 := SetAt.new w S 30
  have hb0 : Below w.heap.size w (w.alloc (.cells #[.int .u64 (wd S 0), .int .u64 (wd S 1), .int .u64 (wd S 2), .int .u64 (wd S 3)] 30)) := (Below.refl _ _).alloc (Nat.le_refl _) _
  have HB0 := Lib.hid hb0
  have HS0 := Lib.hid hS0
  clear hb0 hS0
  go_enter Try.func5, Try.ntmps5
  go_upto_if 11 with fail
  go_cut [0] from 9 (fun v wr => wr = w.alloc (.cells #[.int .u64 (wd S 0), .int .u64 (wd S 1), .int .u64 (wd S 2), .int .u64 (wd S 3)] 30) ∧ ∃ q : ByteArray, v = .string q ∧ q.size ≤ 5000)
  case first =>
    by_cases hl : 5000 < s.size
    · have hx := size_extract0 s 5000
      have hd : decide ((5000 : Int) < (s.size : Int)) = true := decide_eq_true (by omega)
      have hd' : decide (5000 < s.size) = true := decide_eq_true (by omega)
      go_wp2_with fail
      go_meet
      case rel => exact ⟨rfl, _, rfl, hx⟩
    · have hd : decide ((5000 : Int) < (s.size : Int)) = false := decide_eq_false (by omega)
      have hd' : decide (5000 < s.size) = false := decide_eq_false (by omega)
      go_wp2_with fail
      go_meet
      case rel => exact ⟨rfl, _, rfl, by omega⟩
  case rest =>
    obtain ⟨hwc, s', rfl, hs⟩ := hcut
    have hb0 := HB0.out
    have hS0 := HS0.out
    rw [← hwc] at hb0 hS0
    clear hwc HB0 HS0
    have DA := fun w => decode_two s' w (by omega)
    have RA := fun w => refdec_two s' w (by omega)
    have VA := fun w => valid_any s' w (by omega)
    have VR := fun w => refvalid_any s' w (by omega)
    have EA := fun w => encode_any s' S w (by omega)
    have ER := fun w => refenc_any s' S w (by omega)
    have UA := fun w => upper_any s' w (by omega)
    have UR := fun w => refupper_any s' w (by omega)
    have MA := fun w => mem_any S w
    generalize dec (tx s') 0 = D at *
    generalize valid (tx s') = V at *
    generalize str (enc S (tx s')) = E at *
    generalize str (up (tx s') 0) = U at *
    generalize decS D = q at *
    generalize D.isSome = z at *
    obtain ⟨A, hA⟩ : ∃ A, A = w.heap.size := ⟨_, rfl⟩
    rw [← hA] at hS0
    go_wp2_with fail
    refine (DA _).mono ?_
    rintro e w1 ⟨rfl, hb1⟩
    go_wp2_with fail
    refine (RA _).mono ?_
    rintro e w2 ⟨rfl, hb2⟩
    have hb3 := hb1.trans (hb2.mono hb1.size)
    have hS := hS0.stay hb3
    have hbw := hb0.trans (hb3.mono hb0.size)
    have HS := Lib.hid hS
    have HW := Lib.hid hbw
    have HA := Lib.hid hA
    clear hb1 hb2 hb3 hS hbw hS0 hb0 DA RA
    have hV : (V == V) = true := by simp
    have hq : (q.toList == q.toList) = true := by simp
    have hz : (z == z) = true := by simp
    have hE : (E.toList == E.toList) = true := by simp
    have hU : (U.toList == U.toList) = true := by simp
    go_wp2_with fail
    rw [← hA]
    clear hA
    refine region_mix [(false, 0), (false, 2), (true, 1), (true, 3), (false, 4), (false, 5), (false, 6), (false, 7), (false, 8), (false, 9), (false, 10), (false, 11), (false, 12), (false, 13), (false, 14), (false, 15), (false, 16), (false, 17), (false, 19), (false, 20), (true, 18), (true, 21), (true, 22), (false, 23), (false, 24), (false, 25), (false, 26), (false, 28), (true, 27), (true, 29), (false, 30), (false, 31), (false, 32), (true, 33), (false, 34)] (fun w' => Below w2.heap.size w2 w') (by kernel_rfl) (by kernel_rfl) ((Below.refl _ _).drew) ?_
    simp only [planOps, List.map_cons, List.map_nil, List.getD_cons_zero, List.getD_cons_succ, List.length_cons, List.length_nil, List.drop_succ_cons, List.drop_zero]
    refine mix_seg (seg := [_, _]) rfl ((Below.refl _ _).drew) ?_
    intro ι hι F hF
    have a0 := fun n => ((hF n).cell HS.out.lt).trans HS.out.c0
    have a1 := fun n => ((hF n).cell HS.out.lt).trans HS.out.c1
    have a2 := fun n => ((hF n).cell HS.out.lt).trans HS.out.c2
    have a3 := fun n => ((hF n).cell HS.out.lt).trans HS.out.c3
    repeat (first | (go_big_quiet_step (fail)))
    refine wpQuiet_nil ?_
    clear a0 a1 a2 a3 hF hι F
    refine mix_eff (fun K hK => ?_)
    go_wp2_with (go_at_call 11; refine (VA _).mono ?_; rintro e wx1 ⟨rfl, rfl⟩)
    refine mix_on hK ((Below.refl _ _).drew) ?_
    clear hK K
    refine mix_eff (fun K hK => ?_)
    go_wp2_with (go_at_call 21; refine (VR _).mono ?_; rintro e wx3 ⟨rfl, rfl⟩)
    refine mix_on hK ((Below.refl _ _).drew) ?_
    clear hK K
    refine mix_seg (seg := [_, _, _, _, _, _, _, _, _, _, _, _, _, _, _, _]) rfl ((Below.refl _ _).drew) ?_
    intro ι hι F hF
    have a0 := fun n => ((hF n).cell HS.out.lt).trans HS.out.c0
    have a1 := fun n => ((hF n).cell HS.out.lt).trans HS.out.c1
    have a2 := fun n => ((hF n).cell HS.out.lt).trans HS.out.c2
    have a3 := fun n => ((hF n).cell HS.out.lt).trans HS.out.c3
    repeat (first | (go_big_quiet_step (fail)))
    refine wpQuiet_nil ?_
    clear a0 a1 a2 a3 hF hι F
    refine mix_eff (fun K hK => ?_)
    go_wp2_with (go_at_call 12; refine (EA _).mono ?_; rintro e wx18 ⟨rfl, hc18⟩)
    have hd18 : Below w2.heap.size w2 wx18 := (((Below.refl w2.heap.size w2).drew)).trans (hc18.mono (((Below.refl w2.heap.size w2).drew)).size)
    refine mix_on hK hd18 ?_
    clear hK K
    refine mix_eff (fun K hK => ?_)
    go_wp2_with (go_at_call 23; refine (MA _).mono ?_; rintro e wx21 ⟨rfl, hc21⟩)
    have hd21 : Below w2.heap.size w2 wx21 := (hd18).trans (hc21.mono (hd18).size)
    refine mix_on hK hd21 ?_
    clear hK K
    refine mix_eff (fun K hK => ?_)
    go_wp2_with (go_at_call 22; refine (ER _).mono ?_; rintro e wx22 ⟨rfl, hc22⟩)
    have hd22 : Below w2.heap.size w2 wx22 := (hd21).trans (hc22.mono (hd21).size)
    refine mix_on hK hd22 ?_
    clear hK K
    refine mix_seg (seg := [_, _, _, _, _]) rfl hd22 ?_
    intro ι hι F hF
    have a0 := fun n => ((hF n).cell HS.out.lt).trans HS.out.c0
    have a1 := fun n => ((hF n).cell HS.out.lt).trans HS.out.c1
    have a2 := fun n => ((hF n).cell HS.out.lt).trans HS.out.c2
    have a3 := fun n => ((hF n).cell HS.out.lt).trans HS.out.c3
    repeat (first | (go_big_quiet_step (fail)))
    refine wpQuiet_nil ?_
    clear a0 a1 a2 a3 hF hι F
    refine mix_eff (fun K hK => ?_)
    go_wp2_with (go_at_call 24; refine (UA _).mono ?_; rintro e wx27 ⟨rfl, hc27⟩)
    have hd27 : Below w2.heap.size w2 wx27 := (hd22).trans (hc27.mono (hd22).size)
    refine mix_on hK hd27 ?_
    clear hK K
    refine mix_eff (fun K hK => ?_)
    go_wp2_with (go_at_call 25; refine (UR _).mono ?_; rintro e wx29 ⟨rfl, hc29⟩)
    have hd29 : Below w2.heap.size w2 wx29 := (hd27).trans (hc29.mono (hd27).size)
    refine mix_on hK hd29 ?_
    clear hK K
    refine mix_seg (seg := [_, _, _]) rfl hd29 ?_
    intro ι hι F hF
    have a0 := fun n => ((hF n).cell HS.out.lt).trans HS.out.c0
    have a1 := fun n => ((hF n).cell HS.out.lt).trans HS.out.c1
    have a2 := fun n => ((hF n).cell HS.out.lt).trans HS.out.c2
    have a3 := fun n => ((hF n).cell HS.out.lt).trans HS.out.c3
    repeat (first | (go_big_quiet_step (fail)))
    refine wpQuiet_nil ?_
    clear a0 a1 a2 a3 hF hι F
    refine mix_eff (fun K hK => ?_)
    go_wp2_with (go_at_call 16; refine (awake_any _).mono ?_; rintro e wx33 ⟨rfl, hc33⟩)
    have hd33 : Below w2.heap.size w2 wx33 := (hd29).trans (hc33.mono (hd29).size)
    refine mix_on hK hd33 ?_
    clear hK K
    refine mix_seg (seg := [_]) (rest := []) rfl hd33 ?_
    intro ι hι F hF
    have a0 := fun n => ((hF n).cell HS.out.lt).trans HS.out.c0
    have a1 := fun n => ((hF n).cell HS.out.lt).trans HS.out.c1
    have a2 := fun n => ((hF n).cell HS.out.lt).trans HS.out.c2
    have a3 := fun n => ((hF n).cell HS.out.lt).trans HS.out.c3
    repeat (first | (go_big_quiet_step (fail)))
    refine wpQuiet_nil ?_
    clear a0 a1 a2 a3 hF hι F
    show wpList _ _ _ _ _ _
    go_wp2
    refine NoPanic.normal ?_
    go_wp2_with fail
    go_ret
    exact ⟨rfl, HW.out.trans (hd33.mono HW.out.size)⟩
end Go.Proofs.Ytdklkeclcdajeaa
