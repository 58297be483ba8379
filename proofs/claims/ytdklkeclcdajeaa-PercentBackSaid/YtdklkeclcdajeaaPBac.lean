/- PercentBack, walked. -/
import Derived.Test.YtdklkeclcdajeaaPJoi
import Derived.Test.YtdklkeclcdajeaaVal
import Derived.Test.YtdklkeclcdajeaaMix
namespace Go.Proofs.Ytdklkeclcdajeaa
open Go.RowKit Pct Sets
theorem back_mem (S : Nat) (l : List UInt8) (k : Nat) (h : k < (enc S l).length) : S.testBit ((enc S l).getD k 0).toNat = true ∨ (enc S l).getD k 0 = 37 ∨ (val ((enc S l).getD k 0).toNat).isSome = true := by
  rw [List.getD_eq_getElem?_getD, List.getElem?_eq_getElem h]
  exact enc_mem S l _ (List.getElem_mem h)
theorem has_is4 (S c : Nat) (b : Bool) (w : World) (h : c < 256) (hb : S.testBit c = b) :
    Calls Try.prog 19 #[.agg #[.int .u64 (wd S 0), .int .u64 (wd S 1), .int .u64 (wd S 2), .int .u64 (wd S 3)], .int .u8 (c : Int)] w fun e w' =>
      e = .returned (.bool b) ∧ Below w.heap.size w w' := by
  rw [← hb]; have := has_any S (c : Int) w (by omega) (by omega); rw [Int.toNat_natCast] at this; exact this
set_option maxHeartbeats 6400000 in
set_option maxRecDepth 100000 in
theorem pback_any (s t : ByteArray) (S : Nat) (w : World) :
    Calls Try.prog 6 #[.string s, .string t, .agg #[.int .u64 (wd S 0), .int .u64 (wd S 1), .int .u64 (wd S 2), .int .u64 (wd S 3)]] w fun e w' => e = .returned (.bool true) ∧ Below w.heap.size w w' := by
  have hS0 := SetAt.new w S 30
  have hb0 : Below w.heap.size w (w.alloc (.cells #[.int .u64 (wd S 0), .int .u64 (wd S 1), .int .u64 (wd S 2), .int .u64 (wd S 3)] 30)) := (Below.refl _ _).alloc (Nat.le_refl _) _
  have HB0 := Lib.hid hb0
  have HS0 := Lib.hid hS0
  clear hb0 hS0
  go_enter Try.func6, Try.ntmps6
  go_upto_if 13 with fail
  go_cut [0] from 11 (fun v wr => wr = w.alloc (.cells #[.int .u64 (wd S 0), .int .u64 (wd S 1), .int .u64 (wd S 2), .int .u64 (wd S 3)] 30) ∧ ∃ q : ByteArray, v = .string q ∧ q.size ≤ 3000)
  case first =>
    by_cases hl : 3000 < s.size
    · have hx := size_extract0 s 3000
      have hd : decide ((3000 : Int) < (s.size : Int)) = true := decide_eq_true (by omega)
      have hd' : decide (3000 < s.size) = true := decide_eq_true (by omega)
      go_wp2_with fail
      go_meet
      case rel => exact ⟨rfl, _, rfl, hx⟩
    · have hd : decide ((3000 : Int) < (s.size : Int)) = false := decide_eq_false (by omega)
      have hd' : decide (3000 < s.size) = false := decide_eq_false (by omega)
      go_wp2_with fail
      go_meet
      case rel => exact ⟨rfl, _, rfl, by omega⟩
  case rest =>
  obtain ⟨hwc, s', rfl, hs⟩ := hcut
  rw [← hwc] at HB0 HS0
  clear hwc
  generalize wc = w0 at *
  go_upto_if 18 with fail
  go_cut [1] from 11 (fun v wr => wr = w0 ∧ ∃ q : ByteArray, v = .string q ∧ q.size ≤ 3000)
  case first =>
    by_cases hl : 3000 < t.size
    · have hx := size_extract0 t 3000
      have hd : decide ((3000 : Int) < (t.size : Int)) = true := decide_eq_true (by omega)
      have hd' : decide (3000 < t.size) = true := decide_eq_true (by omega)
      go_wp2_with fail
      go_meet
      case rel => exact ⟨rfl, _, rfl, hx⟩
    · have hd : decide ((3000 : Int) < (t.size : Int)) = false := decide_eq_false (by omega)
      have hd' : decide (3000 < t.size) = false := decide_eq_false (by omega)
      go_wp2_with fail
      go_meet
      case rel => exact ⟨rfl, _, rfl, by omega⟩
  case rest =>
  obtain ⟨rfl, t', rfl, ht⟩ := hcut
  have hS0 := HS0.out
  have hb0 := HB0.out
  clear HS0 HB0
  have le := enc_len S (tx s')
  have lf := enc_len S (tx t')
  rw [← size_tx] at le lf
  have hst : (s' ++ t').size ≤ 6000 := by rw [ByteArray.size_append]; omega
  have EA := fun w => encode_any s' S w (by omega)
  have EB := fun w => encode_any t' S w (by omega)
  have EC := fun w => encode_any (s' ++ t') S w (by omega)
  have heq : ((str (enc S (tx (s' ++ t')))).toList == (str (enc S (tx s')) ++ str (enc S (tx t'))).toList) = true := by
    rw [toList_tx, toList_tx, tx_append, tx_append, enc_app]; simp [tx_str]
  have hes : (str (enc S (tx s'))).size = (enc S (tx s')).length := size_str _
  have hfs : (str (enc S (tx t'))).size = (enc S (tx t')).length := size_str _
  have DA := fun w => decode_is (str (enc S (tx s'))) (some (tx s')) (dec_enc S (tx s')) w (by omega)
  have VA := fun w => valid_is (str (enc S (tx s'))) true (enc_valid S (tx s')) w (by omega)
  have UA := fun w => upper_is (str (enc S (tx s'))) (enc S (tx s')) (up_enc S (tx s')) w (by omega)
  have HM : Hid (∀ k, k < (str (enc S (tx s'))).size → S.testBit ((tx (str (enc S (tx s')))).getD k 0).toNat = true ∨ (tx (str (enc S (tx s')))).getD k 0 = 37 ∨ (val ((tx (str (enc S (tx s')))).getD k 0).toNat).isSome = true) := Lib.hid (fun k hk => back_mem S (tx s') k (by rw [← hes]; exact hk))
  simp only [decV, str_tx] at DA
  generalize str (enc S (tx (s' ++ t'))) = EF at *
  generalize str (enc S (tx s')) = E at *
  generalize str (enc S (tx t')) = F at *
  have hE1 : s'.size ≤ E.size := by omega
  have hE2 : E.size ≤ 3 * s'.size := by omega
  have hF2 : F.size ≤ 9000 := by omega
  clear hes hfs le lf hst
  have hne : (!(EF.toList == (E ++ F).toList)) = false := by rw [heq]; rfl
  have hss : (!(s'.toList == s'.toList)) = false := by simp
  have hEE : (E.toList == E.toList) = true := by simp
  have n1 := no_over s' t' (by omega)
  have n2 := no_over E F (by omega)
  obtain ⟨A, hA⟩ : ∃ A, A = w.heap.size := ⟨_, rfl⟩
  rw [← hA] at hS0
  rw [← hA]
  have HA := Lib.hid hA
  clear hA
  have c0 := hS0.c0; have c1 := hS0.c1; have c2 := hS0.c2; have c3 := hS0.c3
  go_wp2_with fail
  refine (EA _).mono ?_
  rintro e w1 ⟨rfl, hb1⟩
  clear c0 c1 c2 c3
  go_wp2_with fail
  refine (DA _).mono ?_
  rintro e w2 ⟨rfl, hb2⟩
  replace hb2 := hb1.trans (hb2.mono hb1.size)
  have HS := Lib.hid (hS0.stay hb2)
  have HW := Lib.hid (hb0.trans (hb2.mono hb0.size))
  clear hb1 hb2 hS0 hb0
  go_wp2_with fail
  refine region_mix [(false, 0), (false, 1), (false, 2), (false, 3), (false, 4), (false, 5), (false, 6), (false, 7), (false, 8), (true, 9), (false, 10), (false, 11), (false, 12), (false, 13), (false, 14), (false, 15), (false, 16), (false, 18), (false, 19), (false, 20), (true, 17), (true, 21), (false, 22), (false, 23)] (fun w' => Below w2.heap.size w2 w') (by kernel_rfl) (by kernel_rfl) ((Below.refl _ _).drew) ?_
  simp only [planOps, List.map_cons, List.map_nil, List.getD_cons_zero, List.getD_cons_succ, List.length_cons, List.length_nil, List.drop_succ_cons, List.drop_zero]
  refine mix_seg (seg := [_, _, _, _, _, _, _, _, _]) rfl ((Below.refl _ _).drew) ?_
  intro ι hι F hF
  have a0 := fun n => ((hF n).cell HS.out.lt).trans HS.out.c0
  have a1 := fun n => ((hF n).cell HS.out.lt).trans HS.out.c1
  have a2 := fun n => ((hF n).cell HS.out.lt).trans HS.out.c2
  have a3 := fun n => ((hF n).cell HS.out.lt).trans HS.out.c3
  repeat (first | (go_big_quiet_step (fail)))
  refine wpQuiet_nil ?_
  clear a0 a1 a2 a3 hF hι F
  refine mix_eff (fun K hK => ?_)
  go_wp2_with (go_at_call 11; refine (VA _).mono ?_; rintro e wx9 ⟨rfl, rfl⟩)
  refine mix_on hK ((Below.refl _ _).drew) ?_
  clear hK K
  refine mix_seg (seg := [_, _, _, _, _, _, _, _, _, _]) rfl ((Below.refl _ _).drew) ?_
  intro ι hι F hF
  have a0 := fun n => ((hF n).cell HS.out.lt).trans HS.out.c0
  have a1 := fun n => ((hF n).cell HS.out.lt).trans HS.out.c1
  have a2 := fun n => ((hF n).cell HS.out.lt).trans HS.out.c2
  have a3 := fun n => ((hF n).cell HS.out.lt).trans HS.out.c3
  repeat (first | (go_big_quiet_step (fail)))
  refine wpQuiet_nil ?_
  clear a0 a1 a2 a3 hF hι F
  refine mix_eff (fun K hK => ?_)
  go_wp2_with (go_at_call 12; refine (EC _).mono ?_; rintro e wx17 ⟨rfl, hc17⟩)
  have hd17 : Below w2.heap.size w2 wx17 := (((Below.refl w2.heap.size w2).drew)).trans (hc17.mono (((Below.refl w2.heap.size w2).drew)).size)
  refine mix_on hK hd17 ?_
  clear hK K
  refine mix_eff (fun K hK => ?_)
  go_wp2_with (go_at_call 12; refine (EB _).mono ?_; rintro e wx21 ⟨rfl, hc21⟩)
  have hd21 : Below w2.heap.size w2 wx21 := (hd17).trans (hc21.mono (hd17).size)
  refine mix_on hK hd21 ?_
  clear hK K
  refine mix_seg (seg := [_, _]) (rest := []) rfl hd21 ?_
  intro ι hι F hF
  have a0 := fun n => ((hF n).cell HS.out.lt).trans HS.out.c0
  have a1 := fun n => ((hF n).cell HS.out.lt).trans HS.out.c1
  have a2 := fun n => ((hF n).cell HS.out.lt).trans HS.out.c2
  have a3 := fun n => ((hF n).cell HS.out.lt).trans HS.out.c3
  repeat (first | (go_big_quiet_step (fail)))
  refine wpQuiet_nil ?_
  clear a0 a1 a2 a3 hF hι F
  show wpList _ _ _ _ _ _
  go_wp2
  refine NoPanic.normal ?_
  have hS3 := HS.out.stay hd21
  have hb3 := HW.out.trans (hd21.mono HW.out.size)
  clear EA EB EC DA VA hc17 hc21 hd17 hd21 HS HW
  go_wp2_with fail
  go_loopw [10] (fun i wr => ∃ k : Nat, k ≤ E.size ∧ i = .int .i64 k ∧ SetAt wr A S ∧ Below w.heap.size w wr) (fun i _ => (E.size - intOf i).toNat)
  case atStart => exact ⟨0, by omega, rfl, hS3, hb3⟩
  case round =>
    obtain ⟨k, hk, rfl, hS, hb⟩ := hrel
    by_cases hlt : k < E.size
    · have hd : decide ((k : Int) < (E.size : Int)) = true := decide_eq_true (by omega)
      have ix := index_tx E k k rfl hlt
      have hm := HM.out k hlt
      have HS := Lib.hid hS
      have HW := Lib.hid hb
      clear hS hb
      generalize (tx E).getD k 0 = c at *
      have hc := u8_lt c
      have HC := fun b hb w => has_is4 S c.toNat b w hc hb
      have HX := fun w => hex_any c.toNat w hc
      cases hbit : S.testBit c.toNat with
      | true =>
        have HT := fun w => HC true hbit w
        clear hbit hm HC HX
        go_wp2_with fail
        refine region_mix [(false, 0), (false, 1), (false, 2), (false, 3), (true, 4), (false, 5), (false, 6), (false, 7), (false, 8), (false, 9), (false, 10), (false, 11), (false, 12), (false, 13), (false, 14), (false, 15), (true, 16), (false, 17)] (fun w' => Below wr.heap.size wr w') (by kernel_rfl) (by kernel_rfl) ((Below.refl _ _).drew) ?_
        simp only [planOps, List.map_cons, List.map_nil, List.getD_cons_zero, List.getD_cons_succ, List.length_cons, List.length_nil, List.drop_succ_cons, List.drop_zero]
        refine mix_seg (seg := [_, _, _, _]) rfl ((Below.refl _ _).drew) ?_
        intro ι hι F hF
        have a0 := fun n => ((hF n).cell HS.out.lt).trans HS.out.c0
        have a1 := fun n => ((hF n).cell HS.out.lt).trans HS.out.c1
        have a2 := fun n => ((hF n).cell HS.out.lt).trans HS.out.c2
        have a3 := fun n => ((hF n).cell HS.out.lt).trans HS.out.c3
        repeat (first | (go_big_quiet_step (fail)))
        refine wpQuiet_nil ?_
        clear a0 a1 a2 a3 hF hι F
        refine mix_eff (fun K hK => ?_)
        go_wp2_with (go_at_call 19; refine (HT _).mono ?_; rintro e wh ⟨rfl, hch⟩)
        have hdh : Below wr.heap.size wr wh := (((Below.refl wr.heap.size wr).drew)).trans (hch.mono (((Below.refl wr.heap.size wr).drew)).size)
        refine mix_on hK hdh ?_
        clear hK K
        refine mix_seg (seg := [_, _, _, _, _, _, _, _, _, _, _]) rfl hdh ?_
        intro ι hι F hF
        have a0 := fun n => ((hF n).cell HS.out.lt).trans HS.out.c0
        have a1 := fun n => ((hF n).cell HS.out.lt).trans HS.out.c1
        have a2 := fun n => ((hF n).cell HS.out.lt).trans HS.out.c2
        have a3 := fun n => ((hF n).cell HS.out.lt).trans HS.out.c3
        repeat (first | (go_big_quiet_step (fail)))
        refine wpQuiet_nil ?_
        clear a0 a1 a2 a3 hF hι F
        refine mix_eff (fun K hK => ?_)
        go_wp2
        refine mix_on hK hdh ?_
        clear hK K
        refine mix_seg (seg := [_]) (rest := []) rfl hdh ?_
        intro ι hι F hF
        have a0 := fun n => ((hF n).cell HS.out.lt).trans HS.out.c0
        have a1 := fun n => ((hF n).cell HS.out.lt).trans HS.out.c1
        have a2 := fun n => ((hF n).cell HS.out.lt).trans HS.out.c2
        have a3 := fun n => ((hF n).cell HS.out.lt).trans HS.out.c3
        repeat (first | (go_big_quiet_step (fail)))
        refine wpQuiet_nil ?_
        clear a0 a1 a2 a3 hF hι F
        show wpList _ _ _ _ _ _
        have hS4 := HS.out.stay hdh
        have hb4 := HW.out.trans (hdh.mono HW.out.size)
        go_wp2
        refine NoPanic.normal ?_
        go_wp2_with fail
        go_roundw
        case rel => exact ⟨k + 1, by omega, by go_num, hS4, hb4⟩
        case measure => simp [intOf]; omega
      | false =>
        have HT := fun w => HC false hbit w
        by_cases h37 : c = 37
        · have b37 : ((c.toNat : Int) != 37) = false := by rw [h37]; rfl
          clear hbit hm HC HX h37
          go_wp2_with fail
          refine region_mix [(false, 0), (false, 1), (false, 2), (false, 3), (true, 4), (false, 5), (false, 6), (false, 7), (false, 8), (false, 9), (false, 10), (false, 11), (false, 12), (false, 13), (false, 14), (false, 15), (true, 16), (false, 17)] (fun w' => Below wr.heap.size wr w') (by kernel_rfl) (by kernel_rfl) ((Below.refl _ _).drew) ?_
          simp only [planOps, List.map_cons, List.map_nil, List.getD_cons_zero, List.getD_cons_succ, List.length_cons, List.length_nil, List.drop_succ_cons, List.drop_zero]
          refine mix_seg (seg := [_, _, _, _]) rfl ((Below.refl _ _).drew) ?_
          intro ι hι F hF
          have a0 := fun n => ((hF n).cell HS.out.lt).trans HS.out.c0
          have a1 := fun n => ((hF n).cell HS.out.lt).trans HS.out.c1
          have a2 := fun n => ((hF n).cell HS.out.lt).trans HS.out.c2
          have a3 := fun n => ((hF n).cell HS.out.lt).trans HS.out.c3
          repeat (first | (go_big_quiet_step (fail)))
          refine wpQuiet_nil ?_
          clear a0 a1 a2 a3 hF hι F
          refine mix_eff (fun K hK => ?_)
          go_wp2_with (go_at_call 19; refine (HT _).mono ?_; rintro e wh ⟨rfl, hch⟩)
          have hdh : Below wr.heap.size wr wh := (((Below.refl wr.heap.size wr).drew)).trans (hch.mono (((Below.refl wr.heap.size wr).drew)).size)
          refine mix_on hK hdh ?_
          clear hK K
          refine mix_seg (seg := [_, _, _, _, _, _, _, _, _, _, _]) rfl hdh ?_
          intro ι hι F hF
          have a0 := fun n => ((hF n).cell HS.out.lt).trans HS.out.c0
          have a1 := fun n => ((hF n).cell HS.out.lt).trans HS.out.c1
          have a2 := fun n => ((hF n).cell HS.out.lt).trans HS.out.c2
          have a3 := fun n => ((hF n).cell HS.out.lt).trans HS.out.c3
          repeat (first | (go_big_quiet_step (fail)))
          refine wpQuiet_nil ?_
          clear a0 a1 a2 a3 hF hι F
          refine mix_eff (fun K hK => ?_)
          go_wp2
          refine mix_on hK hdh ?_
          clear hK K
          refine mix_seg (seg := [_]) (rest := []) rfl hdh ?_
          intro ι hι F hF
          have a0 := fun n => ((hF n).cell HS.out.lt).trans HS.out.c0
          have a1 := fun n => ((hF n).cell HS.out.lt).trans HS.out.c1
          have a2 := fun n => ((hF n).cell HS.out.lt).trans HS.out.c2
          have a3 := fun n => ((hF n).cell HS.out.lt).trans HS.out.c3
          repeat (first | (go_big_quiet_step (fail)))
          refine wpQuiet_nil ?_
          clear a0 a1 a2 a3 hF hι F
          show wpList _ _ _ _ _ _
          have hS4 := HS.out.stay hdh
          have hb4 := HW.out.trans (hdh.mono HW.out.size)
          go_wp2
          refine NoPanic.normal ?_
          go_wp2_with fail
          go_roundw
          case rel => exact ⟨k + 1, by omega, by go_num, hS4, hb4⟩
          case measure => simp [intOf]; omega
        · have b37 := u8_ne h37
          have hv : (val c.toNat).isSome = true := by
            rcases hm with h | h | h
            · rw [hbit] at h; cases h
            · exact absurd h h37
            · exact h
          rw [hv] at HX
          clear hbit hm HC h37 hv
          go_wp2_with fail
          refine region_mix [(false, 0), (false, 1), (false, 2), (false, 3), (true, 4), (false, 5), (false, 6), (false, 7), (false, 8), (false, 9), (false, 10), (false, 11), (false, 12), (false, 13), (false, 14), (false, 15), (true, 16), (false, 17)] (fun w' => Below wr.heap.size wr w') (by kernel_rfl) (by kernel_rfl) ((Below.refl _ _).drew) ?_
          simp only [planOps, List.map_cons, List.map_nil, List.getD_cons_zero, List.getD_cons_succ, List.length_cons, List.length_nil, List.drop_succ_cons, List.drop_zero]
          refine mix_seg (seg := [_, _, _, _]) rfl ((Below.refl _ _).drew) ?_
          intro ι hι F hF
          have a0 := fun n => ((hF n).cell HS.out.lt).trans HS.out.c0
          have a1 := fun n => ((hF n).cell HS.out.lt).trans HS.out.c1
          have a2 := fun n => ((hF n).cell HS.out.lt).trans HS.out.c2
          have a3 := fun n => ((hF n).cell HS.out.lt).trans HS.out.c3
          repeat (first | (go_big_quiet_step (fail)))
          refine wpQuiet_nil ?_
          clear a0 a1 a2 a3 hF hι F
          refine mix_eff (fun K hK => ?_)
          go_wp2_with (go_at_call 19; refine (HT _).mono ?_; rintro e wh ⟨rfl, hch⟩)
          have hdh : Below wr.heap.size wr wh := (((Below.refl wr.heap.size wr).drew)).trans (hch.mono (((Below.refl wr.heap.size wr).drew)).size)
          refine mix_on hK hdh ?_
          clear hK K
          refine mix_seg (seg := [_, _, _, _, _, _, _, _, _, _, _]) rfl hdh ?_
          intro ι hι F hF
          have a0 := fun n => ((hF n).cell HS.out.lt).trans HS.out.c0
          have a1 := fun n => ((hF n).cell HS.out.lt).trans HS.out.c1
          have a2 := fun n => ((hF n).cell HS.out.lt).trans HS.out.c2
          have a3 := fun n => ((hF n).cell HS.out.lt).trans HS.out.c3
          repeat (first | (go_big_quiet_step (fail)))
          refine wpQuiet_nil ?_
          clear a0 a1 a2 a3 hF hι F
          refine mix_eff (fun K hK => ?_)
          go_wp2_with (go_at_call 18; refine (HX _).mono ?_; rintro e wq ⟨rfl, rfl⟩)
          refine mix_on hK hdh ?_
          clear hK K
          refine mix_seg (seg := [_]) (rest := []) rfl hdh ?_
          intro ι hι F hF
          have a0 := fun n => ((hF n).cell HS.out.lt).trans HS.out.c0
          have a1 := fun n => ((hF n).cell HS.out.lt).trans HS.out.c1
          have a2 := fun n => ((hF n).cell HS.out.lt).trans HS.out.c2
          have a3 := fun n => ((hF n).cell HS.out.lt).trans HS.out.c3
          repeat (first | (go_big_quiet_step (fail)))
          refine wpQuiet_nil ?_
          clear a0 a1 a2 a3 hF hι F
          show wpList _ _ _ _ _ _
          have hS4 := HS.out.stay hdh
          have hb4 := HW.out.trans (hdh.mono HW.out.size)
          go_wp2
          refine NoPanic.normal ?_
          go_wp2_with fail
          go_roundw
          case rel => exact ⟨k + 1, by omega, by go_num, hS4, hb4⟩
          case measure => simp [intOf]; omega
    · have : k = E.size := by omega
      subst this
      have g1 : decide (s'.size ≤ E.size) = true := decide_eq_true hE1
      have g2 : decide ((s'.size : Int) ≤ (E.size : Int)) = true := decide_eq_true (by omega)
      have g3 : decide ((E.size : Int) ≤ 3 * (s'.size : Int)) = true := decide_eq_true (by omega)
      go_wp2_with fail
      refine (UA _).mono ?_
      rintro e w8 ⟨rfl, hb8⟩
      replace hb8 := hb.trans (hb8.mono hb.size)
      go_wp2_with fail
      refine (awake_any _).mono ?_
      rintro e w9 ⟨rfl, hb9⟩
      replace hb9 := hb8.trans (hb9.mono hb8.size)
      go_wp2_with fail
      go_ret
      exact ⟨rfl, hb9⟩
end Go.Proofs.Ytdklkeclcdajeaa
