/- tree.Right. -/
import Derived.Test.YtbmoanhdpnaocaaTre4
namespace Go.Proofs.Ytbmoanhdpnaocaa
open Go.RowKit Sets Tr
set_option maxHeartbeats 6400000 in
set_option maxRecDepth 100000 in
theorem right_any (nv pv : Value) (N : List Nd) (R : List (Int × Bool)) (w : World) (hN : NodesAt w nv N) (hP : PartsAt w pv R) :
    Calls Try.prog 19 #[.agg #[nv, pv]] w fun e w' => e = .returned (.bool (rightB N R)) ∧ Below w.heap.size w w' := by
  have hN7 := hN.2.1
  have hP3 := hP.2.1
  have HN := Lib.hid hN
  have HP := Lib.hid hP
  obtain ⟨na, nc, rfl⟩ : ∃ a c, nv = .slice a N.length c := by obtain ⟨-, -, a, c, e, -⟩ := hN; exact ⟨a, c, e⟩
  obtain ⟨pa, pc, rfl⟩ : ∃ a c, pv = .slice a R.length c := by obtain ⟨-, -, a, c, e, -⟩ := hP; exact ⟨a, c, e⟩
  clear hN hP
  have hb0 := (Below.refl w.heap.size w).alloc (Nat.le_refl _) (.cells #[.slice na N.length nc, .slice pa R.length pc] 27)
  have HB0 := Lib.hid hb0
  clear hb0
  go_enter Try.func19, Try.ntmps19
  by_cases hr1 : R.length < 1
  · have hd : decide ((R.length : Int) < 1) = true := decide_eq_true (by omega)
    go_wp2_with fail
    go_ret
    exact ⟨by rw [rightB_false (fun h => by have := h.few; omega)]; rfl, HB0.out⟩
  have hd1 : decide ((R.length : Int) < 1) = false := decide_eq_false (by omega)
  by_cases hr2 : 20 < R.length
  · have hd : decide ((20 : Int) < (R.length : Int)) = true := decide_eq_true (by omega)
    go_wp2_with fail
    go_ret
    exact ⟨by rw [rightB_false (fun h => by have := h.few; omega)]; rfl, HB0.out⟩
  have hd2 : decide ((20 : Int) < (R.length : Int)) = false := decide_eq_false (by omega)
  by_cases hr3 : 600 < N.length
  · have hd : decide ((600 : Int) < (N.length : Int)) = true := decide_eq_true (by omega)
    go_wp2_with fail
    go_ret
    exact ⟨by rw [rightB_false (fun h => by have := h.few; omega)]; rfl, HB0.out⟩
  have hd3 : decide ((600 : Int) < (N.length : Int)) = false := decide_eq_false (by omega)
  have HF := Lib.hid (show 1 ≤ R.length ∧ R.length ≤ 20 ∧ N.length ≤ 600 by omega)
  clear hr1 hr2 hr3
  have hmk := run_make_row' (P := Try.prog) 60 4 (.bool false) 1 Try.underlying60 infoBool rfl .i64 .i64 N.length (by omega) (by omega)
  go_wp2_with fail
  have hS1 : ((w.alloc (.cells #[.slice na N.length nc, .slice pa R.length pc] 27)).alloc (.cells (madeCells #[.bool false] N.length) 4)).heap.size = w.heap.size + 2 := by simp
  have hA1 : BoolsAt ((w.alloc (.cells #[.slice na N.length nc, .slice pa R.length pc] 27)).alloc (.cells (madeCells #[.bool false] N.length) 4)) (w.heap.size + 1) N.length (inE []) := by
    have := World.rowIs_made (w.alloc (.cells #[.slice na N.length nc, .slice pa R.length pc] 27)) (.bool false) N.length 4
    rw [show (w.alloc (.cells #[.slice na N.length nc, .slice pa R.length pc] 27)).heap.size = w.heap.size + 1 from by simp] at this
    rw [inE_nil]
    exact this
  have hT1 : ((w.alloc (.cells #[.slice na N.length nc, .slice pa R.length pc] 27)).alloc (.cells (madeCells #[.bool false] N.length) 4)).cell? ⟨w.heap.size, 1, none⟩ = some (.slice pa R.length pc) := by
    rw [((Below.refl (w.heap.size + 1) (w.alloc (.cells #[.slice na N.length nc, .slice pa R.length pc] 27))).alloc (by simp) _).cell (by show w.heap.size < _; omega)]
    simp
  have hB1 := HB0.out.alloc (by simp) (.cells (madeCells #[.bool false] N.length) 4)
  generalize ((w.alloc (.cells #[.slice na N.length nc, .slice pa R.length pc] 27)).alloc (.cells (madeCells #[.bool false] N.length) 4)) = W1 at *
  obtain ⟨u, hu⟩ : ∃ u, u = w.heap.size + 1 := ⟨_, rfl⟩
  rw [← hu] at hA1 ⊢
  have HU := Lib.hid hu
  have HS1 := Lib.hid hS1
  have HB1 := Lib.hid hB1
  have HT1 := Lib.hid hT1
  clear hu hS1 hB1 hT1 HB0 hmk
  go_loopw [31] (fun x wr => ∃ m : Nat, x = .int .i64 m ∧ m ≤ N.length ∧ Hid (∀ i, i < m → sound (N.getD i default) = true ∧ okB (inE (edges (N.take i))) i (kids (N.getD i default))) ∧ Hid (BoolsAt wr u N.length (inE (edges (N.take m)))) ∧ Hid (But u W1 wr)) (fun x _ => (N.length - intOf x).toNat)
  case atStart => exact ⟨0, rfl, Nat.zero_le _, Lib.hid (fun i hi => absurd hi (Nat.not_lt_zero _)), Lib.hid hA1, Lib.hid (But.refl _ _)⟩
  case round =>
    obtain ⟨m, rfl, hm, HO, HA, HW⟩ := hrel
    clear hA1
    generalize hwr : wr = w1 at *
    clear hwr wr
    by_cases hml : m < N.length
    · have hdm : decide ((m : Int) < (N.length : Int)) = true := decide_eq_true (by omega)
      obtain ⟨b, o, rfl, hr0, hok⟩ := HN.out.at hml
      have hBw := But.below HB1.out HW.out (by rw [HU.out]; omega) (by rw [HS1.out]; omega)
      have hr1 := range_kept hr0 hBw
      have HOK := Lib.hid hok
      have HX : Hid (N.getD m default = N.getD m default) := Lib.hid rfl
      have HES := Lib.hid (edges_snoc N m hml)
      obtain ⟨X, hX⟩ : ∃ X, X = N.getD m default := ⟨_, rfl⟩
      rw [← hX] at hr1 hok HOK HES
      have HXE := Lib.hid hX
      have huw : u < w1.heap.size := HA.out.lt
      have HR1 := Lib.hid hr1
      have HBx := Lib.hid (BoxAt.new w1 X)
      have HW2 := Lib.hid (But.alloc u w1 (.cells (nd9 X).toArray 36))
      have HA2 := Lib.hid (HA.out.alloc (.cells (nd9 X).toArray 36))
      have HG : Hid (w1.heap.size ≠ u) := Lib.hid (by omega)
      have HSz : Hid ((w1.alloc (.cells (nd9 X).toArray 36)).heap.size = w1.heap.size + 1) := Lib.hid (by simp)
      have HU1 := Lib.hid huw
      clear hX hr0 hr1 hok hBw HX huw
      cases hs : sound X
      · have hcs := fun w => sound_any X HOK.out w
        rw [hs] at hcs
        have HCS := Lib.hid hcs
        have HS := Lib.hid hs
        clear hs hcs
        go_wp2_with (first
          | (refine wpList_load_node rfl _ rfl b (o + m * 9) X rfl HR1.out ?_)
          | (refine wpList_store_node rfl _ _ rfl X rfl rfl ?_))
        generalize (w1.alloc (.cells (nd9 X).toArray 36)) = w2 at *
        generalize w1.heap.size = g at *
        refine region_mix [(false, 0), (true, 1), (false, 2), (false, 3), (false, 4), (false, 5), (false, 6), (false, 7), (true, 8), (true, 9), (false, 10)] (fun w' => But u w2 w') (by kernel_rfl) (by kernel_rfl) ((But.refl u w2).drew) ?_
        simp only [planOps, List.map_cons, List.map_nil, List.getD_cons_zero, List.getD_cons_succ, List.length_cons, List.length_nil, List.drop_succ_cons, List.drop_zero]
        refine mix_seg (seg := [_]) rfl ((But.refl u w2).drew) ?_
        intro ι hι F hF
        have fb : ∀ n, BoxAt (F n) g X := fun n => ⟨by rw [(hF n).block g (by rw [HSz.out]; omega) HG.out]; exact HBx.out.row⟩
        refine BigFrame.wpQuiet_want rfl (fun K hK => ?_)
        refine quiet_load_node _ rfl g X rfl (fun w' ⟨n, e⟩ => e ▸ fb n) ?_
        refine hK _ ?_
        clear hK K
        simp only [Act.put, List.setIfInBounds_toArray, List.set_cons_zero, List.set_cons_succ]
        refine wpQuiet_nil ?_
        clear fb hF hι F
        refine mix_eff (fun K hK => ?_)
        go_wp2_with (go_at_call 24; refine (HCS.out _).mono ?_; rintro e w3 ⟨rfl, hB3⟩)
        have hW3 := ((But.refl u w2).drew).trans (But.of_below hB3)
        refine mix_on hK hW3 ?_
        clear hK K
        refine mix_seg (seg := [_, _, _, _, _, _]) rfl hW3 ?_
        intro ι hι F hF
        repeat (go_big_quiet_step (fail))
        refine wpQuiet_nil ?_
        clear hF hι F
        refine mix_eff (fun K hK => ?_)
        go_wp2
        refine mix_on hK hW3 ?_
        clear hK K
        refine mix_eff (fun K hK => ?_)
        go_wp2
        refine mix_on hK hW3 ?_
        clear hK K
        refine mix_seg (seg := [_]) (rest := []) rfl hW3 ?_
        intro ι hι F hF
        repeat (go_big_quiet_step (fail))
        refine wpQuiet_nil ?_
        clear hF hι F
        show wpList _ _ _ _ _ _
        go_wp2
        refine NoPanic.normal ?_
        go_wp2
        go_ret
        refine ⟨?_, But.below HB1.out (HW.out.trans (HW2.out.trans hW3)) (by rw [HU.out]; omega) (by rw [HS1.out]; omega)⟩
        rw [rightB_false]
        · rfl
        · intro h
          have := (((right_iff N R).1 h).one m hml).1
          rw [← HXE.out, HS.out] at this
          cases this
      · have hcs := fun w => sound_any X HOK.out w
        rw [hs] at hcs
        have HCS := Lib.hid hcs
        have HS := Lib.hid hs
        clear hs hcs
        go_wp2_with (first
          | (refine wpList_load_node rfl _ rfl b (o + m * 9) X rfl HR1.out ?_)
          | (refine wpList_store_node rfl _ _ rfl X rfl rfl ?_))
        generalize (w1.alloc (.cells (nd9 X).toArray 36)) = w2 at *
        generalize w1.heap.size = g at *
        refine region_mix [(false, 0), (true, 1), (false, 2), (false, 3), (false, 4), (false, 5), (false, 6), (false, 7), (true, 8), (true, 9), (false, 10)] (fun w' => But u w2 w') (by kernel_rfl) (by kernel_rfl) ((But.refl u w2).drew) ?_
        simp only [planOps, List.map_cons, List.map_nil, List.getD_cons_zero, List.getD_cons_succ, List.length_cons, List.length_nil, List.drop_succ_cons, List.drop_zero]
        refine mix_seg (seg := [_]) rfl ((But.refl u w2).drew) ?_
        intro ι hι F hF
        have fb : ∀ n, BoxAt (F n) g X := fun n => ⟨by rw [(hF n).block g (by rw [HSz.out]; omega) HG.out]; exact HBx.out.row⟩
        refine BigFrame.wpQuiet_want rfl (fun K hK => ?_)
        refine quiet_load_node _ rfl g X rfl (fun w' ⟨n, e⟩ => e ▸ fb n) ?_
        refine hK _ ?_
        clear hK K
        simp only [Act.put, List.setIfInBounds_toArray, List.set_cons_zero, List.set_cons_succ]
        refine wpQuiet_nil ?_
        clear fb hF hι F
        refine mix_eff (fun K hK => ?_)
        go_wp2_with (go_at_call 24; refine (HCS.out _).mono ?_; rintro e w3 ⟨rfl, hB3⟩)
        have hW3 := ((But.refl u w2).drew).trans (But.of_below hB3)
        refine mix_on hK hW3 ?_
        clear hK K
        have hmn : decide ((m : Int) ≤ (N.length : Int)) = true := decide_eq_true (by omega)
        have HBx3 : Hid (BoxAt w3 g X) := Lib.hid ⟨by rw [hW3.block g (by rw [HSz.out]; omega) HG.out]; exact HBx.out.row⟩
        have HA3 : Hid (BoolsAt w3 u N.length (inE (edges (N.take m)))) := Lib.hid (HA2.out.kept (hB3.block u (by show u < w2.heap.size; rw [HSz.out]; have := HU1.out; omega)))
        have HSz3 : Hid (g < w3.heap.size) := Lib.hid HBx3.out.lt
        refine mix_seg (seg := [_, _, _, _, _, _]) rfl hW3 ?_
        intro ι hι F hF
        have fb : ∀ n, BoxAt (F n) g X := fun n => ⟨by rw [(hF n).block g (by rw [HSz.out]; omega) HG.out]; exact HBx.out.row⟩
        repeat (first | (refine BigFrame.wpQuiet_want rfl (fun K hK => ?_); refine quiet_load_node _ rfl g X rfl (fun w' ⟨n, e⟩ => e ▸ fb n) ?_; refine hK _ ?_; clear hK K; simp only [Act.put, List.setIfInBounds_toArray, List.set_cons_zero, List.set_cons_succ]) | (go_big_quiet_step (fail)))
        refine wpQuiet_nil ?_
        clear fb hF hι F
        refine mix_eff (fun K hK => ?_)
        go_wp2_with (go_at_call 20; refine (below_any X _).mono ?_; rintro e w4 ⟨v, rfl, hI, hB4⟩)
        have hW4 := hW3.trans (But.of_below hB4)
        refine mix_on hK hW4 ?_
        clear hK K
        have HA4 : Hid (BoolsAt w4 u N.length (inE (edges (N.take m)))) := Lib.hid (HA3.out.kept (hB4.block u HA3.out.lt))
        have hkl : (kids X).length ≤ 2 := by
          rcases kids_len X with h | ⟨_, h⟩ | ⟨_, _, h⟩ <;> rw [h] <;> simp
        have HU4 := Lib.hid (use_any u N.length m N.length w3.heap.size (inE (edges (N.take m))) v (kids X) w4 HA4.out hm (HA3.out.lt) hI (by omega))
        clear hkl hI hB4
        refine mix_eff (fun K hK => ?_)
        go_wp2_with (go_at_call 25; refine HU4.out.mono ?_; rintro e w5 ⟨r, gg, rfl, hA5, hW5, hri, hgg⟩)
        have hW6 := hW4.trans hW5
        refine mix_on hK hW6 ?_
        clear hK K
        have HRI := Lib.hid hri
        have HGG := Lib.hid hgg
        have HA5 := Lib.hid hA5
        clear hri hgg hA5 hW5
        cases r
        · refine mix_seg (seg := [_]) (rest := []) rfl hW6 ?_
          intro ι hι F hF
          repeat (go_big_quiet_step (fail))
          refine wpQuiet_nil ?_
          clear hF hι F
          show wpList _ _ _ _ _ _
          go_wp2
          refine NoPanic.normal ?_
          go_wp2
          go_ret
          refine ⟨?_, But.below HB1.out (HW.out.trans (HW2.out.trans hW6)) (by rw [HU.out]; omega) (by rw [HS1.out]; omega)⟩
          rw [rightB_false]
          · rfl
          · intro h
            have := (((right_iff N R).1 h).one m hml).2
            rw [← HXE.out] at this
            have := HRI.out.2 this
            cases this
        · refine mix_seg (seg := [_]) (rest := []) rfl hW6 ?_
          intro ι hι F hF
          repeat (go_big_quiet_step (fail))
          refine wpQuiet_nil ?_
          clear hF hι F
          show wpList _ _ _ _ _ _
          go_wp2
          refine NoPanic.normal ?_
          go_wp2
          go_roundw
          case rel =>
            refine ⟨m + 1, by go_num, hml, Lib.hid (fun i hi => ?_), Lib.hid ?_, Lib.hid (HW.out.trans (HW2.out.trans hW6))⟩
            · by_cases h : i = m
              · subst h
                rw [← HXE.out]
                exact ⟨HS.out, HRI.out.1 (by simp)⟩
              · exact HO.out i (by omega)
            · rw [HES.out, ← inE_append, ← HGG.out (by simp)]
              exact HA5.out
          case measure => simp only [intOf]; omega
    · have : m = N.length := by omega
      subst this
      have hdm : decide ((N.length : Int) < (N.length : Int)) = false := decide_eq_false (by omega)
      rw [List.take_length] at HA
      have hT2 := HW.out.cell HT1.out (by show w.heap.size ≠ u; rw [HU.out]; omega)
      clear hm hdm
      have hdm : decide (N.length < N.length) = false := decide_eq_false (by omega)
      go_wp2_with fail
      clear hdm hml hT2
      go_loopw [52] (fun x wr => ∃ q : Nat, x = .int .i64 q ∧ q ≤ R.length ∧ Hid (∀ i, i < q → okB (inE (edges N ++ roots (R.take i))) N.length [(R.getD i default).1]) ∧ Hid (BoolsAt wr u N.length (inE (edges N ++ roots (R.take q)))) ∧ Hid (But u W1 wr)) (fun x _ => (R.length - intOf x).toNat)
      case atStart =>
        have e : edges N ++ roots (R.take 0) = edges N := by simp [roots]
        have h2 := HA.out
        rw [← e] at h2
        exact ⟨0, rfl, Nat.zero_le _, Lib.hid (fun i hi => absurd hi (Nat.not_lt_zero _)), Lib.hid h2, HW⟩
      case round =>
        obtain ⟨q, rfl, hq, HO2, HA2, HW2⟩ := hrel
        clear HA HW w1
        generalize hwr : wr = w1 at *
        clear hwr wr
        by_cases hql : q < R.length
        · have hdq : decide ((q : Int) < (R.length : Int)) = true := decide_eq_true (by omega)
          obtain ⟨b, o, rfl, hr0, hok⟩ := HP.out.at hql
          have hBw := But.below HB1.out HW2.out (by rw [HU.out]; omega) (by rw [HS1.out]; omega)
          have hr1 := range_kept hr0 hBw
          have HRS := Lib.hid (roots_snoc R q hql)
          obtain ⟨X, hX⟩ : ∃ X, X = R.getD q default := ⟨_, rfl⟩
          rw [← hX] at hr1 hok HRS
          have HXE := Lib.hid hX
          clear hX
          obtain ⟨rt, nt⟩ := X
          have c0 : w1.cell? ⟨b, o + q * 2, none⟩ = some (.int .i64 rt) := hr1 0 _ rfl
          have c1 : w1.cell? ⟨b, o + q * 2 + 1, none⟩ = some (.bool nt) := hr1 1 _ rfl
          clear hr0 hr1 hok hBw
          have hu1 := HA2.out.lt
          have hs1 : (w1.alloc (.cells #[.int .i64 rt, .bool nt] 47)).heap.size = w1.heap.size + 1 := by simp
          have hi := ints_one (w1.alloc (.cells #[.int .i64 rt, .bool nt] 47)) (u + 1) (by rw [hs1]; omega) rt 3
          rw [hs1] at hi
          have HI := Lib.hid hi
          have HA4 := Lib.hid ((HA2.out.alloc (.cells #[.int .i64 rt, .bool nt] 47)).alloc (.cells #[.int .i64 rt] 3))
          have HW4 := Lib.hid ((But.alloc u w1 (.cells #[.int .i64 rt, .bool nt] 47)).trans (But.alloc u _ (.cells #[.int .i64 rt] 3)))
          clear hu1 hs1 hi
          by_cases hok : okB (inE (edges N ++ roots (R.take q))) N.length [rt]
          case neg =>
            have HOK := Lib.hid hok
            clear hok
            go_wp2_with (go_at_call 25; refine (use_any u N.length N.length N.length (u + 1) (inE (edges N ++ roots (R.take q))) _ [rt] _ HA4.out (Nat.le_refl _) (Nat.lt_succ_self _) HI.out (by simp)).mono ?_; rintro e w5 ⟨r, gg, rfl, hA5, hW5, hri, hgg⟩; have HW5 := Lib.hid (HW4.out.trans hW5); obtain rfl : r = false := (by cases r with | false => rfl | true => exact absurd (hri.1 rfl) HOK.out); have HGG := Lib.hid hgg; have HA5 := Lib.hid hA5; clear hri hgg hA5 hW5)
            go_wp2_with fail
            go_ret
            refine ⟨?_, But.below HB1.out (HW2.out.trans HW5.out) (by rw [HU.out]; omega) (by rw [HS1.out]; omega)⟩
            rw [rightB_false]
            · rfl
            · intro h
              have := ((right_iff N R).1 h).two q hql
              rw [← HXE.out] at this
              exact HOK.out this
          case pos =>
            have HOK := Lib.hid hok
            clear hok
            go_wp2_with (go_at_call 25; refine (use_any u N.length N.length N.length (u + 1) (inE (edges N ++ roots (R.take q))) _ [rt] _ HA4.out (Nat.le_refl _) (Nat.lt_succ_self _) HI.out (by simp)).mono ?_; rintro e w5 ⟨r, gg, rfl, hA5, hW5, hri, hgg⟩; have HW5 := Lib.hid (HW4.out.trans hW5); obtain rfl : r = true := hri.2 HOK.out; have HGG := Lib.hid hgg; have HA5 := Lib.hid hA5; clear hri hgg hA5 hW5)
            go_wp2_with fail
            go_roundw
            case rel =>
              refine ⟨q + 1, by go_num, hql, Lib.hid (fun i hi => ?_), Lib.hid ?_, Lib.hid (HW2.out.trans HW5.out)⟩
              · by_cases h : i = q
                · subst h
                  rw [← HXE.out]
                  exact HOK.out
                · exact HO2.out i (by omega)
              · rw [HRS.out, ← List.append_assoc, ← inE_append, ← HGG.out (by simp)]
                exact HA5.out
            case measure => simp only [intOf]; omega
        · have : q = R.length := by omega
          subst this
          have hdq : decide (R.length < R.length) = false := decide_eq_false (by omega)
          clear hq hql
          rw [List.take_length] at HA2
          go_wp2_with (go_at_call 26; refine (contains_any _ _ _ _ _ HA2.out (by omega)).mono ?_; rintro e w5 ⟨rfl, rfl⟩)
          go_ret
          refine ⟨?_, But.below HB1.out HW2.out (by rw [HU.out]; omega) (by rw [HS1.out]; omega)⟩
          have : rightB N R = !!allB (inE (edges N ++ roots R)) N.length := by
            rw [Bool.not_not, Bool.eq_iff_iff, rightB_iff, right_iff]
            exact ⟨fun h => h.thr, fun h => ⟨HF.out, fun i hi => HO.out i hi, fun i hi => HO2.out i hi, h⟩⟩
          rw [this, Bool.not_not]
          rfl
end Go.Proofs.Ytbmoanhdpnaocaa
