/- TallyRow. -/
import Derived.Test.YtkodhaapllmdhaaDoorROf
import Derived.Test.YtkodhaapllmdhaaDoorRowM
import Derived.Test.YtkodhaapllmdhaaDoorMix
namespace Go.Proofs.YtkodhaapllmdhaaDoor
open Go.RowKit Rk Go.Sort
set_option maxHeartbeats 3200000 in
set_option maxRecDepth 100000 in
theorem row_any (v : Value) (l : List Nat) (t : Nat) (w : World) (hq : FloatsAt w v l) (ht : t < 256) (hT : Tabs w) :
    Calls Tryd.prog 6 #[v, .int .u8 t] w fun e w' => e = .returned (.bool true) ∧ Below w.heap.size w w' := by
  have HT := Lib.hid hT
  have HQ := Lib.hid hq
  have hml := hq.2.1
  obtain ⟨s, c, rfl⟩ : ∃ s c, v = .slice s l.length c := by obtain ⟨-, -, s, c, rfl, -⟩ := hq; exact ⟨s, c, rfl⟩
  clear hq hT
  have hst : ∀ b a m w, Sem.run Tryd.prog (store a (.float .f64 b) m) w = stored Tryd.prog w a (.float .f64 b) m := fun b a m w => run_store Tryd.prog w a _ m rfl
  go_enter Tryd.func6, Tryd.ntmps6
  by_cases hlen : 200 < l.length
  · have hd : decide ((200 : Int) < (l.length : Int)) = true := decide_eq_true (by omega)
    go_wp2_with fail
    refine (awake_any _ HT.out).mono ?_
    rintro e w' ⟨rfl, hB⟩
    go_wp2_with fail
    go_ret
    exact ⟨rfl, hB⟩
  · have hd : decide ((200 : Int) < (l.length : Int)) = false := decide_eq_false (by omega)
    have hn : l.length ≤ 200 := by omega
    go_wp2_with fail
    go_loopw [5, 6] (fun u i wr => ∃ k : Nat, i = .int .i64 k ∧ k ≤ l.length ∧ Hid (wr.ownsRow w.heap.size 22 1 u ((rot l t).take k).length (flL ((rot l t).take k))) ∧ Hid (Below w.heap.size w wr)) (fun _ i _ => (l.length - intOf i).toNat)
    case atStart => exact ⟨0, rfl, Nat.zero_le _, Lib.hid (World.ownsRow_nil _ _ _ _), Lib.hid (Below.refl _ _)⟩
    case round =>
      obtain ⟨k, rfl, hk, hO, hB1⟩ := hrel
      generalize hwr : wr = w1 at *
      clear hwr wr
      by_cases hlt : k < l.length
      · have hdk : decide (k < l.length) = true := decide_eq_true hlt
        have hj : (l.length - 1 - k + t) % l.length < l.length := Nat.mod_lt _ (by omega)
        obtain ⟨j, J⟩ : ∃ j, (l.length - 1 - k + t) % l.length = j := ⟨_, rfl⟩
        have hji : ((l.length : Int) - 1 - k + t) % l.length = (j : Int) := by
          rw [← J]
          have : ((l.length : Int) - 1 - k + t) = ((l.length - 1 - k + t : Nat) : Int) := by omega
          rw [this]
          exact (Int.natCast_emod _ _).symm
        rw [J] at hj
        have hel := rot_at l t k hlt
        rw [J] at hel
        obtain ⟨b, o, rfl, hx0⟩ : ∃ b o, s = some ⟨b, o, none⟩ ∧ w.cell? ⟨b, o + j, none⟩ = some (.float .f64 (l.getD j 0)) := by
          obtain ⟨-, -, a', c'', e, h3⟩ := HQ.out
          cases e
          exact h3 j hj
        have hxc := (hB1.out.cell (p := ⟨b, o + j, none⟩) (World.block_lt_of_cell? _ _ hx0)).trans hx0
        have hxl : l.getD j 0 < 2 ^ 64 := getD_lt HQ.out.1 j
        have hHX : (rot l t).getD k 0 = l.getD j 0 := hel
        obtain ⟨x, HX⟩ : ∃ x, l.getD j 0 = x := ⟨_, rfl⟩
        rw [HX] at hxc hxl hHX
        have hs1 := hB1.out.size
        have hO3 := hO.out.alloc (.cells #[.float .f64 x] 22)
        have hI3 := floats_new w1 [x] 22 (by intro y hy; rw [List.mem_singleton.1 hy]; exact hxl) (by simp)
        have hn3 : ((rot l t).take k).length + [x].length ≤ 1000 := by simp [rot_length]; omega
        have hb3' := hB1.out.alloc hs1 (.cells #[.float .f64 x] 22)
        have hs3 := hb3'.size
        have htk : (rot l t).take (k + 1) = (rot l t).take k ++ [x] := by
          rw [List.take_add_one, List.getElem?_eq_getElem (by rw [rot_length]; exact hlt), ← hHX, List.getD_eq_getElem?_getD, List.getElem?_eq_getElem (by rw [rot_length]; exact hlt)]; rfl
        have HI3 := Lib.hid hI3
        have HTK := Lib.hid htk
        clear hxl HX hHX hel J hx0 htk hI3
        go_wp2_with (refine wpList_append_floats rfl (.tmp 22) (.tmp 37) rfl w.heap.size ((rot l t).take k) [x] hO3 HI3.out hn3 hs3 ?_; intro v2 w2 hO2 hb2; have hb4 := hb3'.trans hb2)
        rw [← HTK.out] at hO2
        exact ⟨⟨k + 1, by go_num, hlt, Lib.hid hO2, Lib.hid hb4⟩, by simp only [intOf]; omega⟩
      · have hkl : k = l.length := by omega
        subst hkl
        have hdk : decide (l.length < l.length) = false := decide_eq_false hlt
        have hO1 := hO.out
        rw [show l.length = (rot l t).length from (rot_length l t).symm, List.take_length] at hO1
        obtain ⟨u2, c2, rfl, -⟩ := (owns_floats hO1 (by rw [rot_length]; exact hml) (rot_lt l t HQ.out.1)).some
        have HR := Lib.hid (owns_floats hO1 (by rw [rot_length]; exact hml) (rot_lt l t HQ.out.1)).1
        clear hO hO1
        have hO1 := fun w h => of_any (.slice s l.length c) l w h (by omega)
        have hO2 := fun w h => of_any (.slice u2 (rot l t).length c2) (rot l t) w h (by rw [rot_length]; omega)
        rw [tal_perm (rot_lt l t HQ.out.1) HQ.out.1 (rot_perm l t)] at hO2
        have hO3 := fun v w h => of_any v (srt l) w h (by rw [srt_length]; omega)
        rw [tal_srt] at hO3
        have hS3 := fun w h => sort_any (.slice s l.length c) l w h (by omega)
        have hf := tal_fits l (by omega)
        have hS := fun w => same_refl (tal l) hf w
        have hmany : (tal l).many = l.length := rfl
        have hodd : (tal l).odd = l.length - (l.filter plainB).length := by rw [← pl_count l HQ.out.1]; rfl
        have hle : ∀ x ∈ l, plainB x = true → cf (tal l).least x ≤ 0 ∧ cf x (tal l).greatest ≤ 0 := fun x hx hp =>
          ⟨(cf_le _ _).2 (least_le HQ.out.1 hx hp), (cf_le _ _).2 (le_greatest HQ.out.1 hx hp)⟩
        have hend : ((l.filter plainB).length ≠ 0 → cf (tal l).least (tal l).greatest ≤ 0) ∧ ((l.filter plainB).length = 0 → cf (tal l).least (tal l).greatest = 1 ∧ (tal l).mean = cano) := by
          rw [← pl_count l HQ.out.1]
          exact ⟨fun h => range_cf l (fun e => h (by rw [e]; rfl)), fun h => range_none l (List.eq_nil_of_length_eq_zero h)⟩
        generalize tal l = T at *
        obtain ⟨many, odd, least, greatest, mean⟩ := T
        simp only at hmany hodd hle hend
        subst hmany hodd
        simp only [Tl.val, Tl.fits] at hO1 hO2 hO3 hS hf
        have HO1 := Lib.hid hO1
        have HO2 := Lib.hid hO2
        have HO3 := Lib.hid hO3
        have HS3 := Lib.hid hS3
        have HS := Lib.hid hS
        have HF := Lib.hid hf
        have HLE := Lib.hid hle
        have HEND := Lib.hid hend
        clear hO1 hO2 hO3 hS3 hS hf hle hend hk
        generalize hpc : (l.filter plainB).length = pc at *
        have hpcl : pc ≤ l.length := by rw [← hpc]; exact List.length_filter_le _ _
        have HPC := Lib.hid hpc
        clear hpc
        go_wp2_with (go_at_call 8; refine (HO1.out _ (HQ.out.below hB1.out)).mono ?_; rintro e w2 ⟨rfl, hB2⟩; have HB2 := Lib.hid (hB1.out.trans (hB2.mono hB1.out.size)); have HR2 := Lib.hid (HR.out.below hB2); clear hB2)
        have hg0 : w2.heap.size < (w2.alloc (.cells #[.int .i64 l.length, .int .i64 (l.length - pc : Nat), .float .f64 least, .float .f64 greatest, .float .f64 mean] 24)).heap.size := by simp
        have hcc := fun k => World.cell?_alloc_new w2 #[.int .i64 l.length, .int .i64 (l.length - pc : Nat), .float .f64 least, .float .f64 greatest, .float .f64 mean] 24 k
        have HB3 := Lib.hid (HB2.out.alloc HB2.out.size (.cells #[.int .i64 l.length, .int .i64 (l.length - pc : Nat), .float .f64 least, .float .f64 greatest, .float .f64 mean] 24))
        have HR3 := Lib.hid (HR2.out.below ((Below.refl _ _).alloc (Nat.le_refl _) (.cells #[.int .i64 l.length, .int .i64 (l.length - pc : Nat), .float .f64 least, .float .f64 greatest, .float .f64 mean] 24)))
        have k0 := hcc 0
        have k1 := hcc 1
        have k2 := hcc 2
        have k3 := hcc 3
        have k4 := hcc 4
        simp only [List.getElem?_toArray, List.getElem?_cons_zero, List.getElem?_cons_succ] at k0 k1 k2 k3 k4
        clear hcc HB2 HR2 HR hB1
        generalize w2.alloc (.cells #[.int .i64 l.length, .int .i64 (l.length - pc : Nat), .float .f64 least, .float .f64 greatest, .float .f64 mean] 24) = W3 at *
        generalize w2.heap.size = g at *
        clear w2 w1
        have hs3 := HB3.out.size
        refine region_mix [(false, 0), (false, 1), (true, 2), (true, 3), (false, 4), (false, 5), (false, 6), (false, 7), (true, 8), (true, 9), (true, 10), (false, 11), (false, 12), (false, 13), (false, 14), (false, 15), (true, 16), (false, 17)] (fun w' => Below W3.heap.size W3 w') (by kernel_rfl) (by kernel_rfl) ((Below.refl _ _).drew) ?_
        simp only [planOps, List.map_cons, List.map_nil, List.getD_cons_zero, List.getD_cons_succ, List.length_cons, List.length_nil, List.drop_succ_cons, List.drop_zero]
        refine mix_seg (seg := [_, _]) rfl ((Below.refl _ _).drew) ?_
        intro ι hι F hF
        have f0 := fun n => ((hF n).cell (p := ⟨g, 0, none⟩) hg0).trans k0
        have f1 := fun n => ((hF n).cell (p := ⟨g, 1, none⟩) hg0).trans k1
        have f2 := fun n => ((hF n).cell (p := ⟨g, 2, none⟩) hg0).trans k2
        have f3 := fun n => ((hF n).cell (p := ⟨g, 3, none⟩) hg0).trans k3
        have f4 := fun n => ((hF n).cell (p := ⟨g, 4, none⟩) hg0).trans k4
        repeat (go_big_quiet_step (fail))
        refine wpQuiet_nil ?_
        clear f0 f1 f2 f3 f4 hF hι F
        refine mix_eff (fun K hK => ?_)
        go_wp2_with (go_at_call 8; refine (HO2.out _ (HR3.out.below (Below.refl _ _).drew)).mono ?_; rintro e v1 ⟨rfl, hb⟩)
        have hB1 : Below W3.heap.size W3 v1 := (Below.refl W3.heap.size W3).drew.trans (hb.mono (Below.refl W3.heap.size W3).drew.size)
        clear hb
        refine mix_on hK hB1 ?_
        clear hK K
        refine mix_eff (fun K hK => ?_)
        go_wp2_with (go_at_call 17; refine (HS.out _).mono ?_; rintro e v2 ⟨rfl, hb⟩)
        have hB2 : Below W3.heap.size W3 v2 := hB1.trans (hb.mono hB1.size)
        clear hb
        refine mix_on hK hB2 ?_
        clear hK K
        refine mix_seg (seg := [_, _, _, _]) rfl hB2 ?_
        intro ι hι F hF
        have f0 := fun n => ((hF n).cell (p := ⟨g, 0, none⟩) hg0).trans k0
        have f1 := fun n => ((hF n).cell (p := ⟨g, 1, none⟩) hg0).trans k1
        have f2 := fun n => ((hF n).cell (p := ⟨g, 2, none⟩) hg0).trans k2
        have f3 := fun n => ((hF n).cell (p := ⟨g, 3, none⟩) hg0).trans k3
        have f4 := fun n => ((hF n).cell (p := ⟨g, 4, none⟩) hg0).trans k4
        repeat (go_big_quiet_step (fail))
        refine wpQuiet_nil ?_
        clear f0 f1 f2 f3 f4 hF hι F
        refine mix_eff (fun K hK => ?_)
        go_wp2_with (go_at_call 20; refine (HS3.out _ (HQ.out.below (HB3.out.trans (hB2.mono HB3.out.size)))).mono ?_; rintro e v3 ⟨B, rfl, -, -, hH, hb⟩)
        have HR4 := Lib.hid (floats_srt hH (by omega))
        have hB3 : Below W3.heap.size W3 v3 := hB2.trans (hb.mono hB2.size)
        clear hb hH
        refine mix_on hK hB3 ?_
        clear hK K
        refine mix_eff (fun K hK => ?_)
        go_wp2_with (go_at_call 8; refine (HO3.out _ _ HR4.out).mono ?_; rintro e v4 ⟨rfl, hb⟩)
        have hB4 : Below W3.heap.size W3 v4 := hB3.trans (hb.mono hB3.size)
        clear hb
        refine mix_on hK hB4 ?_
        clear hK K
        refine mix_eff (fun K hK => ?_)
        go_wp2_with (go_at_call 17; refine (HS.out _).mono ?_; rintro e v5 ⟨rfl, hb⟩)
        have hB5 : Below W3.heap.size W3 v5 := hB4.trans (hb.mono hB4.size)
        clear hb
        refine mix_on hK hB5 ?_
        clear hK K
        refine mix_seg (seg := [_, _, _, _, _]) rfl hB5 ?_
        intro ι hι F hF
        have f0 := fun n => ((hF n).cell (p := ⟨g, 0, none⟩) hg0).trans k0
        have f1 := fun n => ((hF n).cell (p := ⟨g, 1, none⟩) hg0).trans k1
        have f2 := fun n => ((hF n).cell (p := ⟨g, 2, none⟩) hg0).trans k2
        have f3 := fun n => ((hF n).cell (p := ⟨g, 3, none⟩) hg0).trans k3
        have f4 := fun n => ((hF n).cell (p := ⟨g, 4, none⟩) hg0).trans k4
        repeat (go_big_quiet_step (fail))
        refine wpQuiet_nil ?_
        clear f0 f1 f2 f3 f4 hF hι F
        refine mix_eff (fun K hK => ?_)
        go_wp2_with (go_at_call 17; refine (HS.out _).mono ?_; rintro e v6 ⟨rfl, hb⟩)
        have hB6 : Below W3.heap.size W3 v6 := hB5.trans (hb.mono hB5.size)
        clear hb
        refine mix_on hK hB6 ?_
        clear hK K
        refine mix_seg (seg := [_]) rfl hB6 ?_
        intro ι hι F hF
        have f0 := fun n => ((hF n).cell (p := ⟨g, 0, none⟩) hg0).trans k0
        have f1 := fun n => ((hF n).cell (p := ⟨g, 1, none⟩) hg0).trans k1
        have f2 := fun n => ((hF n).cell (p := ⟨g, 2, none⟩) hg0).trans k2
        have f3 := fun n => ((hF n).cell (p := ⟨g, 3, none⟩) hg0).trans k3
        have f4 := fun n => ((hF n).cell (p := ⟨g, 4, none⟩) hg0).trans k4
        repeat (go_big_quiet_step (fail))
        refine wpQuiet_nil ?_
        clear f0 f1 f2 f3 f4 hF hι F
        show wpList _ _ _ _ _ _
        go_wp2
        refine NoPanic.normal ?_
        have HB4 := Lib.hid (HB3.out.trans (hB6.mono hs3))
        have x0 := (hB6.cell (p := ⟨g, 0, none⟩) hg0).trans k0
        have x1 := (hB6.cell (p := ⟨g, 1, none⟩) hg0).trans k1
        have x2 := (hB6.cell (p := ⟨g, 2, none⟩) hg0).trans k2
        have x3 := (hB6.cell (p := ⟨g, 3, none⟩) hg0).trans k3
        have x4 := (hB6.cell (p := ⟨g, 4, none⟩) hg0).trans k4
        have hg6 : g < v6.heap.size := Nat.lt_of_lt_of_le hg0 hB6.size
        clear hB1 hB2 hB3 hB4 hB5 hB6 HB3 k0 k1 k2 k3 k4 HR4 HR3 hg0 hs3
        go_wp2_with fail
        go_loopw [8, 9] (fun n i wr => ∃ k : Nat, i = .int .i64 k ∧ k ≤ l.length ∧ n = .int .i64 (pk l k).length ∧ Hid (Below v6.heap.size v6 wr)) (fun _ i _ => (l.length - intOf i).toNat)
        case atStart => exact ⟨0, rfl, Nat.zero_le _, rfl, Lib.hid (Below.refl _ _)⟩
        case round =>
          obtain ⟨k, rfl, hk, rfl, hBk⟩ := hrel
          generalize hwr : wr = w1 at *
          clear hwr wr
          have hs1 := hBk.out.size
          have y0 := (hBk.out.cell (p := ⟨g, 0, none⟩) hg6).trans x0
          have y1 := (hBk.out.cell (p := ⟨g, 1, none⟩) hg6).trans x1
          have y2 := (hBk.out.cell (p := ⟨g, 2, none⟩) hg6).trans x2
          have y3 := (hBk.out.cell (p := ⟨g, 3, none⟩) hg6).trans x3
          have y4 := (hBk.out.cell (p := ⟨g, 4, none⟩) hg6).trans x4
          have hgw : g < w1.heap.size := Nat.lt_of_lt_of_le hg6 hs1
          clear x0 x1 x2 x3 x4
          have HBw := Lib.hid (HB4.out.trans (hBk.out.mono HB4.out.size))
          by_cases hlt : k < l.length
          · have hdk : decide (k < l.length) = true := decide_eq_true hlt
            obtain ⟨b, o, rfl, hx0⟩ : ∃ b o, s = some ⟨b, o, none⟩ ∧ w.cell? ⟨b, o + k, none⟩ = some (.float .f64 (l.getD k 0)) := by
              obtain ⟨-, -, a', c'', e, h3⟩ := HQ.out
              cases e
              exact h3 k hlt
            have hxc := (HBw.out.cell (p := ⟨b, o + k, none⟩) (World.block_lt_of_cell? _ _ hx0)).trans hx0
            have hbw : b < w1.heap.size := World.block_lt_of_cell? _ _ hxc
            obtain ⟨x, HX⟩ : ∃ x, Hid (l.getD k 0 = x) := ⟨_, rfl⟩
            have hxl : x < 2 ^ 64 := by rw [← HX.out]; exact getD_lt HQ.out.1 k
            have hmem : x ∈ l := by rw [← HX.out, List.getD_eq_getElem?_getD, List.getElem?_eq_getElem hlt]; exact List.getElem_mem hlt
            rw [HX.out] at hxc
            have hnx : (FloatKind.f64.format.order x x != some .eq) = nanB x := ne_self x hxl
            have hop := odd_plain x
            have HI := Lib.hid (fun w => isinf_any x hxl w)
            have hle := pk_le l k
            cases hp : plainB x
            · have HPK := Lib.hid (pk_no hlt HX.out hp)
              rw [hp, Bool.not_false] at hop
              clear hx0 hxl hp hmem
              cases hnb : nanB x
              · rw [hnb, Bool.false_or] at hop
                rw [hnb] at hnx
                rw [hop] at HI
                clear hnb hop
                go_wp2_with (go_at_call 11; refine (HI.out _).mono ?_; rintro e w' ⟨rfl, rfl⟩)
                exact ⟨⟨k + 1, by go_num, hlt, by rw [HPK.out], hBk⟩, by simp only [intOf]; omega⟩
              · rw [hnb] at hnx
                clear hnb hop
                go_wp2_with fail
                exact ⟨⟨k + 1, by go_num, hlt, by rw [HPK.out], hBk⟩, by simp only [intOf]; omega⟩
            · have hpk := pk_yes hlt HX.out hp
              have HPK := Lib.hid (show (pk l (k + 1)).length = (pk l k).length + 1 by rw [hpk]; simp)
              rw [hp, Bool.not_true] at hop
              have hnb := plain_nan hp
              rw [hnb, Bool.false_or] at hop
              rw [hnb] at hnx
              rw [hop] at HI
              have hO4 := fun v w h => of_any v [x] w h (by simp)
              rw [tal_one hxl hp] at hO4
              simp only [Tl.val] at hO4
              have hml := mean_lt hxl hp
              have hme := mean_eq hxl hp
              generalize meanL [x] = mx at *
              have HO4 := Lib.hid hO4
              obtain ⟨hl1, hl2⟩ := HLE.out x hmem hp
              obtain ⟨z1, Z1⟩ : ∃ z1, cf least x = z1 := ⟨_, rfl⟩
              obtain ⟨z2, Z2⟩ : ∃ z2, cf x greatest = z2 := ⟨_, rfl⟩
              have HC1 := Lib.hid (fun w => compare_is least x z1 HF.out.1 hxl Z1 w)
              have HC2 := Lib.hid (fun w => compare_is x greatest z2 hxl HF.out.2.1 Z2 w)
              have HC3 := Lib.hid (fun w => compare_is x x 0 hxl hxl (cf_self x) w)
              rw [Z1] at hl1
              rw [Z2] at hl2
              have hz1 : decide (0 < z1) = false := decide_eq_false (by omega)
              have hz2 : decide (0 < z2) = false := decide_eq_false (by omega)
              have HN := Lib.hid (fun w : World => floats_new w [x] 22 (by intro y hy; rw [List.mem_singleton.1 hy]; exact hxl) (by simp))
              clear hx0 hp hpk hop hnb hO4 hml hmem Z1 Z2 hl1 hl2 hxl
              go_wp2_with (first
                | (go_at_call 11; refine (HI.out _).mono ?_; rintro e w' ⟨rfl, rfl⟩)
                | (go_at_call 8; refine (HO4.out _ _ (HN.out _)).mono ?_; rintro e w2 ⟨rfl, hB2⟩
                   have hBa : Below w1.heap.size w1 w2 := ((Below.refl _ w1).alloc (Nat.le_refl _) _).trans (hB2.mono (by simp))
                   have v0 := (hBa.cell (p := ⟨g, 0, none⟩) hgw).trans y0
                   have v1 := (hBa.cell (p := ⟨g, 1, none⟩) hgw).trans y1
                   have v2 := (hBa.cell (p := ⟨g, 2, none⟩) hgw).trans y2
                   have v3 := (hBa.cell (p := ⟨g, 3, none⟩) hgw).trans y3
                   have v4 := (hBa.cell (p := ⟨g, 4, none⟩) hgw).trans y4
                   have hgv : g < w2.heap.size := Nat.lt_of_lt_of_le hgw hBa.size
                   have HBv := Lib.hid ((hBk.out.trans (hBa.mono hs1)).alloc (Nat.le_trans hs1 hBa.size) (.cells #[.int .i64 1, .int .i64 0, .float .f64 x, .float .f64 x, .float .f64 mx] 24))
                   clear hB2 hBa))
              refine (HC1.out _).mono ?_
              rintro e w' ⟨rfl, rfl⟩
              go_wp2_with fail
              refine (HC2.out _).mono ?_
              rintro e w' ⟨rfl, rfl⟩
              go_wp2_with fail
              refine (HC3.out _).mono ?_
              rintro e w' ⟨rfl, rfl⟩
              go_wp2_with fail
              exact ⟨⟨k + 1, by go_num, hlt, by rw [HPK.out]; rfl, HBv⟩, by simp only [intOf]; omega⟩
          · have hkl : k = l.length := by omega
            subst hkl
            have hdk : decide (l.length < l.length) = false := decide_eq_false hlt
            have hpk : (pk l l.length).length = pc := by unfold pk; rw [List.take_length]; exact HPC.out
            rw [hpk]
            have hcast : ((l.length - pc : Nat) : Int) + (pc : Int) = (l.length : Int) := by omega
            have hll : ((l.length : Int) == (l.length : Int)) = true := by simp
            have hgl := HF.out
            obtain ⟨z, Z⟩ : ∃ z, cf least greatest = z := ⟨_, rfl⟩
            have HC := Lib.hid (fun w => compare_is least greatest z hgl.1 hgl.2.1 Z w)
            have hE := HEND.out
            rw [Z] at hE
            have HNN := Lib.hid (fun w => isnan_any mean hgl.2.2 w)
            have HTW := Lib.hid (HT.out.below HBw.out)
            clear Z hgl hpk
            by_cases h0 : pc = 0
            · obtain ⟨hz, hm⟩ := hE.2 h0
              subst h0 hz hm
              have e0 : decide ((1 : Int) ≤ 0) = false := rfl
              have HN2 : nanB cano = true := by decide +kernel
              rw [HN2] at HNN
              generalize cano = cn at *
              clear hE HN2
              go_wp2_with fail
              refine (HC.out _).mono ?_
              rintro e w' ⟨rfl, rfl⟩
              go_wp2_with fail
              refine (HNN.out _).mono ?_
              rintro e w' ⟨rfl, rfl⟩
              go_wp2_with fail
              refine (awake_any _ HTW.out).mono ?_
              rintro e w' ⟨rfl, hB⟩
              go_wp2_with fail
              go_ret
              exact ⟨rfl, HBw.out.trans (hB.mono HBw.out.size)⟩
            · have hz := hE.1 h0
              have hzd : decide (z ≤ 0) = true := decide_eq_true hz
              have hpos : 0 < pc := by omega
              have hpd : decide (0 < pc) = true := decide_eq_true hpos
              clear hE hz
              go_wp2_with fail
              refine (HC.out _).mono ?_
              rintro e w' ⟨rfl, rfl⟩
              go_wp2_with fail
              refine (awake_any _ HTW.out).mono ?_
              rintro e w' ⟨rfl, hB⟩
              go_wp2_with fail
              go_ret
              exact ⟨rfl, HBw.out.trans (hB.mono HBw.out.size)⟩
theorem row_byte (v : Value) (l : List Nat) (k : Int) (w : World) (hq : FloatsAt w v l) (hk : 0 ≤ k ∧ k ≤ 255) (hT : Tabs w) :
    Calls Tryd.prog 6 #[v, .int .u8 k] w fun e w' => e = .returned (.bool true) ∧ Below w.heap.size w w' := by
  have h := row_any v l k.toNat w hq (by omega) hT
  rwa [Int.toNat_of_nonneg hk.1] at h
end Go.Proofs.YtkodhaapllmdhaaDoor
