/- awake. -/
import Derived.Test.YtojndkdhjhcphaaDoorPkU
import Derived.Test.YtojndkdhjhcphaaDoorPk16
import Derived.Test.YtojndkdhjhcphaaDoorPkZ
import Derived.Test.YtojndkdhjhcphaaDoorPkR
import Derived.Test.YtojndkdhjhcphaaDoorPkA
namespace Go.Proofs.YtojndkdhjhcphaaDoor
open Go.RowKit Sets Tr Rx Sp
theorem mdV_cells {w : World} {D : Nat} {a b c d e f : Value} (h : w.heap[D]? = some (.cells (mdV a b c d e f) 26 (0, 0))) : w.cell? ⟨D, 0, none⟩ = some a ∧ w.cell? ⟨D, 1, none⟩ = some b ∧ w.cell? ⟨D, 2, none⟩ = some c ∧ w.cell? ⟨D, 3, none⟩ = some d ∧ w.cell? ⟨D, 4, none⟩ = some e ∧ w.cell? ⟨D, 5, none⟩ = some f := by
  unfold mdV at h; simp [World.cell?, h]
theorem bool_at {w : World} {B q c : Nat} {l : List Bool} (h : OwnB B w (.slice (some ⟨q, 0, none⟩) l.length c) l) {j : Nat} (hj : j < l.length) : w.cell? ⟨q, j, none⟩ = some (.bool (l.getD j false)) := by
  have := World.ownsRow.cellAt h j (by omega)
  rw [this]
  unfold boL
  rw [List.getElem?_map, List.getElem?_eq_getElem hj, List.getD_eq_getElem?_getD, List.getElem?_eq_getElem hj]
  rfl
theorem own_some {w : World} {B : Nat} {e : TypeId} {s n : Nat} {v : Value} {xs : List Value} (h : w.ownsRow B e s v n xs) (hn : 0 < n) : ∃ q c, v = .slice (some ⟨q, 0, none⟩) n c := by
  rcases h.2 with ⟨h3, h4⟩ | ⟨g, cap, cur, h3, -⟩
  · omega
  · exact ⟨g, cap, h3⟩
set_option maxHeartbeats 6400000 in
set_option maxRecDepth 100000 in
theorem awake8_any (w : World) (hT : Tab w) : Calls Tryd.prog 10 #[] w fun e w' => e = .returned (.bool true) ∧ Below w.heap.size w w' := by
  have HO := Lib.hid (ofText_any _ _ _ _ w St.c0 ((Tz.rightB_C _ _).trans St.h0) St.p0 hT (tab_lt hT))
  have HT := Lib.hid hT
  clear hT
  go_enter Tryd.func10, Tryd.ntmps10
  go_wp2_with fail
  refine HO.out.mono ?_
  rintro e w1 ⟨hB1, sv, a, b, fv, c, d, rfl, hM⟩
  rw [St.m0] at hM
  have HB1 := Lib.hid hB1
  have HM := Lib.hid hM
  have HOne := Lib.hid (made_slices hM)
  clear hB1 hM HO
  go_upto_region 2 with (refine wpList_lay_made rfl _ _ rfl (mdV sv a b fv c d) rfl HOne.out w1.heap.size rfl rfl rfl ?_)
  obtain ⟨s0, t0, hsv⟩ : ∃ q c, sv = .slice (some ⟨q, 0, none⟩) 3 c := own_some HM.out.s (by decide)
  obtain ⟨s4, t4, hc⟩ : ∃ q k, c = .slice (some ⟨q, 0, none⟩) 1 k := own_some HM.out.em (by decide)
  subst hsv hc
  have hset := set_range HM.out.s (j := 2) (by decide)
  have hem := bool_at HM.out.em (j := 0) (by decide)
  have hal := (Below.refl w1.heap.size w1).alloc (Nat.le_refl _) (.cells (mdV (.slice (some ⟨s0, 0, none⟩) 3 t0) a b fv (.slice (some ⟨s4, 0, none⟩) 1 t4) d) 26)
  have HSet := Lib.hid (range_kept hset hal)
  have HEm := Lib.hid ((hal.cell (World.block_lt_of_cell? _ _ hem)).trans hem)
  have HUa := Lib.hid ((UAt.of HM.out.fi).kept hal)
  have HUb := Lib.hid ((UAt.of HM.out.la).kept hal)
  have HUf := Lib.hid ((UAt.of HM.out.f).kept hal)
  have HD : Hid ((w1.alloc (.cells (mdV (.slice (some ⟨s0, 0, none⟩) 3 t0) a b fv (.slice (some ⟨s4, 0, none⟩) 1 t4) d) 26)).heap[w1.heap.size]? = some (.cells (mdV (.slice (some ⟨s0, 0, none⟩) 3 t0) a b fv (.slice (some ⟨s4, 0, none⟩) 1 t4) d) 26 (0, 0))) := Lib.hid (heap_alloc_new w1 _)
  have HB2 := Lib.hid (HB1.out.trans (hal.mono HB1.out.size))
  clear HM HB1 hset hem hal
  generalize (w1.alloc (.cells (mdV (.slice (some ⟨s0, 0, none⟩) 3 t0) a b fv (.slice (some ⟨s4, 0, none⟩) 1 t4) d) 26)) = w2 at *
  generalize w1.heap.size = D at *
  clear w1
  have hDl : D < w2.heap.size := (Array.getElem?_eq_some_iff.1 HD.out).1
  have hsl : s0 < w2.heap.size := World.block_lt_of_cell? _ _ (HSet.out 0 _ rfl)
  have hel : s4 < w2.heap.size := World.block_lt_of_cell? _ _ HEm.out
  obtain ⟨k0, k1, k2, k3, k4, k5⟩ := mdV_cells HD.out
  obtain ⟨ua, va, hav, -⟩ := HUa.out
  obtain ⟨ub, vb, hbv, -⟩ := HUb.out
  obtain ⟨uf, vf, hfv, -⟩ := HUf.out
  rw [hav] at k1
  rw [hbv] at k2
  rw [hfv] at k3
  rw [hav] at HUa
  rw [hbv] at HUb
  rw [hfv] at HUf
  have hput : ∀ a : Act, a.put none undef = a := fun _ => rfl
  rw [hput]
  refine region_mix [(false, 0), (false, 1), (false, 2), (false, 3), (false, 4), (false, 5), (false, 6), (false, 7), (false, 8), (true, 9), (true, 10), (false, 11), (false, 12), (false, 13), (false, 14), (false, 15), (true, 16), (true, 17), (false, 18), (false, 19), (false, 20), (false, 21), (true, 22), (true, 23), (false, 24), (false, 25), (false, 26), (false, 27), (true, 28), (true, 29), (false, 30), (false, 31), (false, 32), (false, 33), (false, 34), (false, 35), (false, 36), (false, 37), (false, 38), (false, 39), (false, 40), (false, 41), (false, 42), (false, 43)] (fun w' => Below w2.heap.size w2 w') (by kernel_rfl) (by kernel_rfl) ((Below.refl _ _).drew) ?_
  simp only [planOps, List.map_cons, List.map_nil, List.getD_cons_zero, List.getD_cons_succ, List.length_cons, List.length_nil, List.drop_succ_cons, List.drop_zero]
  refine mix_seg (seg := [_, _, _, _, _, _, _, _, _]) rfl ((Below.refl _ _).drew) ?_
  intro ι hι F hF
  have g0 := fun n => ((hF n).cell (p := ⟨D, 0, none⟩) hDl).trans k0
  have g1 := fun n => ((hF n).cell (p := ⟨D, 1, none⟩) hDl).trans k1
  have g2 := fun n => ((hF n).cell (p := ⟨D, 2, none⟩) hDl).trans k2
  have g3 := fun n => ((hF n).cell (p := ⟨D, 3, none⟩) hDl).trans k3
  have g4 := fun n => ((hF n).cell (p := ⟨D, 4, none⟩) hDl).trans k4
  have ge := fun n => ((hF n).cell (p := ⟨s4, 0, none⟩) hel).trans HEm.out
  have z0 := fun n => ((hF n).cell (p := ⟨s0, 8, none⟩) hsl).trans (HSet.out 0 _ rfl)
  have z1 := fun n => ((hF n).cell (p := ⟨s0, 9, none⟩) hsl).trans (HSet.out 1 _ rfl)
  have z2 := fun n => ((hF n).cell (p := ⟨s0, 10, none⟩) hsl).trans (HSet.out 2 _ rfl)
  have z3 := fun n => ((hF n).cell (p := ⟨s0, 11, none⟩) hsl).trans (HSet.out 3 _ rfl)
  repeat (go_big_quiet_step (fail))
  refine wpQuiet_nil ?_
  clear g0 g1 g2 g3 g4 ge z0 z1 z2 z3 hF hι F
  refine mix_eff (fun K hK => ?_)
  go_wp2
  have HX3 : Hid (Below w2.heap.size w2 (w2.alloc (.cells #[.int .u8 99] 5)).drew) := Lib.hid (((Below.refl w2.heap.size w2).alloc (Nat.le_refl _) _).drew)
  refine mix_on hK HX3.out ?_
  clear hK K
  refine mix_eff (fun K hK => ?_)
  have hbt : BytesAt (w2.alloc (.cells #[.int .u8 99] 5)).drew (.slice (some ⟨w2.heap.size, 0, none⟩) 1 1) [99] := Lt.bytes_lit w2 [99] (by decide) #[.int .u8 99] rfl (by decide)
  have hof := of_any _ [99] _ hbt
  rw [show ofN [99] = 633825300114114700748351602688 from by decide +kernel] at hof
  go_wp2_with (go_at_call 25; refine hof.mono ?_; rintro e w4 ⟨rfl, hq⟩; have HX4 := Lib.hid (HX3.out.trans (hq.mono HX3.out.size)); clear hq)
  refine mix_on hK HX4.out ?_
  clear hK K hbt hof
  refine mix_seg (seg := [_, _, _, _, _]) rfl HX4.out ?_
  intro ι hι F hF
  have g0 := fun n => ((hF n).cell (p := ⟨D, 0, none⟩) hDl).trans k0
  have g1 := fun n => ((hF n).cell (p := ⟨D, 1, none⟩) hDl).trans k1
  have g2 := fun n => ((hF n).cell (p := ⟨D, 2, none⟩) hDl).trans k2
  have g3 := fun n => ((hF n).cell (p := ⟨D, 3, none⟩) hDl).trans k3
  have g4 := fun n => ((hF n).cell (p := ⟨D, 4, none⟩) hDl).trans k4
  have ge := fun n => ((hF n).cell (p := ⟨s4, 0, none⟩) hel).trans HEm.out
  have z0 := fun n => ((hF n).cell (p := ⟨s0, 8, none⟩) hsl).trans (HSet.out 0 _ rfl)
  have z1 := fun n => ((hF n).cell (p := ⟨s0, 9, none⟩) hsl).trans (HSet.out 1 _ rfl)
  have z2 := fun n => ((hF n).cell (p := ⟨s0, 10, none⟩) hsl).trans (HSet.out 2 _ rfl)
  have z3 := fun n => ((hF n).cell (p := ⟨s0, 11, none⟩) hsl).trans (HSet.out 3 _ rfl)
  repeat (first | (go_big_quiet_step (fail)) | (refine BigFrame.wpQuiet_want rfl (fun K hK => ?_); refine Kn.quiet_eql 37 _ _ _ rfl _ _ rfl rfl (by kernel_rfl) true (fun w' => Kn.set_eq 633825300114114700748351602688 (by decide) w') ?_; refine hK _ ?_; clear hK K; simp only [Act.put, List.setIfInBounds_toArray, List.set_cons_zero, List.set_cons_succ]))
  refine wpQuiet_nil ?_
  clear g0 g1 g2 g3 g4 ge z0 z1 z2 z3 hF hι F
  refine mix_eff (fun K hK => ?_)
  go_wp2
  have HX5 : Hid (Below w2.heap.size w2 (w4.alloc (.cells #[.int .u64 5] 35))) := Lib.hid ((HX4.out).alloc (HX4.out).size _)
  refine mix_on hK HX5.out ?_
  clear hK K
  refine mix_eff (fun K hK => ?_)
  have hlit := UAt.litc w4 [5] #[.int .u64 5] rfl
  go_wp2_with (go_at_call 9; refine (numbers_yes _ _ [5] _ (HUa.out.kept HX5.out) hlit (by decide)).mono ?_; rintro e w6 ⟨rfl, hq⟩; have HX6 := Lib.hid (HX5.out.trans (hq.mono HX5.out.size)); clear hq)
  refine mix_on hK HX6.out ?_
  clear hK K hlit
  refine mix_seg (seg := [_, _, _, _]) rfl HX6.out ?_
  intro ι hι F hF
  have g0 := fun n => ((hF n).cell (p := ⟨D, 0, none⟩) hDl).trans k0
  have g1 := fun n => ((hF n).cell (p := ⟨D, 1, none⟩) hDl).trans k1
  have g2 := fun n => ((hF n).cell (p := ⟨D, 2, none⟩) hDl).trans k2
  have g3 := fun n => ((hF n).cell (p := ⟨D, 3, none⟩) hDl).trans k3
  have g4 := fun n => ((hF n).cell (p := ⟨D, 4, none⟩) hDl).trans k4
  have ge := fun n => ((hF n).cell (p := ⟨s4, 0, none⟩) hel).trans HEm.out
  have z0 := fun n => ((hF n).cell (p := ⟨s0, 8, none⟩) hsl).trans (HSet.out 0 _ rfl)
  have z1 := fun n => ((hF n).cell (p := ⟨s0, 9, none⟩) hsl).trans (HSet.out 1 _ rfl)
  have z2 := fun n => ((hF n).cell (p := ⟨s0, 10, none⟩) hsl).trans (HSet.out 2 _ rfl)
  have z3 := fun n => ((hF n).cell (p := ⟨s0, 11, none⟩) hsl).trans (HSet.out 3 _ rfl)
  repeat (go_big_quiet_step (fail))
  refine wpQuiet_nil ?_
  clear g0 g1 g2 g3 g4 ge z0 z1 z2 z3 hF hι F
  refine mix_eff (fun K hK => ?_)
  go_wp2
  have HX7 : Hid (Below w2.heap.size w2 (w6.alloc (.cells #[.int .u64 6] 35))) := Lib.hid ((HX6.out).alloc (HX6.out).size _)
  refine mix_on hK HX7.out ?_
  clear hK K
  refine mix_eff (fun K hK => ?_)
  have hlit := UAt.litc w6 [6] #[.int .u64 6] rfl
  go_wp2_with (go_at_call 9; refine (numbers_yes _ _ [6] _ (HUb.out.kept HX7.out) hlit (by decide)).mono ?_; rintro e w8 ⟨rfl, hq⟩; have HX8 := Lib.hid (HX7.out.trans (hq.mono HX7.out.size)); clear hq)
  refine mix_on hK HX8.out ?_
  clear hK K hlit
  refine mix_seg (seg := [_, _, _, _]) rfl HX8.out ?_
  intro ι hι F hF
  have g0 := fun n => ((hF n).cell (p := ⟨D, 0, none⟩) hDl).trans k0
  have g1 := fun n => ((hF n).cell (p := ⟨D, 1, none⟩) hDl).trans k1
  have g2 := fun n => ((hF n).cell (p := ⟨D, 2, none⟩) hDl).trans k2
  have g3 := fun n => ((hF n).cell (p := ⟨D, 3, none⟩) hDl).trans k3
  have g4 := fun n => ((hF n).cell (p := ⟨D, 4, none⟩) hDl).trans k4
  have ge := fun n => ((hF n).cell (p := ⟨s4, 0, none⟩) hel).trans HEm.out
  have z0 := fun n => ((hF n).cell (p := ⟨s0, 8, none⟩) hsl).trans (HSet.out 0 _ rfl)
  have z1 := fun n => ((hF n).cell (p := ⟨s0, 9, none⟩) hsl).trans (HSet.out 1 _ rfl)
  have z2 := fun n => ((hF n).cell (p := ⟨s0, 10, none⟩) hsl).trans (HSet.out 2 _ rfl)
  have z3 := fun n => ((hF n).cell (p := ⟨s0, 11, none⟩) hsl).trans (HSet.out 3 _ rfl)
  repeat (go_big_quiet_step (fail))
  refine wpQuiet_nil ?_
  clear g0 g1 g2 g3 g4 ge z0 z1 z2 z3 hF hι F
  refine mix_eff (fun K hK => ?_)
  go_wp2
  have HX9 : Hid (Below w2.heap.size w2 (w8.alloc (.cells #[.int .u64 2, .int .u64 0, .int .u64 0] 35))) := Lib.hid ((HX8.out).alloc (HX8.out).size _)
  refine mix_on hK HX9.out ?_
  clear hK K
  refine mix_eff (fun K hK => ?_)
  have hlit := UAt.litc w8 [2, 0, 0] #[.int .u64 2, .int .u64 0, .int .u64 0] rfl
  go_wp2_with (go_at_call 9; refine (numbers_yes _ _ [2, 0, 0] _ (HUf.out.kept HX9.out) hlit (by decide)).mono ?_; rintro e w10 ⟨rfl, hq⟩; have HX10 := Lib.hid (HX9.out.trans (hq.mono HX9.out.size)); clear hq)
  refine mix_on hK HX10.out ?_
  clear hK K hlit
  refine mix_seg (seg := [_, _, _, _, _, _, _, _, _, _, _, _, _, _]) (rest := []) rfl HX10.out ?_
  intro ι hι F hF
  have g0 := fun n => ((hF n).cell (p := ⟨D, 0, none⟩) hDl).trans k0
  have g1 := fun n => ((hF n).cell (p := ⟨D, 1, none⟩) hDl).trans k1
  have g2 := fun n => ((hF n).cell (p := ⟨D, 2, none⟩) hDl).trans k2
  have g3 := fun n => ((hF n).cell (p := ⟨D, 3, none⟩) hDl).trans k3
  have g4 := fun n => ((hF n).cell (p := ⟨D, 4, none⟩) hDl).trans k4
  have ge := fun n => ((hF n).cell (p := ⟨s4, 0, none⟩) hel).trans HEm.out
  have z0 := fun n => ((hF n).cell (p := ⟨s0, 8, none⟩) hsl).trans (HSet.out 0 _ rfl)
  have z1 := fun n => ((hF n).cell (p := ⟨s0, 9, none⟩) hsl).trans (HSet.out 1 _ rfl)
  have z2 := fun n => ((hF n).cell (p := ⟨s0, 10, none⟩) hsl).trans (HSet.out 2 _ rfl)
  have z3 := fun n => ((hF n).cell (p := ⟨s0, 11, none⟩) hsl).trans (HSet.out 3 _ rfl)
  repeat (go_big_quiet_step (fail))
  refine wpQuiet_nil ?_
  clear g0 g1 g2 g3 g4 ge z0 z1 z2 z3 hF hι F
  show wpList _ _ _ _ _ _
  go_wp2
  refine NoPanic.normal ?_
  go_wp2
  go_ret
  exact ⟨rfl, HB2.out.trans (HX10.out.mono HB2.out.size)⟩
end Go.Proofs.YtojndkdhjhcphaaDoor
