/- The law ClassesKnown, walked. -/
import Derived.Test.YtdhnaldjofpeeaaDoorKnwM
namespace Go.Proofs.YtdhnaldjofpeeaaDoor
open Go.RowKit Sets Cls
set_option maxHeartbeats 12800000 in
set_option maxRecDepth 100000 in
theorem known_any (w : World) (hT : Tab w) (hg : 0 < w.heap.size) : Calls Tryd.prog 3 #[] w fun e w' => e = .returned (.bool true) ∧ Below w.heap.size w w' := by
  have hz := zeroP
  go_enter Tryd.func3, Tryd.ntmps3
  go_wp2_with fail
  refine (two_any _).mono ?_
  rintro e w1 ⟨rfl, hb1⟩
  have hP1 : PartAt (w1.alloc (.cells (partC (fun _ => 0) 0) 24)) w1.heap.size (fun _ => 0) 0 := PartAt.new w1 _ _
  have h1 := PartAt.new w1 (cls (same L2)) 3
  have hB2 : Below w.heap.size w (w1.alloc (.cells (partC (cls (same L2)) 3) 24)) := hb1.alloc hb1.size _
  have hsr := World.setRow_alloc_new w1 (partC (fun _ => 0) 0) (partC (cls (same L2)) 3) 24
  have hl1 := h1.lt
  generalize w1.alloc (.cells (partC (cls (same L2)) 3) 24) = w2 at *
  have hgw1 : w.heap.size ≤ w1.heap.size := hb1.size
  clear hb1
  go_wp2_with (first
    | (refine wpList_store_row rfl 24 (.tmp 1) (.tmp 6) rfl w1.heap.size (partC (cls (same L2)) 3) rfl rfl 24 (partC (fun _ => 0) 0) hP1 (sizeP _ _) (by rw [partC_size, partC_size]) (partC_one _ _) ?_; rw [hsr])
    | (refine wpList_load_row rfl 24 (.tmp 1) rfl w1.heap.size rfl 24 (partC (cls (same L2)) 3) (0, 0) _ h1 Tryd.underlying24 rfl (sizeP _ _) ?_))
  refine (sets_any (cls (same L2)) 3 w2 (by decide) in3 right3).mono ?_
  rintro e w3 ⟨g, rfl, hgg, hrow, hb3⟩
  rw [rows2] at hrow
  have h1 := h1.kept hb3 hl1
  have hl1 := h1.lt
  have hgl := hrow.lt
  have hB3 := hB2.trans (hb3.mono hB2.size)
  clear hb3 hB2 hP1 hsr
  go_wp2_with fail
  refine (Refine_nil _).mono ?_
  rintro e w4 ⟨rfl, hb4⟩
  have h1 := h1.kept hb4 hl1
  have hrow := hrow.kept hb4 hgl
  have hB4 := hB3.trans (hb4.mono hB3.size)
  have hl1 := h1.lt
  have hgl := hrow.lt
  clear hb4 hB3
  have hP3 : PartAt (w4.alloc (.cells (partC (fun _ => 0) 0) 24)) w4.heap.size (fun _ => 0) 0 := PartAt.new w4 _ _
  have h3 := PartAt.new w4 (cls (same [])) 1
  have hb5 : Below w4.heap.size w4 (w4.alloc (.cells (partC (cls (same [])) 1) 24)) := (Below.refl _ _).alloc (Nat.le_refl _) _
  have hsr := World.setRow_alloc_new w4 (partC (fun _ => 0) 0) (partC (cls (same [])) 1) 24
  generalize w4.alloc (.cells (partC (cls (same [])) 1) 24) = w5 at *
  have h1 := h1.kept hb5 hl1
  have hrow := hrow.kept hb5 hgl
  have hB5 := hB4.trans (hb5.mono hB4.size)
  have hl1 := h1.lt
  have hgl := hrow.lt
  have hl3 := h3.lt
  have hP4 : PartAt (w5.alloc (.cells (partC (fun _ => 0) 0) 24)) w5.heap.size (fun _ => 0) 0 := PartAt.new w5 _ _
  have h4 := PartAt.new w5 (cls (same L2)) 3
  have hb6 : Below w5.heap.size w5 (w5.alloc (.cells (partC (cls (same L2)) 3) 24)) := (Below.refl _ _).alloc (Nat.le_refl _) _
  have hsr2 := World.setRow_alloc_new w5 (partC (fun _ => 0) 0) (partC (cls (same L2)) 3) 24
  generalize w5.alloc (.cells (partC (cls (same L2)) 3) 24) = w6 at *
  obtain ⟨P1, hP1e⟩ : ∃ P1, P1 = w1.heap.size := ⟨_, rfl⟩
  rw [← hP1e] at h1 hl1 hgw1 ⊢
  clear hP1e
  have h3w := h3
  have h1w := h1
  have c6 := h4.cellN
  have f6 := h4.free 256
  have hl4 := h4.lt
  have g1 := h1.kept hb6 hl1
  have g3 := h3.kept hb6 hl3
  have grow := hrow.kept hb6 hgl
  have hB6 := hB5.trans (hb6.mono hB5.size)
  have k4 := h4.setN 4
  have hb7 : Below w5.heap.size w6 (w6.setCell ⟨w5.heap.size, 256, none⟩ (.int .i64 4)) := (Below.refl _ _).setCell (p := ⟨w5.heap.size, 256, none⟩) (Nat.le_refl _) _
  have hsz7 : (w6.setCell ⟨w5.heap.size, 256, none⟩ (.int .i64 4)).heap.size = w6.heap.size := by simp
  generalize hw7 : w6.setCell ⟨w5.heap.size, 256, none⟩ (.int .i64 4) = w7 at *
  have k1 := g1.kept hb7 hl1
  have k3 := g3.kept hb7 hl3
  have krow := grow.kept hb7 hgl
  have hB7 := hB6.trans (hb7.mono (by have := hB5.size; omega))
  have hP5 : PartAt (w7.alloc (.cells (partC (fun _ => 0) 0) 24)) w7.heap.size (fun _ => 0) 0 := PartAt.new w7 _ _
  have h5 := PartAt.new w7 (cls (same L2)) 3
  have hb8 : Below w7.heap.size w7 (w7.alloc (.cells (partC (cls (same L2)) 3) 24)) := (Below.refl _ _).alloc (Nat.le_refl _) _
  have hsr3 := World.setRow_alloc_new w7 (partC (fun _ => 0) 0) (partC (cls (same L2)) 3) 24
  generalize w7.alloc (.cells (partC (cls (same L2)) 3) 24) = w8 at *
  have c8 := h5.cell 0 (by decide)
  have f8 := h5.free 0
  have m5 := (h5.set 0 1 (by decide)).congr (g := turn) (fun d _ => rfl)
  have hb9 : Below w7.heap.size w8 (w8.setCell ⟨w7.heap.size, 0, none⟩ (.int .u8 (1 : Nat))) := (Below.refl _ _).setCell (p := ⟨w7.heap.size, 0, none⟩) (Nat.le_refl _) _
  have hsz9 : (w8.setCell ⟨w7.heap.size, 0, none⟩ (.int .u8 (1 : Nat))).heap.size = w8.heap.size := by simp
  generalize hw9 : w8.setCell ⟨w7.heap.size, 0, none⟩ (.int .u8 (1 : Nat)) = W at *
  have hbW := hb8.trans hb9
  have hl7 : P1 < w7.heap.size ∧ w4.heap.size < w7.heap.size ∧ w5.heap.size < w7.heap.size ∧ g < w7.heap.size := by omega
  have h1 := k1.kept hbW hl7.1
  have h3 := k3.kept hbW hl7.2.1
  have h4' := k4.kept hbW hl7.2.2.1
  have hrow := krow.kept hbW hl7.2.2.2
  have h5' := m5
  have hB0 := hB7.trans (hbW.mono hB7.size)
  rw [show ((1 : Nat) : Int) = 1 from rfl] at hw9
  have hP5l := h5'.lt
  clear hb6 hb7 hb8 hb9 hbW hB4 hB5 hB6 hB7 hsz7 hsz9 g1 g3 grow k3 k4 krow m5 hb5
  go_wp2_with (first
    | (refine wpList_store_row rfl 24 (.tmp 3) (.tmp 9) rfl w4.heap.size (partC (cls (same [])) 1) rfl rfl 24 (partC (fun _ => 0) 0) hP3 (sizeP _ _) (by rw [partC_size, partC_size]) (partC_one _ _) ?_; rw [hsr])
    | (refine wpList_load_row (o := ⟨some 10, _, _, _, _, _⟩) rfl 24 (.tmp 1) rfl P1 rfl 24 (partC (cls (same L2)) 3) (0, 0) _ h1w Tryd.underlying24 rfl (sizeP _ _) ?_)
    | (refine wpList_store_row rfl 24 (.tmp 4) (.tmp 10) rfl w5.heap.size (partC (cls (same L2)) 3) rfl rfl 24 (partC (fun _ => 0) 0) hP4 (sizeP _ _) (by rw [partC_size, partC_size]) (partC_one _ _) ?_; rw [hsr2])
    | (refine wpList_load_row (o := ⟨some 12, _, _, _, _, _⟩) rfl 24 (.tmp 1) rfl P1 rfl 24 (partC (cls (same L2)) 3) (0, 0) _ k1 Tryd.underlying24 rfl (sizeP _ _) ?_)
    | (refine wpList_store_row rfl 24 (.tmp 5) (.tmp 12) rfl w7.heap.size (partC (cls (same L2)) 3) rfl rfl 24 (partC (fun _ => 0) 0) hP5 (sizeP _ _) (by rw [partC_size, partC_size]) (partC_one _ _) ?_; rw [hsr3]))
  obtain ⟨hl1, hl3, hl4, hgl⟩ : P1 < W.heap.size ∧ w4.heap.size < W.heap.size ∧ w5.heap.size < W.heap.size ∧ g < W.heap.size := by omega
  have hl5 := hP5l
  have h4 := h4'
  have h5 := h5'
  have cN3 := h3.cellN
  clear hsr hsr2 hsr3 hP3 hP4 hP5 hw7 hw9 c6 f6 c8 f8 h1w h3w k1 hz h4' h5'
  have x00 : W.cell? ⟨g, 0, none⟩ = some (.int .u64 (wd (full ^^^ rangeN 97 122) 0)) := hrow.cell 0 0 (by decide) (by decide)
  have x01 : W.cell? ⟨g, 1, none⟩ = some (.int .u64 (wd (full ^^^ rangeN 97 122) 1)) := hrow.cell 0 1 (by decide) (by decide)
  have x02 : W.cell? ⟨g, 2, none⟩ = some (.int .u64 (wd (full ^^^ rangeN 97 122) 2)) := hrow.cell 0 2 (by decide) (by decide)
  have x03 : W.cell? ⟨g, 3, none⟩ = some (.int .u64 (wd (full ^^^ rangeN 97 122) 3)) := hrow.cell 0 3 (by decide) (by decide)
  have x10 : W.cell? ⟨g, 4, none⟩ = some (.int .u64 (wd (ofN [97]) 0)) := hrow.cell 1 0 (by decide) (by decide)
  have x11 : W.cell? ⟨g, 5, none⟩ = some (.int .u64 (wd (ofN [97]) 1)) := hrow.cell 1 1 (by decide) (by decide)
  have x12 : W.cell? ⟨g, 6, none⟩ = some (.int .u64 (wd (ofN [97]) 2)) := hrow.cell 1 2 (by decide) (by decide)
  have x13 : W.cell? ⟨g, 7, none⟩ = some (.int .u64 (wd (ofN [97]) 3)) := hrow.cell 1 3 (by decide) (by decide)
  have x20 : W.cell? ⟨g, 8, none⟩ = some (.int .u64 (wd (rangeN 98 122) 0)) := hrow.cell 2 0 (by decide) (by decide)
  have x21 : W.cell? ⟨g, 9, none⟩ = some (.int .u64 (wd (rangeN 98 122) 1)) := hrow.cell 2 1 (by decide) (by decide)
  have x22 : W.cell? ⟨g, 10, none⟩ = some (.int .u64 (wd (rangeN 98 122) 2)) := hrow.cell 2 2 (by decide) (by decide)
  have x23 : W.cell? ⟨g, 11, none⟩ = some (.int .u64 (wd (rangeN 98 122) 3)) := hrow.cell 2 3 (by decide) (by decide)
  have e0 := setEq_is (S := (full ^^^ rangeN 97 122)) (T := (full ^^^ rangeN 97 122)) (by decide +kernel) (by decide +kernel) true (by simp)
  have e1 := setEq_is (S := (ofN [97])) (T := (ofN [97])) (by decide +kernel) (by decide +kernel) true (by simp)
  have e2 := setEq_is (S := (rangeN 98 122)) (T := (rangeN 98 122)) (by decide +kernel) (by decide +kernel) true (by simp)
  refine region_mix [(false, 0), (false, 1), (false, 2), (false, 3), (false, 4), (false, 5), (false, 6), (true, 7), (true, 8), (false, 9), (false, 10), (false, 11), (false, 12), (false, 13), (false, 14), (true, 15), (true, 16), (false, 17), (false, 18), (false, 19), (false, 20), (false, 21), (false, 22), (true, 23), (false, 24), (false, 25), (false, 26), (false, 27), (true, 28), (true, 29), (false, 30), (false, 31), (false, 32), (false, 33), (true, 34), (true, 35), (false, 36), (false, 37), (false, 38), (false, 39), (false, 40), (false, 41), (false, 42), (false, 43), (true, 44), (false, 45), (false, 46), (false, 47), (true, 48), (false, 49), (false, 50), (false, 51), (false, 52), (true, 53), (false, 54), (false, 55), (false, 56), (false, 57), (true, 58), (false, 59), (false, 60), (false, 61), (false, 62), (true, 63), (false, 64), (false, 65), (false, 66), (false, 67), (false, 68), (true, 69), (false, 70), (false, 71), (false, 72), (false, 73), (false, 74), (false, 75), (true, 76), (false, 77)] (fun w' => Below W.heap.size W w') (by kernel_rfl) (by kernel_rfl) ((Below.refl W.heap.size W).drew) ?_
  simp only [List.append_eq, List.cons_append, List.nil_append, planOps, List.map_cons, List.map_nil, List.getD_cons_zero, List.getD_cons_succ, List.length_cons, List.length_nil, List.drop_succ_cons, List.drop_zero]
  refine mix_seg (seg := [_, _, _, _, _, _, _]) rfl ((Below.refl W.heap.size W).drew) ?_
  intro ι hι F hF
  have f00 := fun n => ((hF n).cell (p := ⟨g, 0, none⟩) hgl).trans x00
  have f01 := fun n => ((hF n).cell (p := ⟨g, 1, none⟩) hgl).trans x01
  have f02 := fun n => ((hF n).cell (p := ⟨g, 2, none⟩) hgl).trans x02
  have f03 := fun n => ((hF n).cell (p := ⟨g, 3, none⟩) hgl).trans x03
  have f10 := fun n => ((hF n).cell (p := ⟨g, 4, none⟩) hgl).trans x10
  have f11 := fun n => ((hF n).cell (p := ⟨g, 5, none⟩) hgl).trans x11
  have f12 := fun n => ((hF n).cell (p := ⟨g, 6, none⟩) hgl).trans x12
  have f13 := fun n => ((hF n).cell (p := ⟨g, 7, none⟩) hgl).trans x13
  have f20 := fun n => ((hF n).cell (p := ⟨g, 8, none⟩) hgl).trans x20
  have f21 := fun n => ((hF n).cell (p := ⟨g, 9, none⟩) hgl).trans x21
  have f22 := fun n => ((hF n).cell (p := ⟨g, 10, none⟩) hgl).trans x22
  have f23 := fun n => ((hF n).cell (p := ⟨g, 11, none⟩) hgl).trans x23
  have g0 := fun n => ((hF n).cell (p := ⟨w4.heap.size, 256, none⟩) hl3).trans cN3
  repeat (first | (refine BigFrame.wpQuiet_want rfl (fun K hK => ?_); refine quiet_load_row 24 (.tmp 1) rfl P1 rfl 24 (partC (cls (same L2)) 3) (0, 0) _ (fun w' hw' => by obtain ⟨n, rfl⟩ := hw'; exact (h1.kept (hF n) hl1)) Tryd.underlying24 rfl (sizeP _ _) ?_; refine hK _ ?_; clear hK K; simp only [Act.put, List.setIfInBounds_toArray, List.set_cons_zero, List.set_cons_succ]) | (refine BigFrame.wpQuiet_want rfl (fun K hK => ?_); refine quiet_load_row 24 (.tmp 3) rfl w4.heap.size rfl 24 (partC (cls (same [])) 1) (0, 0) _ (fun w' hw' => by obtain ⟨n, rfl⟩ := hw'; exact (h3.kept (hF n) hl3)) Tryd.underlying24 rfl (sizeP _ _) ?_; refine hK _ ?_; clear hK K; simp only [Act.put, List.setIfInBounds_toArray, List.set_cons_zero, List.set_cons_succ]) | (refine BigFrame.wpQuiet_want rfl (fun K hK => ?_); refine quiet_load_row 24 (.tmp 4) rfl w5.heap.size rfl 24 (partC (cls (same L2)) 4) (0, 0) _ (fun w' hw' => by obtain ⟨n, rfl⟩ := hw'; exact (h4.kept (hF n) hl4)) Tryd.underlying24 rfl (sizeP _ _) ?_; refine hK _ ?_; clear hK K; simp only [Act.put, List.setIfInBounds_toArray, List.set_cons_zero, List.set_cons_succ]) | (refine BigFrame.wpQuiet_want rfl (fun K hK => ?_); refine quiet_load_row 24 (.tmp 5) rfl w7.heap.size rfl 24 (partC turn 3) (0, 0) _ (fun w' hw' => by obtain ⟨n, rfl⟩ := hw'; exact (h5.kept (hF n) hl5)) Tryd.underlying24 rfl (sizeP _ _) ?_; refine hK _ ?_; clear hK K; simp only [Act.put, List.setIfInBounds_toArray, List.set_cons_zero, List.set_cons_succ]) | (refine BigFrame.wpQuiet_want rfl (fun K hK => ?_); refine quiet_build 24 #[] rfl #[] (by simp) (.agg (partC (fun _ => 0) 0)) buildP0 ?_; refine hK _ ?_; clear hK K; simp only [Act.put, List.setIfInBounds_toArray, List.set_cons_zero, List.set_cons_succ]) | (go_big_quiet_step (fail)))
  refine wpQuiet_nil ?_
  clear f00 f01 f02 f03 f10 f11 f12 f13 f20 f21 f22 f23 g0 hF hι F
  refine mix_eff (fun K hK => ?_)
  go_wp2_with (go_at_call 12; refine (range_az _).mono ?_; rintro e ww1 ⟨rfl, hb1⟩)
  have hB1 : Below W.heap.size W ww1 := (Below.refl W.heap.size W).drew.trans (hb1.mono ((Below.refl W.heap.size W).drew).size)
  clear hb1
  refine mix_on hK hB1 ?_
  clear hK K
  refine mix_eff (fun K hK => ?_)
  go_wp2_with (go_at_call 11; refine (not_any _ _).mono ?_; rintro e ww2 ⟨rfl, hb2⟩)
  have hB2 : Below W.heap.size W ww2 := hB1.trans (hb2.mono (hB1).size)
  clear hb2
  refine mix_on hK hB2 ?_
  clear hK K
  refine mix_seg (seg := [_, _, _, _, _, _]) rfl hB2 ?_
  intro ι hι F hF
  have f00 := fun n => ((hF n).cell (p := ⟨g, 0, none⟩) hgl).trans x00
  have f01 := fun n => ((hF n).cell (p := ⟨g, 1, none⟩) hgl).trans x01
  have f02 := fun n => ((hF n).cell (p := ⟨g, 2, none⟩) hgl).trans x02
  have f03 := fun n => ((hF n).cell (p := ⟨g, 3, none⟩) hgl).trans x03
  have f10 := fun n => ((hF n).cell (p := ⟨g, 4, none⟩) hgl).trans x10
  have f11 := fun n => ((hF n).cell (p := ⟨g, 5, none⟩) hgl).trans x11
  have f12 := fun n => ((hF n).cell (p := ⟨g, 6, none⟩) hgl).trans x12
  have f13 := fun n => ((hF n).cell (p := ⟨g, 7, none⟩) hgl).trans x13
  have f20 := fun n => ((hF n).cell (p := ⟨g, 8, none⟩) hgl).trans x20
  have f21 := fun n => ((hF n).cell (p := ⟨g, 9, none⟩) hgl).trans x21
  have f22 := fun n => ((hF n).cell (p := ⟨g, 10, none⟩) hgl).trans x22
  have f23 := fun n => ((hF n).cell (p := ⟨g, 11, none⟩) hgl).trans x23
  have g0 := fun n => ((hF n).cell (p := ⟨w4.heap.size, 256, none⟩) hl3).trans cN3
  repeat (first | (refine BigFrame.wpQuiet_want rfl (fun K hK => ?_); refine quiet_load_row 24 (.tmp 1) rfl P1 rfl 24 (partC (cls (same L2)) 3) (0, 0) _ (fun w' hw' => by obtain ⟨n, rfl⟩ := hw'; exact (h1.kept (hF n) hl1)) Tryd.underlying24 rfl (sizeP _ _) ?_; refine hK _ ?_; clear hK K; simp only [Act.put, List.setIfInBounds_toArray, List.set_cons_zero, List.set_cons_succ]) | (refine BigFrame.wpQuiet_want rfl (fun K hK => ?_); refine quiet_load_row 24 (.tmp 3) rfl w4.heap.size rfl 24 (partC (cls (same [])) 1) (0, 0) _ (fun w' hw' => by obtain ⟨n, rfl⟩ := hw'; exact (h3.kept (hF n) hl3)) Tryd.underlying24 rfl (sizeP _ _) ?_; refine hK _ ?_; clear hK K; simp only [Act.put, List.setIfInBounds_toArray, List.set_cons_zero, List.set_cons_succ]) | (refine BigFrame.wpQuiet_want rfl (fun K hK => ?_); refine quiet_load_row 24 (.tmp 4) rfl w5.heap.size rfl 24 (partC (cls (same L2)) 4) (0, 0) _ (fun w' hw' => by obtain ⟨n, rfl⟩ := hw'; exact (h4.kept (hF n) hl4)) Tryd.underlying24 rfl (sizeP _ _) ?_; refine hK _ ?_; clear hK K; simp only [Act.put, List.setIfInBounds_toArray, List.set_cons_zero, List.set_cons_succ]) | (refine BigFrame.wpQuiet_want rfl (fun K hK => ?_); refine quiet_load_row 24 (.tmp 5) rfl w7.heap.size rfl 24 (partC turn 3) (0, 0) _ (fun w' hw' => by obtain ⟨n, rfl⟩ := hw'; exact (h5.kept (hF n) hl5)) Tryd.underlying24 rfl (sizeP _ _) ?_; refine hK _ ?_; clear hK K; simp only [Act.put, List.setIfInBounds_toArray, List.set_cons_zero, List.set_cons_succ]) | (refine BigFrame.wpQuiet_want rfl (fun K hK => ?_); refine quiet_build 24 #[] rfl #[] (by simp) (.agg (partC (fun _ => 0) 0)) buildP0 ?_; refine hK _ ?_; clear hK K; simp only [Act.put, List.setIfInBounds_toArray, List.set_cons_zero, List.set_cons_succ]) | (go_big_quiet_step (fail)))
  refine wpQuiet_nil ?_
  clear f00 f01 f02 f03 f10 f11 f12 f13 f20 f21 f22 f23 g0 hF hι F
  refine mix_eff (fun K hK => ?_)
  go_wp2_with (fail)
  have hy3 := bytesAt_one' ww2 97 (by decide)
  have hB3 : Below W.heap.size W (ww2.alloc (.cells #[.int .u8 97] 5)) := hB2.alloc (hB2).size _
  replace hy3 : BytesAt (ww2.alloc (.cells #[.int .u8 97] 5)) (.slice (some ⟨ww2.heap.size, 0, none⟩) 1 1) [97] := hy3
  generalize ww2.alloc (.cells #[.int .u8 97] 5) = ww3 at *
  refine mix_on hK hB3 ?_
  clear hK K
  refine mix_eff (fun K hK => ?_)
  go_wp2_with (go_at_call 13; refine (of_any _ [97] _ hy3).mono ?_; rintro e ww4 ⟨rfl, hb4⟩)
  have hB4 : Below W.heap.size W ww4 := hB3.trans (hb4.mono (hB3).size)
  clear hb4
  refine mix_on hK hB4 ?_
  clear hK K
  refine mix_seg (seg := [_, _, _, _, _, _]) rfl hB4 ?_
  intro ι hι F hF
  have f00 := fun n => ((hF n).cell (p := ⟨g, 0, none⟩) hgl).trans x00
  have f01 := fun n => ((hF n).cell (p := ⟨g, 1, none⟩) hgl).trans x01
  have f02 := fun n => ((hF n).cell (p := ⟨g, 2, none⟩) hgl).trans x02
  have f03 := fun n => ((hF n).cell (p := ⟨g, 3, none⟩) hgl).trans x03
  have f10 := fun n => ((hF n).cell (p := ⟨g, 4, none⟩) hgl).trans x10
  have f11 := fun n => ((hF n).cell (p := ⟨g, 5, none⟩) hgl).trans x11
  have f12 := fun n => ((hF n).cell (p := ⟨g, 6, none⟩) hgl).trans x12
  have f13 := fun n => ((hF n).cell (p := ⟨g, 7, none⟩) hgl).trans x13
  have f20 := fun n => ((hF n).cell (p := ⟨g, 8, none⟩) hgl).trans x20
  have f21 := fun n => ((hF n).cell (p := ⟨g, 9, none⟩) hgl).trans x21
  have f22 := fun n => ((hF n).cell (p := ⟨g, 10, none⟩) hgl).trans x22
  have f23 := fun n => ((hF n).cell (p := ⟨g, 11, none⟩) hgl).trans x23
  have g0 := fun n => ((hF n).cell (p := ⟨w4.heap.size, 256, none⟩) hl3).trans cN3
  repeat (first | (refine BigFrame.wpQuiet_want rfl (fun K hK => ?_); refine quiet_load_row 24 (.tmp 1) rfl P1 rfl 24 (partC (cls (same L2)) 3) (0, 0) _ (fun w' hw' => by obtain ⟨n, rfl⟩ := hw'; exact (h1.kept (hF n) hl1)) Tryd.underlying24 rfl (sizeP _ _) ?_; refine hK _ ?_; clear hK K; simp only [Act.put, List.setIfInBounds_toArray, List.set_cons_zero, List.set_cons_succ]) | (refine BigFrame.wpQuiet_want rfl (fun K hK => ?_); refine quiet_load_row 24 (.tmp 3) rfl w4.heap.size rfl 24 (partC (cls (same [])) 1) (0, 0) _ (fun w' hw' => by obtain ⟨n, rfl⟩ := hw'; exact (h3.kept (hF n) hl3)) Tryd.underlying24 rfl (sizeP _ _) ?_; refine hK _ ?_; clear hK K; simp only [Act.put, List.setIfInBounds_toArray, List.set_cons_zero, List.set_cons_succ]) | (refine BigFrame.wpQuiet_want rfl (fun K hK => ?_); refine quiet_load_row 24 (.tmp 4) rfl w5.heap.size rfl 24 (partC (cls (same L2)) 4) (0, 0) _ (fun w' hw' => by obtain ⟨n, rfl⟩ := hw'; exact (h4.kept (hF n) hl4)) Tryd.underlying24 rfl (sizeP _ _) ?_; refine hK _ ?_; clear hK K; simp only [Act.put, List.setIfInBounds_toArray, List.set_cons_zero, List.set_cons_succ]) | (refine BigFrame.wpQuiet_want rfl (fun K hK => ?_); refine quiet_load_row 24 (.tmp 5) rfl w7.heap.size rfl 24 (partC turn 3) (0, 0) _ (fun w' hw' => by obtain ⟨n, rfl⟩ := hw'; exact (h5.kept (hF n) hl5)) Tryd.underlying24 rfl (sizeP _ _) ?_; refine hK _ ?_; clear hK K; simp only [Act.put, List.setIfInBounds_toArray, List.set_cons_zero, List.set_cons_succ]) | (refine BigFrame.wpQuiet_want rfl (fun K hK => ?_); refine quiet_build 24 #[] rfl #[] (by simp) (.agg (partC (fun _ => 0) 0)) buildP0 ?_; refine hK _ ?_; clear hK K; simp only [Act.put, List.setIfInBounds_toArray, List.set_cons_zero, List.set_cons_succ]) | (go_big_quiet_step (fail)))
  refine wpQuiet_nil ?_
  clear f00 f01 f02 f03 f10 f11 f12 f13 f20 f21 f22 f23 g0 hF hι F
  refine mix_eff (fun K hK => ?_)
  go_wp2_with (go_at_call 12; refine (range_any 98 122 _ (by decide) (by decide) (by decide) (by decide)).mono ?_; rintro e ww5 ⟨rfl, hb5⟩)
  have hB5 : Below W.heap.size W ww5 := hB4.trans (hb5.mono (hB4).size)
  clear hb5
  refine mix_on hK hB5 ?_
  clear hK K
  refine mix_seg (seg := [_, _, _, _]) rfl hB5 ?_
  intro ι hι F hF
  have f00 := fun n => ((hF n).cell (p := ⟨g, 0, none⟩) hgl).trans x00
  have f01 := fun n => ((hF n).cell (p := ⟨g, 1, none⟩) hgl).trans x01
  have f02 := fun n => ((hF n).cell (p := ⟨g, 2, none⟩) hgl).trans x02
  have f03 := fun n => ((hF n).cell (p := ⟨g, 3, none⟩) hgl).trans x03
  have f10 := fun n => ((hF n).cell (p := ⟨g, 4, none⟩) hgl).trans x10
  have f11 := fun n => ((hF n).cell (p := ⟨g, 5, none⟩) hgl).trans x11
  have f12 := fun n => ((hF n).cell (p := ⟨g, 6, none⟩) hgl).trans x12
  have f13 := fun n => ((hF n).cell (p := ⟨g, 7, none⟩) hgl).trans x13
  have f20 := fun n => ((hF n).cell (p := ⟨g, 8, none⟩) hgl).trans x20
  have f21 := fun n => ((hF n).cell (p := ⟨g, 9, none⟩) hgl).trans x21
  have f22 := fun n => ((hF n).cell (p := ⟨g, 10, none⟩) hgl).trans x22
  have f23 := fun n => ((hF n).cell (p := ⟨g, 11, none⟩) hgl).trans x23
  have g0 := fun n => ((hF n).cell (p := ⟨w4.heap.size, 256, none⟩) hl3).trans cN3
  repeat (first | (refine BigFrame.wpQuiet_want rfl (fun K hK => ?_); refine quiet_load_row 24 (.tmp 1) rfl P1 rfl 24 (partC (cls (same L2)) 3) (0, 0) _ (fun w' hw' => by obtain ⟨n, rfl⟩ := hw'; exact (h1.kept (hF n) hl1)) Tryd.underlying24 rfl (sizeP _ _) ?_; refine hK _ ?_; clear hK K; simp only [Act.put, List.setIfInBounds_toArray, List.set_cons_zero, List.set_cons_succ]) | (refine BigFrame.wpQuiet_want rfl (fun K hK => ?_); refine quiet_load_row 24 (.tmp 3) rfl w4.heap.size rfl 24 (partC (cls (same [])) 1) (0, 0) _ (fun w' hw' => by obtain ⟨n, rfl⟩ := hw'; exact (h3.kept (hF n) hl3)) Tryd.underlying24 rfl (sizeP _ _) ?_; refine hK _ ?_; clear hK K; simp only [Act.put, List.setIfInBounds_toArray, List.set_cons_zero, List.set_cons_succ]) | (refine BigFrame.wpQuiet_want rfl (fun K hK => ?_); refine quiet_load_row 24 (.tmp 4) rfl w5.heap.size rfl 24 (partC (cls (same L2)) 4) (0, 0) _ (fun w' hw' => by obtain ⟨n, rfl⟩ := hw'; exact (h4.kept (hF n) hl4)) Tryd.underlying24 rfl (sizeP _ _) ?_; refine hK _ ?_; clear hK K; simp only [Act.put, List.setIfInBounds_toArray, List.set_cons_zero, List.set_cons_succ]) | (refine BigFrame.wpQuiet_want rfl (fun K hK => ?_); refine quiet_load_row 24 (.tmp 5) rfl w7.heap.size rfl 24 (partC turn 3) (0, 0) _ (fun w' hw' => by obtain ⟨n, rfl⟩ := hw'; exact (h5.kept (hF n) hl5)) Tryd.underlying24 rfl (sizeP _ _) ?_; refine hK _ ?_; clear hK K; simp only [Act.put, List.setIfInBounds_toArray, List.set_cons_zero, List.set_cons_succ]) | (refine BigFrame.wpQuiet_want rfl (fun K hK => ?_); refine quiet_build 24 #[] rfl #[] (by simp) (.agg (partC (fun _ => 0) 0)) buildP0 ?_; refine hK _ ?_; clear hK K; simp only [Act.put, List.setIfInBounds_toArray, List.set_cons_zero, List.set_cons_succ]) | (go_big_quiet_step (fail)))
  refine wpQuiet_nil ?_
  clear f00 f01 f02 f03 f10 f11 f12 f13 f20 f21 f22 f23 g0 hF hι F
  refine mix_eff (fun K hK => ?_)
  go_wp2_with (go_at_call 12; refine (range_az _).mono ?_; rintro e ww6 ⟨rfl, hb6⟩)
  have hB6 : Below W.heap.size W ww6 := hB5.trans (hb6.mono (hB5).size)
  clear hb6
  refine mix_on hK hB6 ?_
  clear hK K
  refine mix_eff (fun K hK => ?_)
  go_wp2_with (go_at_call 14; refine (sp_no _).mono ?_; rintro e ww7 ⟨rfl, hb7⟩)
  have hB7 : Below W.heap.size W ww7 := hB6.trans (hb7.mono (hB6).size)
  clear hb7
  refine mix_on hK hB7 ?_
  clear hK K
  refine mix_seg (seg := [_, _, _, _]) rfl hB7 ?_
  intro ι hι F hF
  have f00 := fun n => ((hF n).cell (p := ⟨g, 0, none⟩) hgl).trans x00
  have f01 := fun n => ((hF n).cell (p := ⟨g, 1, none⟩) hgl).trans x01
  have f02 := fun n => ((hF n).cell (p := ⟨g, 2, none⟩) hgl).trans x02
  have f03 := fun n => ((hF n).cell (p := ⟨g, 3, none⟩) hgl).trans x03
  have f10 := fun n => ((hF n).cell (p := ⟨g, 4, none⟩) hgl).trans x10
  have f11 := fun n => ((hF n).cell (p := ⟨g, 5, none⟩) hgl).trans x11
  have f12 := fun n => ((hF n).cell (p := ⟨g, 6, none⟩) hgl).trans x12
  have f13 := fun n => ((hF n).cell (p := ⟨g, 7, none⟩) hgl).trans x13
  have f20 := fun n => ((hF n).cell (p := ⟨g, 8, none⟩) hgl).trans x20
  have f21 := fun n => ((hF n).cell (p := ⟨g, 9, none⟩) hgl).trans x21
  have f22 := fun n => ((hF n).cell (p := ⟨g, 10, none⟩) hgl).trans x22
  have f23 := fun n => ((hF n).cell (p := ⟨g, 11, none⟩) hgl).trans x23
  have g0 := fun n => ((hF n).cell (p := ⟨w4.heap.size, 256, none⟩) hl3).trans cN3
  repeat (first | (refine BigFrame.wpQuiet_want rfl (fun K hK => ?_); refine quiet_load_row 24 (.tmp 1) rfl P1 rfl 24 (partC (cls (same L2)) 3) (0, 0) _ (fun w' hw' => by obtain ⟨n, rfl⟩ := hw'; exact (h1.kept (hF n) hl1)) Tryd.underlying24 rfl (sizeP _ _) ?_; refine hK _ ?_; clear hK K; simp only [Act.put, List.setIfInBounds_toArray, List.set_cons_zero, List.set_cons_succ]) | (refine BigFrame.wpQuiet_want rfl (fun K hK => ?_); refine quiet_load_row 24 (.tmp 3) rfl w4.heap.size rfl 24 (partC (cls (same [])) 1) (0, 0) _ (fun w' hw' => by obtain ⟨n, rfl⟩ := hw'; exact (h3.kept (hF n) hl3)) Tryd.underlying24 rfl (sizeP _ _) ?_; refine hK _ ?_; clear hK K; simp only [Act.put, List.setIfInBounds_toArray, List.set_cons_zero, List.set_cons_succ]) | (refine BigFrame.wpQuiet_want rfl (fun K hK => ?_); refine quiet_load_row 24 (.tmp 4) rfl w5.heap.size rfl 24 (partC (cls (same L2)) 4) (0, 0) _ (fun w' hw' => by obtain ⟨n, rfl⟩ := hw'; exact (h4.kept (hF n) hl4)) Tryd.underlying24 rfl (sizeP _ _) ?_; refine hK _ ?_; clear hK K; simp only [Act.put, List.setIfInBounds_toArray, List.set_cons_zero, List.set_cons_succ]) | (refine BigFrame.wpQuiet_want rfl (fun K hK => ?_); refine quiet_load_row 24 (.tmp 5) rfl w7.heap.size rfl 24 (partC turn 3) (0, 0) _ (fun w' hw' => by obtain ⟨n, rfl⟩ := hw'; exact (h5.kept (hF n) hl5)) Tryd.underlying24 rfl (sizeP _ _) ?_; refine hK _ ?_; clear hK K; simp only [Act.put, List.setIfInBounds_toArray, List.set_cons_zero, List.set_cons_succ]) | (refine BigFrame.wpQuiet_want rfl (fun K hK => ?_); refine quiet_build 24 #[] rfl #[] (by simp) (.agg (partC (fun _ => 0) 0)) buildP0 ?_; refine hK _ ?_; clear hK K; simp only [Act.put, List.setIfInBounds_toArray, List.set_cons_zero, List.set_cons_succ]) | (go_big_quiet_step (fail)))
  refine wpQuiet_nil ?_
  clear f00 f01 f02 f03 f10 f11 f12 f13 f20 f21 f22 f23 g0 hF hι F
  refine mix_eff (fun K hK => ?_)
  go_wp2_with (go_at_call 12; refine (range_any 97 99 _ (by decide) (by decide) (by decide) (by decide)).mono ?_; rintro e ww8 ⟨rfl, hb8⟩)
  have hB8 : Below W.heap.size W ww8 := hB7.trans (hb8.mono (hB7).size)
  clear hb8
  refine mix_on hK hB8 ?_
  clear hK K
  refine mix_eff (fun K hK => ?_)
  go_wp2_with (go_at_call 14; refine (sp_yes _).mono ?_; rintro e ww9 ⟨rfl, hb9⟩)
  have hB9 : Below W.heap.size W ww9 := hB8.trans (hb9.mono (hB8).size)
  clear hb9
  refine mix_on hK hB9 ?_
  clear hK K
  refine mix_seg (seg := [_, _, _, _, _, _, _, _]) rfl hB9 ?_
  intro ι hι F hF
  have f00 := fun n => ((hF n).cell (p := ⟨g, 0, none⟩) hgl).trans x00
  have f01 := fun n => ((hF n).cell (p := ⟨g, 1, none⟩) hgl).trans x01
  have f02 := fun n => ((hF n).cell (p := ⟨g, 2, none⟩) hgl).trans x02
  have f03 := fun n => ((hF n).cell (p := ⟨g, 3, none⟩) hgl).trans x03
  have f10 := fun n => ((hF n).cell (p := ⟨g, 4, none⟩) hgl).trans x10
  have f11 := fun n => ((hF n).cell (p := ⟨g, 5, none⟩) hgl).trans x11
  have f12 := fun n => ((hF n).cell (p := ⟨g, 6, none⟩) hgl).trans x12
  have f13 := fun n => ((hF n).cell (p := ⟨g, 7, none⟩) hgl).trans x13
  have f20 := fun n => ((hF n).cell (p := ⟨g, 8, none⟩) hgl).trans x20
  have f21 := fun n => ((hF n).cell (p := ⟨g, 9, none⟩) hgl).trans x21
  have f22 := fun n => ((hF n).cell (p := ⟨g, 10, none⟩) hgl).trans x22
  have f23 := fun n => ((hF n).cell (p := ⟨g, 11, none⟩) hgl).trans x23
  have g0 := fun n => ((hF n).cell (p := ⟨w4.heap.size, 256, none⟩) hl3).trans cN3
  repeat (first | (refine BigFrame.wpQuiet_want rfl (fun K hK => ?_); refine quiet_load_row 24 (.tmp 1) rfl P1 rfl 24 (partC (cls (same L2)) 3) (0, 0) _ (fun w' hw' => by obtain ⟨n, rfl⟩ := hw'; exact (h1.kept (hF n) hl1)) Tryd.underlying24 rfl (sizeP _ _) ?_; refine hK _ ?_; clear hK K; simp only [Act.put, List.setIfInBounds_toArray, List.set_cons_zero, List.set_cons_succ]) | (refine BigFrame.wpQuiet_want rfl (fun K hK => ?_); refine quiet_load_row 24 (.tmp 3) rfl w4.heap.size rfl 24 (partC (cls (same [])) 1) (0, 0) _ (fun w' hw' => by obtain ⟨n, rfl⟩ := hw'; exact (h3.kept (hF n) hl3)) Tryd.underlying24 rfl (sizeP _ _) ?_; refine hK _ ?_; clear hK K; simp only [Act.put, List.setIfInBounds_toArray, List.set_cons_zero, List.set_cons_succ]) | (refine BigFrame.wpQuiet_want rfl (fun K hK => ?_); refine quiet_load_row 24 (.tmp 4) rfl w5.heap.size rfl 24 (partC (cls (same L2)) 4) (0, 0) _ (fun w' hw' => by obtain ⟨n, rfl⟩ := hw'; exact (h4.kept (hF n) hl4)) Tryd.underlying24 rfl (sizeP _ _) ?_; refine hK _ ?_; clear hK K; simp only [Act.put, List.setIfInBounds_toArray, List.set_cons_zero, List.set_cons_succ]) | (refine BigFrame.wpQuiet_want rfl (fun K hK => ?_); refine quiet_load_row 24 (.tmp 5) rfl w7.heap.size rfl 24 (partC turn 3) (0, 0) _ (fun w' hw' => by obtain ⟨n, rfl⟩ := hw'; exact (h5.kept (hF n) hl5)) Tryd.underlying24 rfl (sizeP _ _) ?_; refine hK _ ?_; clear hK K; simp only [Act.put, List.setIfInBounds_toArray, List.set_cons_zero, List.set_cons_succ]) | (refine BigFrame.wpQuiet_want rfl (fun K hK => ?_); refine quiet_build 24 #[] rfl #[] (by simp) (.agg (partC (fun _ => 0) 0)) buildP0 ?_; refine hK _ ?_; clear hK K; simp only [Act.put, List.setIfInBounds_toArray, List.set_cons_zero, List.set_cons_succ]) | (go_big_quiet_step (fail)))
  refine wpQuiet_nil ?_
  clear f00 f01 f02 f03 f10 f11 f12 f13 f20 f21 f22 f23 g0 hF hι F
  refine mix_eff (fun K hK => ?_)
  go_wp2_with (go_at_call 15; refine (ri_one _).mono ?_; rintro e ww10 ⟨rfl, hb10⟩)
  have hB10 : Below W.heap.size W ww10 := hB9.trans (hb10.mono (hB9).size)
  clear hb10
  refine mix_on hK hB10 ?_
  clear hK K
  refine mix_seg (seg := [_, _, _]) rfl hB10 ?_
  intro ι hι F hF
  have f00 := fun n => ((hF n).cell (p := ⟨g, 0, none⟩) hgl).trans x00
  have f01 := fun n => ((hF n).cell (p := ⟨g, 1, none⟩) hgl).trans x01
  have f02 := fun n => ((hF n).cell (p := ⟨g, 2, none⟩) hgl).trans x02
  have f03 := fun n => ((hF n).cell (p := ⟨g, 3, none⟩) hgl).trans x03
  have f10 := fun n => ((hF n).cell (p := ⟨g, 4, none⟩) hgl).trans x10
  have f11 := fun n => ((hF n).cell (p := ⟨g, 5, none⟩) hgl).trans x11
  have f12 := fun n => ((hF n).cell (p := ⟨g, 6, none⟩) hgl).trans x12
  have f13 := fun n => ((hF n).cell (p := ⟨g, 7, none⟩) hgl).trans x13
  have f20 := fun n => ((hF n).cell (p := ⟨g, 8, none⟩) hgl).trans x20
  have f21 := fun n => ((hF n).cell (p := ⟨g, 9, none⟩) hgl).trans x21
  have f22 := fun n => ((hF n).cell (p := ⟨g, 10, none⟩) hgl).trans x22
  have f23 := fun n => ((hF n).cell (p := ⟨g, 11, none⟩) hgl).trans x23
  have g0 := fun n => ((hF n).cell (p := ⟨w4.heap.size, 256, none⟩) hl3).trans cN3
  repeat (first | (refine BigFrame.wpQuiet_want rfl (fun K hK => ?_); refine quiet_load_row 24 (.tmp 1) rfl P1 rfl 24 (partC (cls (same L2)) 3) (0, 0) _ (fun w' hw' => by obtain ⟨n, rfl⟩ := hw'; exact (h1.kept (hF n) hl1)) Tryd.underlying24 rfl (sizeP _ _) ?_; refine hK _ ?_; clear hK K; simp only [Act.put, List.setIfInBounds_toArray, List.set_cons_zero, List.set_cons_succ]) | (refine BigFrame.wpQuiet_want rfl (fun K hK => ?_); refine quiet_load_row 24 (.tmp 3) rfl w4.heap.size rfl 24 (partC (cls (same [])) 1) (0, 0) _ (fun w' hw' => by obtain ⟨n, rfl⟩ := hw'; exact (h3.kept (hF n) hl3)) Tryd.underlying24 rfl (sizeP _ _) ?_; refine hK _ ?_; clear hK K; simp only [Act.put, List.setIfInBounds_toArray, List.set_cons_zero, List.set_cons_succ]) | (refine BigFrame.wpQuiet_want rfl (fun K hK => ?_); refine quiet_load_row 24 (.tmp 4) rfl w5.heap.size rfl 24 (partC (cls (same L2)) 4) (0, 0) _ (fun w' hw' => by obtain ⟨n, rfl⟩ := hw'; exact (h4.kept (hF n) hl4)) Tryd.underlying24 rfl (sizeP _ _) ?_; refine hK _ ?_; clear hK K; simp only [Act.put, List.setIfInBounds_toArray, List.set_cons_zero, List.set_cons_succ]) | (refine BigFrame.wpQuiet_want rfl (fun K hK => ?_); refine quiet_load_row 24 (.tmp 5) rfl w7.heap.size rfl 24 (partC turn 3) (0, 0) _ (fun w' hw' => by obtain ⟨n, rfl⟩ := hw'; exact (h5.kept (hF n) hl5)) Tryd.underlying24 rfl (sizeP _ _) ?_; refine hK _ ?_; clear hK K; simp only [Act.put, List.setIfInBounds_toArray, List.set_cons_zero, List.set_cons_succ]) | (refine BigFrame.wpQuiet_want rfl (fun K hK => ?_); refine quiet_build 24 #[] rfl #[] (by simp) (.agg (partC (fun _ => 0) 0)) buildP0 ?_; refine hK _ ?_; clear hK K; simp only [Act.put, List.setIfInBounds_toArray, List.set_cons_zero, List.set_cons_succ]) | (go_big_quiet_step (fail)))
  refine wpQuiet_nil ?_
  clear f00 f01 f02 f03 f10 f11 f12 f13 f20 f21 f22 f23 g0 hF hι F
  refine mix_eff (fun K hK => ?_)
  go_wp2_with (go_at_call 15; refine (ri_bad _).mono ?_; rintro e ww11 ⟨rfl, hb11⟩)
  have hB11 : Below W.heap.size W ww11 := hB10.trans (hb11.mono (hB10).size)
  clear hb11
  refine mix_on hK hB11 ?_
  clear hK K
  refine mix_seg (seg := [_, _, _, _]) rfl hB11 ?_
  intro ι hι F hF
  have f00 := fun n => ((hF n).cell (p := ⟨g, 0, none⟩) hgl).trans x00
  have f01 := fun n => ((hF n).cell (p := ⟨g, 1, none⟩) hgl).trans x01
  have f02 := fun n => ((hF n).cell (p := ⟨g, 2, none⟩) hgl).trans x02
  have f03 := fun n => ((hF n).cell (p := ⟨g, 3, none⟩) hgl).trans x03
  have f10 := fun n => ((hF n).cell (p := ⟨g, 4, none⟩) hgl).trans x10
  have f11 := fun n => ((hF n).cell (p := ⟨g, 5, none⟩) hgl).trans x11
  have f12 := fun n => ((hF n).cell (p := ⟨g, 6, none⟩) hgl).trans x12
  have f13 := fun n => ((hF n).cell (p := ⟨g, 7, none⟩) hgl).trans x13
  have f20 := fun n => ((hF n).cell (p := ⟨g, 8, none⟩) hgl).trans x20
  have f21 := fun n => ((hF n).cell (p := ⟨g, 9, none⟩) hgl).trans x21
  have f22 := fun n => ((hF n).cell (p := ⟨g, 10, none⟩) hgl).trans x22
  have f23 := fun n => ((hF n).cell (p := ⟨g, 11, none⟩) hgl).trans x23
  have g0 := fun n => ((hF n).cell (p := ⟨w4.heap.size, 256, none⟩) hl3).trans cN3
  repeat (first | (refine BigFrame.wpQuiet_want rfl (fun K hK => ?_); refine quiet_load_row 24 (.tmp 1) rfl P1 rfl 24 (partC (cls (same L2)) 3) (0, 0) _ (fun w' hw' => by obtain ⟨n, rfl⟩ := hw'; exact (h1.kept (hF n) hl1)) Tryd.underlying24 rfl (sizeP _ _) ?_; refine hK _ ?_; clear hK K; simp only [Act.put, List.setIfInBounds_toArray, List.set_cons_zero, List.set_cons_succ]) | (refine BigFrame.wpQuiet_want rfl (fun K hK => ?_); refine quiet_load_row 24 (.tmp 3) rfl w4.heap.size rfl 24 (partC (cls (same [])) 1) (0, 0) _ (fun w' hw' => by obtain ⟨n, rfl⟩ := hw'; exact (h3.kept (hF n) hl3)) Tryd.underlying24 rfl (sizeP _ _) ?_; refine hK _ ?_; clear hK K; simp only [Act.put, List.setIfInBounds_toArray, List.set_cons_zero, List.set_cons_succ]) | (refine BigFrame.wpQuiet_want rfl (fun K hK => ?_); refine quiet_load_row 24 (.tmp 4) rfl w5.heap.size rfl 24 (partC (cls (same L2)) 4) (0, 0) _ (fun w' hw' => by obtain ⟨n, rfl⟩ := hw'; exact (h4.kept (hF n) hl4)) Tryd.underlying24 rfl (sizeP _ _) ?_; refine hK _ ?_; clear hK K; simp only [Act.put, List.setIfInBounds_toArray, List.set_cons_zero, List.set_cons_succ]) | (refine BigFrame.wpQuiet_want rfl (fun K hK => ?_); refine quiet_load_row 24 (.tmp 5) rfl w7.heap.size rfl 24 (partC turn 3) (0, 0) _ (fun w' hw' => by obtain ⟨n, rfl⟩ := hw'; exact (h5.kept (hF n) hl5)) Tryd.underlying24 rfl (sizeP _ _) ?_; refine hK _ ?_; clear hK K; simp only [Act.put, List.setIfInBounds_toArray, List.set_cons_zero, List.set_cons_succ]) | (refine BigFrame.wpQuiet_want rfl (fun K hK => ?_); refine quiet_build 24 #[] rfl #[] (by simp) (.agg (partC (fun _ => 0) 0)) buildP0 ?_; refine hK _ ?_; clear hK K; simp only [Act.put, List.setIfInBounds_toArray, List.set_cons_zero, List.set_cons_succ]) | (go_big_quiet_step (fail)))
  refine wpQuiet_nil ?_
  clear f00 f01 f02 f03 f10 f11 f12 f13 f20 f21 f22 f23 g0 hF hι F
  refine mix_eff (fun K hK => ?_)
  go_wp2_with (go_at_call 15; refine (ri_turn _).mono ?_; rintro e ww12 ⟨rfl, hb12⟩)
  have hB12 : Below W.heap.size W ww12 := hB11.trans (hb12.mono (hB11).size)
  clear hb12
  refine mix_on hK hB12 ?_
  clear hK K
  refine mix_seg (seg := [_, _, _, _]) rfl hB12 ?_
  intro ι hι F hF
  have f00 := fun n => ((hF n).cell (p := ⟨g, 0, none⟩) hgl).trans x00
  have f01 := fun n => ((hF n).cell (p := ⟨g, 1, none⟩) hgl).trans x01
  have f02 := fun n => ((hF n).cell (p := ⟨g, 2, none⟩) hgl).trans x02
  have f03 := fun n => ((hF n).cell (p := ⟨g, 3, none⟩) hgl).trans x03
  have f10 := fun n => ((hF n).cell (p := ⟨g, 4, none⟩) hgl).trans x10
  have f11 := fun n => ((hF n).cell (p := ⟨g, 5, none⟩) hgl).trans x11
  have f12 := fun n => ((hF n).cell (p := ⟨g, 6, none⟩) hgl).trans x12
  have f13 := fun n => ((hF n).cell (p := ⟨g, 7, none⟩) hgl).trans x13
  have f20 := fun n => ((hF n).cell (p := ⟨g, 8, none⟩) hgl).trans x20
  have f21 := fun n => ((hF n).cell (p := ⟨g, 9, none⟩) hgl).trans x21
  have f22 := fun n => ((hF n).cell (p := ⟨g, 10, none⟩) hgl).trans x22
  have f23 := fun n => ((hF n).cell (p := ⟨g, 11, none⟩) hgl).trans x23
  have g0 := fun n => ((hF n).cell (p := ⟨w4.heap.size, 256, none⟩) hl3).trans cN3
  repeat (first | (refine BigFrame.wpQuiet_want rfl (fun K hK => ?_); refine quiet_load_row 24 (.tmp 1) rfl P1 rfl 24 (partC (cls (same L2)) 3) (0, 0) _ (fun w' hw' => by obtain ⟨n, rfl⟩ := hw'; exact (h1.kept (hF n) hl1)) Tryd.underlying24 rfl (sizeP _ _) ?_; refine hK _ ?_; clear hK K; simp only [Act.put, List.setIfInBounds_toArray, List.set_cons_zero, List.set_cons_succ]) | (refine BigFrame.wpQuiet_want rfl (fun K hK => ?_); refine quiet_load_row 24 (.tmp 3) rfl w4.heap.size rfl 24 (partC (cls (same [])) 1) (0, 0) _ (fun w' hw' => by obtain ⟨n, rfl⟩ := hw'; exact (h3.kept (hF n) hl3)) Tryd.underlying24 rfl (sizeP _ _) ?_; refine hK _ ?_; clear hK K; simp only [Act.put, List.setIfInBounds_toArray, List.set_cons_zero, List.set_cons_succ]) | (refine BigFrame.wpQuiet_want rfl (fun K hK => ?_); refine quiet_load_row 24 (.tmp 4) rfl w5.heap.size rfl 24 (partC (cls (same L2)) 4) (0, 0) _ (fun w' hw' => by obtain ⟨n, rfl⟩ := hw'; exact (h4.kept (hF n) hl4)) Tryd.underlying24 rfl (sizeP _ _) ?_; refine hK _ ?_; clear hK K; simp only [Act.put, List.setIfInBounds_toArray, List.set_cons_zero, List.set_cons_succ]) | (refine BigFrame.wpQuiet_want rfl (fun K hK => ?_); refine quiet_load_row 24 (.tmp 5) rfl w7.heap.size rfl 24 (partC turn 3) (0, 0) _ (fun w' hw' => by obtain ⟨n, rfl⟩ := hw'; exact (h5.kept (hF n) hl5)) Tryd.underlying24 rfl (sizeP _ _) ?_; refine hK _ ?_; clear hK K; simp only [Act.put, List.setIfInBounds_toArray, List.set_cons_zero, List.set_cons_succ]) | (refine BigFrame.wpQuiet_want rfl (fun K hK => ?_); refine quiet_build 24 #[] rfl #[] (by simp) (.agg (partC (fun _ => 0) 0)) buildP0 ?_; refine hK _ ?_; clear hK K; simp only [Act.put, List.setIfInBounds_toArray, List.set_cons_zero, List.set_cons_succ]) | (go_big_quiet_step (fail)))
  refine wpQuiet_nil ?_
  clear f00 f01 f02 f03 f10 f11 f12 f13 f20 f21 f22 f23 g0 hF hι F
  refine mix_eff (fun K hK => ?_)
  go_wp2_with (go_at_call 15; refine (ri_zero _).mono ?_; rintro e ww13 ⟨rfl, hb13⟩)
  have hB13 : Below W.heap.size W ww13 := hB12.trans (hb13.mono (hB12).size)
  clear hb13
  refine mix_on hK hB13 ?_
  clear hK K
  refine mix_seg (seg := [_, _, _, _]) rfl hB13 ?_
  intro ι hι F hF
  have f00 := fun n => ((hF n).cell (p := ⟨g, 0, none⟩) hgl).trans x00
  have f01 := fun n => ((hF n).cell (p := ⟨g, 1, none⟩) hgl).trans x01
  have f02 := fun n => ((hF n).cell (p := ⟨g, 2, none⟩) hgl).trans x02
  have f03 := fun n => ((hF n).cell (p := ⟨g, 3, none⟩) hgl).trans x03
  have f10 := fun n => ((hF n).cell (p := ⟨g, 4, none⟩) hgl).trans x10
  have f11 := fun n => ((hF n).cell (p := ⟨g, 5, none⟩) hgl).trans x11
  have f12 := fun n => ((hF n).cell (p := ⟨g, 6, none⟩) hgl).trans x12
  have f13 := fun n => ((hF n).cell (p := ⟨g, 7, none⟩) hgl).trans x13
  have f20 := fun n => ((hF n).cell (p := ⟨g, 8, none⟩) hgl).trans x20
  have f21 := fun n => ((hF n).cell (p := ⟨g, 9, none⟩) hgl).trans x21
  have f22 := fun n => ((hF n).cell (p := ⟨g, 10, none⟩) hgl).trans x22
  have f23 := fun n => ((hF n).cell (p := ⟨g, 11, none⟩) hgl).trans x23
  have g0 := fun n => ((hF n).cell (p := ⟨w4.heap.size, 256, none⟩) hl3).trans cN3
  repeat (first | (refine BigFrame.wpQuiet_want rfl (fun K hK => ?_); refine quiet_load_row 24 (.tmp 1) rfl P1 rfl 24 (partC (cls (same L2)) 3) (0, 0) _ (fun w' hw' => by obtain ⟨n, rfl⟩ := hw'; exact (h1.kept (hF n) hl1)) Tryd.underlying24 rfl (sizeP _ _) ?_; refine hK _ ?_; clear hK K; simp only [Act.put, List.setIfInBounds_toArray, List.set_cons_zero, List.set_cons_succ]) | (refine BigFrame.wpQuiet_want rfl (fun K hK => ?_); refine quiet_load_row 24 (.tmp 3) rfl w4.heap.size rfl 24 (partC (cls (same [])) 1) (0, 0) _ (fun w' hw' => by obtain ⟨n, rfl⟩ := hw'; exact (h3.kept (hF n) hl3)) Tryd.underlying24 rfl (sizeP _ _) ?_; refine hK _ ?_; clear hK K; simp only [Act.put, List.setIfInBounds_toArray, List.set_cons_zero, List.set_cons_succ]) | (refine BigFrame.wpQuiet_want rfl (fun K hK => ?_); refine quiet_load_row 24 (.tmp 4) rfl w5.heap.size rfl 24 (partC (cls (same L2)) 4) (0, 0) _ (fun w' hw' => by obtain ⟨n, rfl⟩ := hw'; exact (h4.kept (hF n) hl4)) Tryd.underlying24 rfl (sizeP _ _) ?_; refine hK _ ?_; clear hK K; simp only [Act.put, List.setIfInBounds_toArray, List.set_cons_zero, List.set_cons_succ]) | (refine BigFrame.wpQuiet_want rfl (fun K hK => ?_); refine quiet_load_row 24 (.tmp 5) rfl w7.heap.size rfl 24 (partC turn 3) (0, 0) _ (fun w' hw' => by obtain ⟨n, rfl⟩ := hw'; exact (h5.kept (hF n) hl5)) Tryd.underlying24 rfl (sizeP _ _) ?_; refine hK _ ?_; clear hK K; simp only [Act.put, List.setIfInBounds_toArray, List.set_cons_zero, List.set_cons_succ]) | (refine BigFrame.wpQuiet_want rfl (fun K hK => ?_); refine quiet_build 24 #[] rfl #[] (by simp) (.agg (partC (fun _ => 0) 0)) buildP0 ?_; refine hK _ ?_; clear hK K; simp only [Act.put, List.setIfInBounds_toArray, List.set_cons_zero, List.set_cons_succ]) | (go_big_quiet_step (fail)))
  refine wpQuiet_nil ?_
  clear f00 f01 f02 f03 f10 f11 f12 f13 f20 f21 f22 f23 g0 hF hι F
  refine mix_eff (fun K hK => ?_)
  go_wp2_with (go_at_call 16; refine (le_zero _ (hT.below (hB0.trans (hB13.mono hB0.size)) hg) (Nat.lt_of_lt_of_le hg (hB0.trans (hB13.mono hB0.size)).size)).mono ?_; rintro e ww14 ⟨q14, rfl, hr14, hb14⟩)
  have hB14 : Below W.heap.size W ww14 := hB13.trans (hb14.mono (hB13).size)
  clear hb14
  refine mix_on hK hB14 ?_
  clear hK K
  refine mix_seg (seg := [_, _, _, _, _]) rfl hB14 ?_
  intro ι hι F hF
  have f00 := fun n => ((hF n).cell (p := ⟨g, 0, none⟩) hgl).trans x00
  have f01 := fun n => ((hF n).cell (p := ⟨g, 1, none⟩) hgl).trans x01
  have f02 := fun n => ((hF n).cell (p := ⟨g, 2, none⟩) hgl).trans x02
  have f03 := fun n => ((hF n).cell (p := ⟨g, 3, none⟩) hgl).trans x03
  have f10 := fun n => ((hF n).cell (p := ⟨g, 4, none⟩) hgl).trans x10
  have f11 := fun n => ((hF n).cell (p := ⟨g, 5, none⟩) hgl).trans x11
  have f12 := fun n => ((hF n).cell (p := ⟨g, 6, none⟩) hgl).trans x12
  have f13 := fun n => ((hF n).cell (p := ⟨g, 7, none⟩) hgl).trans x13
  have f20 := fun n => ((hF n).cell (p := ⟨g, 8, none⟩) hgl).trans x20
  have f21 := fun n => ((hF n).cell (p := ⟨g, 9, none⟩) hgl).trans x21
  have f22 := fun n => ((hF n).cell (p := ⟨g, 10, none⟩) hgl).trans x22
  have f23 := fun n => ((hF n).cell (p := ⟨g, 11, none⟩) hgl).trans x23
  have g0 := fun n => ((hF n).cell (p := ⟨w4.heap.size, 256, none⟩) hl3).trans cN3
  repeat (first | (refine BigFrame.wpQuiet_want rfl (fun K hK => ?_); refine quiet_load_row 24 (.tmp 1) rfl P1 rfl 24 (partC (cls (same L2)) 3) (0, 0) _ (fun w' hw' => by obtain ⟨n, rfl⟩ := hw'; exact (h1.kept (hF n) hl1)) Tryd.underlying24 rfl (sizeP _ _) ?_; refine hK _ ?_; clear hK K; simp only [Act.put, List.setIfInBounds_toArray, List.set_cons_zero, List.set_cons_succ]) | (refine BigFrame.wpQuiet_want rfl (fun K hK => ?_); refine quiet_load_row 24 (.tmp 3) rfl w4.heap.size rfl 24 (partC (cls (same [])) 1) (0, 0) _ (fun w' hw' => by obtain ⟨n, rfl⟩ := hw'; exact (h3.kept (hF n) hl3)) Tryd.underlying24 rfl (sizeP _ _) ?_; refine hK _ ?_; clear hK K; simp only [Act.put, List.setIfInBounds_toArray, List.set_cons_zero, List.set_cons_succ]) | (refine BigFrame.wpQuiet_want rfl (fun K hK => ?_); refine quiet_load_row 24 (.tmp 4) rfl w5.heap.size rfl 24 (partC (cls (same L2)) 4) (0, 0) _ (fun w' hw' => by obtain ⟨n, rfl⟩ := hw'; exact (h4.kept (hF n) hl4)) Tryd.underlying24 rfl (sizeP _ _) ?_; refine hK _ ?_; clear hK K; simp only [Act.put, List.setIfInBounds_toArray, List.set_cons_zero, List.set_cons_succ]) | (refine BigFrame.wpQuiet_want rfl (fun K hK => ?_); refine quiet_load_row 24 (.tmp 5) rfl w7.heap.size rfl 24 (partC turn 3) (0, 0) _ (fun w' hw' => by obtain ⟨n, rfl⟩ := hw'; exact (h5.kept (hF n) hl5)) Tryd.underlying24 rfl (sizeP _ _) ?_; refine hK _ ?_; clear hK K; simp only [Act.put, List.setIfInBounds_toArray, List.set_cons_zero, List.set_cons_succ]) | (refine BigFrame.wpQuiet_want rfl (fun K hK => ?_); refine quiet_build 24 #[] rfl #[] (by simp) (.agg (partC (fun _ => 0) 0)) buildP0 ?_; refine hK _ ?_; clear hK K; simp only [Act.put, List.setIfInBounds_toArray, List.set_cons_zero, List.set_cons_succ]) | (go_big_quiet_step (fail)))
  refine wpQuiet_nil ?_
  clear f00 f01 f02 f03 f10 f11 f12 f13 f20 f21 f22 f23 g0 hF hι F
  refine mix_eff (fun K hK => ?_)
  go_wp2_with (go_at_call 16; refine (le_zero _ (hT.below (hB0.trans (hB14.mono hB0.size)) hg) (Nat.lt_of_lt_of_le hg (hB0.trans (hB14.mono hB0.size)).size)).mono ?_; rintro e ww15 ⟨q15, rfl, hr15, hb15⟩)
  have hB15 : Below W.heap.size W ww15 := hB14.trans (hb15.mono (hB14).size)
  clear hb15
  have hrl := hr15.lt
  obtain ⟨v0, hv0, hy0⟩ := hr15.at 0 (by decide)
  obtain ⟨-, -, a0, p0, rfl, -⟩ := hy0
  refine mix_on' (fun w' => Below ww15.heap.size ww15 w') hK (fun x hx => (hB15).trans (hx.mono (hB15).size)) (Below.refl _ _) ?_
  clear hK K
  refine mix_seg (seg := [_, _, _, _, _, _]) rfl (Below.refl ww15.heap.size ww15) ?_
  intro ι hι F hF
  have z0 := fun n => ((hF n).cell (p := ⟨q15, 0, none⟩) hrl).trans hv0
  repeat (first | (go_big_quiet_step (fail)))
  refine wpQuiet_nil ?_
  clear z0 hF hι F
  refine mix_eff (fun K hK => ?_)
  go_wp2_with (go_at_call 17; refine (awake_any _ (hT.below (hB0.trans (hB15.mono hB0.size)) hg) (Nat.lt_of_lt_of_le hg (hB0.trans (hB15.mono hB0.size)).size)).mono ?_; rintro e ww16 ⟨rfl, hb16⟩)
  have hB16 : Below ww15.heap.size ww15 ww16 := hb16
  have hBZ := hB15.trans (hb16.mono (hB15).size)
  refine mix_on hK hB16 ?_
  clear hK K
  refine mix_seg (seg := [_]) (rest := []) rfl hB16 ?_
  intro ι hι F hF
  have z0 := fun n => ((hF n).cell (p := ⟨q15, 0, none⟩) hrl).trans hv0
  repeat (first | (go_big_quiet_step (fail)))
  refine wpQuiet_nil ?_
  clear z0 hF hι F
  show wpList _ _ _ _ _ _
  go_wp2
  refine NoPanic.normal ?_
  go_wp2
  go_ret
  exact ⟨rfl, hB0.trans (hBZ.mono hB0.size)⟩
end Go.Proofs.YtdhnaldjofpeeaaDoor
