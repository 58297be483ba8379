/- Build of a machine that is not right; parted; letters. -/
import Derived.Test.YtipghpljaiemmaaDoorPq43
import Derived.Test.YtipghpljaiemmaaDoorPq18
import Derived.Test.YtipghpljaiemmaaDoorPq34
namespace Go.Proofs.YtipghpljaiemmaaDoor
open Go.RowKit Sets Nf Cls Df DfK DfR
namespace Df
theorem psame_right (L : List Nat) : prightB (cls (same L)) (nh (same L) 256 : Nat) = true := by
  unfold prightB; rw [rgo_cls _ (same_eqv L)]; simp
theorem psame_in (L : List Nat) (c : Nat) (hc : c < 256) : cls (same L) c < nh (same L) 256 := cls_lt_nh _ (same_eqv L) c 256 hc
theorem psame_whole {m : Mc} {L : List Nat} (h : ∀ S ∈ stTo m m.sp.length, S ∈ L) : Whole m (cls (same L)) := fun k hk c d _ _ e =>
  (same_iff L c d).1 ((cls_eq _ (same_eqv L) c d).1 e) _ (h _ ((mem_stTo m _).2 ⟨k, hk, rfl⟩))
theorem zdv : dfC (fun _ => 0) 0 nilS nilS = dvC ⟨none, 0, none, 0⟩ ⟨fun _ => 0, 0, [], []⟩ := rfl
set_option maxHeartbeats 6400000 in
set_option maxRecDepth 100000 in
theorem build_bad (x : Ma) (m : Mc) (of : Nat → Nat) (n : Int) (pv : Value) (w : World) (h : MAt w x m) (hf : Fine m) (hr : rightM m = false) :
    Calls Tryd.prog 11 #[.agg (mc x m), .agg (partC of n), pv] w fun e w' => e = .returned (.tuple #[.agg (dfC (fun _ => 0) 0 nilS nilS), .int .i64 1]) ∧ Below w.heap.size w w' := by
  have HM0 := Lib.hid h
  have HF := Lib.hid hf
  have HRI := Lib.hid hr
  have hz := zeroD
  clear h hf hr
  go_enter Tryd.func11, Tryd.ntmps11
  go_upto_region 1 with fail
  obtain ⟨s, hs⟩ : ∃ s, Hid (w.heap.size = s) := ⟨_, Lib.hid rfl⟩
  obtain ⟨w1, hw1⟩ : ∃ w1, Hid (w1 = (((w.alloc (.cells (mc x m) 27)).alloc (.cells (partC of n) 30)).alloc (.cells (dfC (fun _ => 0) 0 nilS nilS) 35))) := ⟨_, Lib.hid rfl⟩
  rw [← hw1.out]
  have g0 : w1.heap[w.heap.size]? = some (.cells (mc x m) 27 (0, 0)) := by rw [hw1.out]; exact keep1 (keep1 (new1 w _ rfl) _) _
  have g2 : w1.heap[w.heap.size + 1 + 1]? = some (.cells (dfC (fun _ => 0) 0 nilS nilS) 35 (0, 0)) := by rw [hw1.out]; exact new1 _ _ (by simp)
  have g5 : w1.heap.size = w.heap.size + 1 + 1 + 1 := by rw [hw1.out]; simp
  have g6 : Below w.heap.size w w1 := by rw [hw1.out]; exact (((Below.refl _ _).alloc (Nat.le_refl _) _).alloc (by simp) _).alloc (by simp; omega) _
  rw [hs.out] at g0 g2 g5 g6 ⊢
  have HX1 : Hid (BoxM w1 s x m) := Lib.hid ⟨g0⟩
  have HR1 := Lib.hid g2
  have HB1 := Lib.hid g6
  have HSZ := Lib.hid g5
  clear g0 g2 g5 g6 hw1
  have HBD : Hid (Below w1.heap.size w1 w1.drew) := Lib.hid ((Below.refl _ _).drew)
  have HM1 := Lib.hid (HM0.out.kept (hs.out ▸ HB1.out))
  have HRG := Lib.hid (nright_any x m w1.drew (HM1.out.kept HBD.out) HF.out)
  rw [mv_eq, HRI.out] at HRG
  have HXL := Lib.hid HX1.out.lt
  refine region_mix [(false, 0), (true, 1), (false, 2), (false, 3), (false, 4), (false, 5), (true, 6), (true, 7), (false, 8)] (fun w' => Below w1.heap.size w1 w') (by kernel_rfl) (by kernel_rfl) ((Below.refl _ _).drew) ?_
  simp only [planOps, List.map_cons, List.map_nil, List.getD_cons_zero, List.getD_cons_succ, List.length_cons, List.length_nil, List.drop_succ_cons, List.drop_zero]
  refine mix_seg (seg := [_]) rfl ((Below.refl _ _).drew) ?_
  intro ι hι F2 hF
  have f1 := Lib.hid (fun n => HX1.out.kept (hF n) HXL.out)
  refine BigFrame.wpQuiet_want rfl (fun K hK => ?_); refine quiet_load_mach _ rfl s x m rfl (fun w' ⟨n, e⟩ => e ▸ f1.out n) ?_; refine hK _ ?_; clear hK K; simp only [Act.put, List.setIfInBounds_toArray, List.set_cons_zero, List.set_cons_succ]
  refine wpQuiet_nil ?_
  clear f1 hF hι F2
  refine mix_eff (fun K hK => ?_)
  go_wp2_with (go_at_call 28; refine HRG.out.mono ?_; rintro e w2 ⟨rfl, hb2⟩; have HB2 := Lib.hid (HBD.out.trans hb2); clear hb2)
  refine mix_on hK HB2.out ?_
  clear hK K HRG
  refine mix_seg (seg := [_, _, _, _]) rfl HB2.out ?_
  intro ι hι F2 hF
  iterate 4 (go_big_quiet_step (fail))
  refine wpQuiet_nil ?_
  clear hF hι F2
  refine mix_eff (fun K hK => ?_)
  go_wp2_with fail
  refine mix_on hK HB2.out ?_
  clear hK K
  refine mix_eff (fun K hK => ?_)
  go_wp2_with fail
  refine mix_on hK HB2.out ?_
  clear hK K
  refine mix_seg (seg := [_]) (rest := []) rfl HB2.out ?_
  intro ι hι F2 hF
  iterate 1 (go_big_quiet_step (fail))
  refine wpQuiet_nil ?_
  clear hF hι F2
  show wpList _ _ _ _ _ _
  have HR2 : Hid (w2.heap[s + 1 + 1]? = some (.cells (dfC (fun _ => 0) 0 nilS nilS) 35 (0, 0))) := Lib.hid ((HB2.out.block _ (Array.getElem?_eq_some_iff.1 HR1.out).1).trans HR1.out)
  have HB12 : Hid (Below s w w2) := Lib.hid (HB1.out.trans (HB2.out.mono (by have := HSZ.out; omega)))
  go_wp2_with fail
  refine NoPanic.normal ?_
  go_wp2_with (first
    | (refine wpList_build_z rfl rfl ?_)
    | (refine wpList_store_row rfl 35 (.tmp 6) (.tmp 19) rfl (s + 1 + 1) (dfC (fun _ => 0) 0 nilS nilS) rfl rfl 35 _ HR2.out (sizeDf _ _ _ _) (by rw [dfC_size]) (oneDf _ _ none none 0 0 0 0) ?_))
  refine bodyPost_ret (v := .tuple #[.agg (dfC (fun _ => 0) 0 nilS nilS), .int .i64 1]) (res_cell_tmp (p := 6) (q := 7) Tryd.results11 _ _ (s + 1 + 1) 35 _ (0, 0) _ (.int .i64 1) rfl rfl (setRow_heap w2 _ _ _ _ _ HR2.out) Tryd.underlying35 rfl (sizeDf _ _ _ _)) rfl ⟨rfl, ?_⟩
  rw [hs.out]
  exact But.below HB12.out (But.setRow _ _ _) (by omega) (by have h1 := HB12.out.size; have h2 := hs.out; omega)
def ptL (m o : Mc) : List Nat := stTo m m.sp.length ++ stTo o o.sp.length
set_option maxHeartbeats 6400000 in
set_option maxRecDepth 100000 in
theorem parted_any (x y : Ma) (m o : Mc) (w : World) (h : MAt w x m) (ho : MAt w y o) (hf : Fine m) (hg : Fine o) (h8 : m.sp.length ≤ 8) (h9 : o.sp.length ≤ 8) :
    Calls Tryd.prog 10 #[.agg (mc x m), .agg (mc y o)] w fun e w' => e = .returned (.agg (partC (cls (same (ptL m o))) (nh (same (ptL m o)) 256 : Nat))) ∧ Below w.heap.size w w' := by
  have HM0 := Lib.hid h
  have HO0 := Lib.hid ho
  have HF := Lib.hid hf
  have HG := Lib.hid hg
  have H8 : Hid ((stTo m m.sp.length).length ≤ 8 ∧ (stTo o o.sp.length).length ≤ 8) := Lib.hid ⟨by have := stTo_len m m.sp.length; omega, by have := stTo_len o o.sp.length; omega⟩
  have hz := zeroP
  clear h ho hf hg h8 h9
  go_enter Tryd.func10, Tryd.ntmps10
  go_upto_region 1 with fail
  obtain ⟨s, hs⟩ : ∃ s, Hid (w.heap.size = s) := ⟨_, Lib.hid rfl⟩
  obtain ⟨w1, hw1⟩ : ∃ w1, Hid (w1 = (((w.alloc (.cells (mc x m) 27)).alloc (.cells (mc y o) 27)).alloc (.cells (partC (fun _ => 0) 0) 30))) := ⟨_, Lib.hid rfl⟩
  rw [← hw1.out]
  have g0 : w1.heap[w.heap.size]? = some (.cells (mc x m) 27 (0, 0)) := by rw [hw1.out]; exact keep1 (keep1 (new1 w _ rfl) _) _
  have g1 : w1.heap[w.heap.size + 1]? = some (.cells (mc y o) 27 (0, 0)) := by rw [hw1.out]; exact keep1 (new1 _ _ (by simp)) _
  have g2 : w1.heap[w.heap.size + 1 + 1]? = some (.cells (partC (fun _ => 0) 0) 30 (0, 0)) := by rw [hw1.out]; exact new1 _ _ (by simp)
  have g5 : w1.heap.size = w.heap.size + 1 + 1 + 1 := by rw [hw1.out]; simp
  have g6 : Below w.heap.size w w1 := by rw [hw1.out]; exact (((Below.refl _ _).alloc (Nat.le_refl _) _).alloc (by simp) _).alloc (by simp; omega) _
  rw [hs.out] at g0 g1 g2 g5 g6 ⊢
  have HX1 : Hid (BoxM w1 s x m) := Lib.hid ⟨g0⟩
  have HY1 : Hid (BoxM w1 (s + 1) y o) := Lib.hid ⟨g1⟩
  have HR1 := Lib.hid g2
  have HB1 := Lib.hid g6
  have HSZ := Lib.hid g5
  clear g0 g1 g2 g5 g6 hw1
  have HBD : Hid (Below w1.heap.size w1 w1.drew) := Lib.hid ((Below.refl _ _).drew)
  have HM1 := Lib.hid (HM0.out.kept (hs.out ▸ HB1.out))
  have HO1 := Lib.hid (HO0.out.kept (hs.out ▸ HB1.out))
  have HXL := Lib.hid HX1.out.lt
  have HYL := Lib.hid HY1.out.lt
  refine region_mix [(false, 0), (false, 2), (true, 1), (true, 3), (true, 4), (true, 5)] (fun w' => Below w1.heap.size w1 w') (by kernel_rfl) (by kernel_rfl) ((Below.refl _ _).drew) ?_
  simp only [planOps, List.map_cons, List.map_nil, List.getD_cons_zero, List.getD_cons_succ, List.length_cons, List.length_nil, List.drop_succ_cons, List.drop_zero]
  refine mix_seg (seg := [_, _]) rfl ((Below.refl _ _).drew) ?_
  intro ι hι F2 hF
  have f1 := Lib.hid (fun n => HX1.out.kept (hF n) HXL.out)
  have f2 := Lib.hid (fun n => HY1.out.kept (hF n) HYL.out)
  refine BigFrame.wpQuiet_want rfl (fun K hK => ?_); refine quiet_load_mach _ rfl s x m rfl (fun w' ⟨n, e⟩ => e ▸ f1.out n) ?_; refine hK _ ?_; clear hK K; simp only [Act.put, List.setIfInBounds_toArray, List.set_cons_zero, List.set_cons_succ]
  refine BigFrame.wpQuiet_want rfl (fun K hK => ?_); refine quiet_load_mach _ rfl (s + 1) y o rfl (fun w' ⟨n, e⟩ => e ▸ f2.out n) ?_; refine hK _ ?_; clear hK K; simp only [Act.put, List.setIfInBounds_toArray, List.set_cons_zero, List.set_cons_succ]
  refine wpQuiet_nil ?_
  clear f1 f2 hF hι F2
  have HS1 := Lib.hid (nsets_any x m w1.drew (HM1.out.kept HBD.out) HF.out)
  refine mix_eff (fun K hK => ?_)
  go_wp2_with (go_at_call 34; refine HS1.out.mono ?_; rintro e w2 ⟨a2, c2, rfl, ho2, hb2⟩; have HOA := Lib.hid (own_mono ho2 (Nat.le_refl w1.heap.size)); have HB2 := Lib.hid (HBD.out.trans hb2); clear ho2 hb2)
  refine mix_on hK HB2.out ?_
  clear hK K HS1
  have HS2 := Lib.hid (nsets_any y o w2 (HO1.out.kept HB2.out) HG.out)
  refine mix_eff (fun K hK => ?_)
  go_wp2_with (go_at_call 34; refine HS2.out.mono ?_; rintro e w3 ⟨a3, c3, rfl, ho3, hb3⟩; have HOB := Lib.hid ho3; have HOA3 := Lib.hid (own_stay HOA.out hb3); have HB3 := Lib.hid (HB2.out.trans (hb3.mono HB2.out.size)); clear ho3 hb3)
  refine mix_on hK HB3.out ?_
  clear hK K HS2
  have HIN := Lib.hid (owns_setsIn HOB.out (by have := H8.out; unfold maxLen; omega))
  refine mix_eff (fun K hK => ?_)
  refine wpList_append_sets rfl (.tmp 6) (.tmp 8) rfl w1.heap.size (stTo m m.sp.length) (stTo o o.sp.length) HOA3.out HIN.out (by have := H8.out; omega) HB3.out.size ?_
  intro v4 w4 ho4 hb4
  have HB4 := Lib.hid (HB3.out.trans hb4)
  have HI4 : Hid (SetsIn w4 v4 (ptL m o)) := Lib.hid (owns_setsIn ho4 (by have := H8.out; unfold ptL; rw [List.length_append]; unfold maxLen; omega))
  clear ho4 hb4 HOA HOB HOA3 HIN
  refine wpList_nil ?_
  refine mix_on hK HB4.out ?_
  clear hK K
  have HRF := Lib.hid (Refine_any v4 (ptL m o) w4 HI4.out (by unfold ptL; rw [List.length_append]; have := H8.out; omega))
  refine mix_eff (fun K hK => ?_)
  simp only [Act.put, List.setIfInBounds_toArray, List.set_cons_zero, List.set_cons_succ]
  go_wp2_with (go_at_call 26; refine HRF.out.mono ?_; rintro e w5 ⟨rfl, hb5⟩; have HB5 := Lib.hid (HB4.out.trans (hb5.mono HB4.out.size)); clear hb5)
  refine mix_on hK HB5.out ?_
  clear hK K HRF
  refine mix_seg (seg := []) (rest := []) rfl HB5.out ?_
  intro ι hι F2 hF
  refine wpQuiet_nil ?_
  clear hF hι F2
  show wpList _ _ _ _ _ _
  obtain ⟨of, hof⟩ : ∃ of, Hid (cls (same (ptL m o)) = of) := ⟨_, Lib.hid rfl⟩
  obtain ⟨n, hn⟩ : ∃ n : Nat, Hid (nh (same (ptL m o)) 256 = n) := ⟨_, Lib.hid rfl⟩
  rw [hof.out, hn.out]
  have HR5 : Hid (w5.heap[s + 1 + 1]? = some (.cells (partC (fun _ => 0) 0) 30 (0, 0))) := Lib.hid ((HB5.out.block _ (Array.getElem?_eq_some_iff.1 HR1.out).1).trans HR1.out)
  have HB15 : Hid (Below s w w5) := Lib.hid (HB1.out.trans (HB5.out.mono (by have := HSZ.out; omega)))
  go_wp2_with (refine wpList_store_row rfl 30 (.tmp 4) (.tmp 10) rfl (s + 1 + 1) (partC of n) rfl rfl 30 _ HR5.out (sizeP of n) (by rw [partC_size, partC_size]) (partC_one of n) ?_)
  refine NoPanic.normal ?_
  go_wp2_with fail
  refine bodyPost_ret (v := .agg (partC of n)) (results_cell_row (p := 4) Tryd.results10 _ _ (s + 1 + 1) 30 _ (0, 0) _ rfl (setRow_heap w5 _ _ _ _ _ HR5.out) Tryd.underlying30 rfl (sizeP of n)) rfl ⟨by rw [hof.out, hn.out], ?_⟩
  rw [hs.out]
  exact But.below HB15.out (But.setRow _ _ _) (by omega) (by have h1 := HB15.out.size; have h2 := hs.out; omega)
def L3 : List Nat := [ofN [97], ofN [98], ofN [99]]
theorem sets_three (w : World) (S T U : Nat) : SetsIn (w.alloc (.cells #[.int .u64 (wd S 0), .int .u64 (wd S 1), .int .u64 (wd S 2), .int .u64 (wd S 3), .int .u64 (wd T 0), .int .u64 (wd T 1), .int .u64 (wd T 2), .int .u64 (wd T 3), .int .u64 (wd U 0), .int .u64 (wd U 1), .int .u64 (wd U 2), .int .u64 (wd U 3)] 71)) (.slice (some ⟨w.heap.size, 0, none⟩) 3 3) [S, T, U] := by
  refine ⟨by simp [maxLen], _, 3, rfl, by simp, fun i hi => ⟨w.heap.size, 0, rfl, fun q hq => ?_⟩⟩
  have h1 : i = 0 ∨ i = 1 ∨ i = 2 := by simp at hi; omega
  have h2 : q = 0 ∨ q = 1 ∨ q = 2 ∨ q = 3 := by omega
  rcases h1 with rfl | rfl | rfl <;> rcases h2 with rfl | rfl | rfl | rfl <;> simp
set_option maxHeartbeats 6400000 in
set_option maxRecDepth 100000 in
theorem letters_any (w : World) :
    Calls Tryd.prog 23 #[] w fun e w' => e = .returned (.agg (partC (cls (same L3)) (nh (same L3) 256 : Nat))) ∧ Below w.heap.size w w' := by
  have hz := zeroP
  go_enter Tryd.func23, Tryd.ntmps23
  go_upto_region 1 with fail
  obtain ⟨s, hs⟩ : ∃ s, Hid (w.heap.size = s) := ⟨_, Lib.hid rfl⟩
  have HR1 := Lib.hid (heap_alloc_new w (.cells (partC (fun _ => 0) 0) 30))
  have HB1 := Lib.hid ((Below.refl w.heap.size w).alloc (Nat.le_refl _) (.cells (partC (fun _ => 0) 0) 30))
  rw [hs.out] at HR1 HB1 ⊢
  generalize w.alloc (.cells (partC (fun _ => 0) 0) 30) = w1 at *
  have HS1 : Hid (s ≤ w1.heap.size) := Lib.hid (by have := HB1.out.size; rw [hs.out] at this; exact this)
  have HO1 := Lib.hid (of_any _ [97] _ (bytes_litN w1 [97] (by decide) #[.int .u8 97] rfl (by decide)))
  have HA1 : Hid (Below w1.heap.size w1 (w1.alloc (.cells #[.int .u8 97] 5))) := Lib.hid ((Below.refl _ _).alloc (Nat.le_refl _) _)
  go_wp2_with fail
  refine HO1.out.mono ?_
  rintro e w2 ⟨rfl, hb2⟩
  have HB2 := Lib.hid (HA1.out.trans (hb2.mono HA1.out.size))
  clear hb2 HO1 HA1
  have HO1 := Lib.hid (of_any _ [98] _ (bytes_litN w2 [98] (by decide) #[.int .u8 98] rfl (by decide)))
  have HA1 : Hid (Below w2.heap.size w2 (w2.alloc (.cells #[.int .u8 98] 5))) := Lib.hid ((Below.refl _ _).alloc (Nat.le_refl _) _)
  go_wp2_with fail
  refine HO1.out.mono ?_
  rintro e w3 ⟨rfl, hb3⟩
  have HB3 := Lib.hid (HB2.out.trans ((HA1.out.trans (hb3.mono HA1.out.size)).mono HB2.out.size))
  clear hb3 HO1 HA1
  have HO1 := Lib.hid (of_any _ [99] _ (bytes_litN w3 [99] (by decide) #[.int .u8 99] rfl (by decide)))
  have HA1 : Hid (Below w3.heap.size w3 (w3.alloc (.cells #[.int .u8 99] 5))) := Lib.hid ((Below.refl _ _).alloc (Nat.le_refl _) _)
  go_wp2_with fail
  refine HO1.out.mono ?_
  rintro e w4 ⟨rfl, hb4⟩
  have HB4 := Lib.hid (HB3.out.trans ((HA1.out.trans (hb4.mono HA1.out.size)).mono HB3.out.size))
  clear hb4 HO1 HA1
  have HRF := Lib.hid (Refine_any _ [ofN [97], ofN [98], ofN [99]] _ (sets_three w4 (ofN [97]) (ofN [98]) (ofN [99])) (by decide))
  have HA1 : Hid (Below w4.heap.size w4 (w4.alloc (.cells #[.int .u64 (wd (ofN [97]) 0), .int .u64 (wd (ofN [97]) 1), .int .u64 (wd (ofN [97]) 2), .int .u64 (wd (ofN [97]) 3), .int .u64 (wd (ofN [98]) 0), .int .u64 (wd (ofN [98]) 1), .int .u64 (wd (ofN [98]) 2), .int .u64 (wd (ofN [98]) 3), .int .u64 (wd (ofN [99]) 0), .int .u64 (wd (ofN [99]) 1), .int .u64 (wd (ofN [99]) 2), .int .u64 (wd (ofN [99]) 3)] 71))) := Lib.hid ((Below.refl _ _).alloc (Nat.le_refl _) _)
  have HLL : Hid ([ofN [97], ofN [98], ofN [99]] = L3) := Lib.hid rfl
  rw [HLL.out] at HRF
  obtain ⟨of, hof⟩ : ∃ of, Hid (cls (same L3) = of) := ⟨_, Lib.hid rfl⟩
  obtain ⟨n, hn⟩ : ∃ n : Nat, Hid (nh (same L3) 256 = n) := ⟨_, Lib.hid rfl⟩
  rw [hof.out, hn.out] at HRF
  have HRR : Hid (∀ w5, Below w1.heap.size w1 w5 → w5.heap[s]? = some (.cells (partC (fun _ => 0) 0) 30 (0, 0))) := Lib.hid (fun w5 hb => (hb.block _ (Array.getElem?_eq_some_iff.1 HR1.out).1).trans HR1.out)
  go_wp2_with (first
    | (go_at_call 26; refine HRF.out.mono ?_; rintro e w5 ⟨rfl, hb5⟩; have HB5 := Lib.hid (HB4.out.trans ((HA1.out.trans (hb5.mono HA1.out.size)).mono HB4.out.size)); have HR5 := Lib.hid (HRR.out _ HB5.out); clear hb5)
    | (refine wpList_store_row rfl 30 (.tmp 0) (.tmp 8) rfl s (partC of n) rfl rfl 30 _ HR5.out (sizeP of n) (by rw [partC_size, partC_size]) (partC_one of n) ?_))
  refine bodyPost_ret (v := .agg (partC of n)) (results_cell_row (p := 0) Tryd.results23 _ _ s 30 _ (0, 0) _ rfl (setRow_heap w5 _ _ _ _ _ HR5.out) Tryd.underlying30 rfl (sizeP of n)) rfl ⟨by rw [hof.out, hn.out], ?_⟩
  rw [hs.out]
  exact But.below (HB1.out.trans (HB5.out.mono HS1.out)) (But.setRow _ _ _) (Nat.le_refl _) (by have h1 := HB1.out.size; have h2 := hs.out; have h3 := HB5.out.size; omega)
end Df
end Go.Proofs.YtipghpljaiemmaaDoor
