/- Build of a machine that is not right; parted; letters. -/
import Derived.Test.YtmjjkamndlefmaaDoorPq43
import Derived.Test.YtmjjkamndlefmaaDoorPq18
import Derived.Test.YtmjjkamndlefmaaDoorPq34
namespace Go.Proofs.YtmjjkamndlefmaaDoor
open Go.RowKit Sets Nf Cls Df DfK DfR
namespace Df
theorem psame_right (L : List Nat) : prightB (cls (same L)) (nh (same L) 256 : Nat) = true := by
  unfold prightB; rw [rgo_cls _ (same_eqv L)]; simp
theorem psame_in (L : List Nat) (c : Nat) (hc : c < 256) : cls (same L) c < nh (same L) 256 := cls_lt_nh _ (same_eqv L) c 256 hc
theorem psame_whole {m : Mc} {L : List Nat} (h : ∀ S ∈ stTo m m.sp.length, S ∈ L) : Whole m (cls (same L)) := fun k hk c d _ _ e =>
  (same_iff L c d).1 ((cls_eq _ (same_eqv L) c d).1 e) _ (h _ ((mem_stTo m _).2 ⟨k, hk, rfl⟩))
theorem zdv : dfC (fun _ => 0) 0 nilS nilS = dvC ⟨none, 0, none, 0⟩ ⟨fun _ => 0, 0, [], []⟩ := rfl
set_option maxHeartbeats 6400000 in
set_option maxRecDepth 100000 in
theorem build_bad (x : Ma) (m : Mc) (of : Nat → Nat) (n : Int) (pv : Value) (w : World) (h : MAt w x m) (hf : Fine m) (hr : rightM m = false) :
    Calls Tryd.prog 20 #[.agg (mc x m), .agg (partC of n), pv] w fun e w' => e = .returned (.tuple #[.agg (dfC (fun _ => 0) 0 nilS nilS), .int .i64 1]) ∧ Below w.heap.size w w' := by
  have HM0 := Lib.hid h
  have HF := Lib.hid hf
  have HRI := Lib.hid hr
  have hz := zeroD
  clear h hf hr
  go_enter Tryd.func20, Tryd.ntmps20
  go_upto_region 1 with fail
  obtain ⟨s, hs⟩ : ∃ s, Hid (w.heap.size = s) := ⟨_, Lib.hid rfl⟩
  obtain ⟨w1, hw1⟩ : ∃ w1, Hid (w1 = (((w.alloc (.cells (mc x m) 43)).alloc (.cells (partC of n) 24)).alloc (.cells (dfC (fun _ => 0) 0 nilS nilS) 28))) := ⟨_, Lib.hid rfl⟩
  rw [← hw1.out]
  have g0 : w1.heap[w.heap.size]? = some (.cells (mc x m) 43 (0, 0)) := by rw [hw1.out]; exact keep1 (keep1 (new1 w _ rfl) _) _
  have g2 : w1.heap[w.heap.size + 1 + 1]? = some (.cells (dfC (fun _ => 0) 0 nilS nilS) 28 (0, 0)) := by rw [hw1.out]; exact new1 _ _ (by simp)
  have g5 : w1.heap.size = w.heap.size + 1 + 1 + 1 := by rw [hw1.out]; simp
  have g6 : Below w.heap.size w w1 := by rw [hw1.out]; exact (((Below.refl _ _).alloc (Nat.le_refl _) _).alloc (by simp) _).alloc (by simp; omega) _
  rw [hs.out] at g0 g2 g5 g6 ⊢
  have HX1 : Hid (BoxM w1 s x m) := Lib.hid ⟨g0⟩
  have HR1 := Lib.hid g2
  have HB1 := Lib.hid g6
  have HSZ := Lib.hid g5
  clear g0 g2 g5 g6 hw1
  have HBD : Hid (Below w1.heap.size w1 w1.drew) := Lib.hid ((Below.refl _ _).drew)
  have HM1 := Lib.hid (HM0.out.kept (hs.out ▸ HB1.out))
  have HRG := Lib.hid (nright_any x m w1.drew (HM1.out.kept HBD.out) HF.out)
  rw [mv_eq, HRI.out] at HRG
  have HXL := Lib.hid HX1.out.lt
  refine region_mix [(false, 0), (true, 1), (false, 2), (false, 3), (false, 4), (false, 5), (true, 6), (true, 7), (false, 8)] (fun w' => Below w1.heap.size w1 w') (by kernel_rfl) (by kernel_rfl) ((Below.refl _ _).drew) ?_
  simp only [planOps, List.map_cons, List.map_nil, List.getD_cons_zero, List.getD_cons_succ, List.length_cons, List.length_nil, List.drop_succ_cons, List.drop_zero]
  refine mix_seg (seg := [_]) rfl ((Below.refl _ _).drew) ?_
  intro ι hι F2 hF
  have f1 := Lib.hid (fun n => HX1.out.kept (hF n) HXL.out)
  refine BigFrame.wpQuiet_want rfl (fun K hK => ?_); refine quiet_load_mach _ rfl s x m rfl (fun w' ⟨n, e⟩ => e ▸ f1.out n) ?_; refine hK _ ?_; clear hK K; simp only [Act.put, List.setIfInBounds_toArray, List.set_cons_zero, List.set_cons_succ]
  refine wpQuiet_nil ?_
  clear f1 hF hι F2
  refine mix_eff (fun K hK => ?_)
  go_wp2_with (go_at_call 23; refine HRG.out.mono ?_; rintro e w2 ⟨rfl, hb2⟩; have HB2 := Lib.hid (HBD.out.trans hb2); clear hb2)
  refine mix_on hK HB2.out ?_
  clear hK K HRG
  refine mix_seg (seg := [_, _, _, _]) rfl HB2.out ?_
  intro ι hι F2 hF
  iterate 4 (go_big_quiet_step (fail))
  refine wpQuiet_nil ?_
  clear hF hι F2
  refine mix_eff (fun K hK => ?_)
  go_wp2_with fail
  refine mix_on hK HB2.out ?_
  clear hK K
  refine mix_eff (fun K hK => ?_)
  go_wp2_with fail
  refine mix_on hK HB2.out ?_
  clear hK K
  refine mix_seg (seg := [_]) (rest := []) rfl HB2.out ?_
  intro ι hι F2 hF
  iterate 1 (go_big_quiet_step (fail))
  refine wpQuiet_nil ?_
  clear hF hι F2
  show wpList _ _ _ _ _ _
  have HR2 : Hid (w2.heap[s + 1 + 1]? = some (.cells (dfC (fun _ => 0) 0 nilS nilS) 28 (0, 0))) := Lib.hid ((HB2.out.block _ (Array.getElem?_eq_some_iff.1 HR1.out).1).trans HR1.out)
  have HB12 : Hid (Below s w w2) := Lib.hid (HB1.out.trans (HB2.out.mono (by have := HSZ.out; omega)))
  go_wp2_with fail
  refine NoPanic.normal ?_
  go_wp2_with (first
    | (refine wpList_build_z rfl rfl ?_)
    | (refine wpList_store_row rfl 28 (.tmp 6) (.tmp 19) rfl (s + 1 + 1) (dfC (fun _ => 0) 0 nilS nilS) rfl rfl 28 _ HR2.out (sizeDf _ _ _ _) (by rw [dfC_size]) (oneDf _ _ none none 0 0 0 0) ?_))
  refine bodyPost_ret (v := .tuple #[.agg (dfC (fun _ => 0) 0 nilS nilS), .int .i64 1]) (res_cell_tmp (p := 6) (q := 7) Tryd.results20 _ _ (s + 1 + 1) 28 _ (0, 0) _ (.int .i64 1) rfl rfl (setRow_heap w2 _ _ _ _ _ HR2.out) Tryd.underlying28 rfl (sizeDf _ _ _ _)) rfl ⟨rfl, ?_⟩
  rw [hs.out]
  exact But.below HB12.out (But.setRow _ _ _) (by omega) (by have h1 := HB12.out.size; have h2 := hs.out; omega)
def ptL (m o : Mc) : List Nat := stTo m m.sp.length ++ stTo o o.sp.length
def L3 : List Nat := [ofN [97], ofN [98], ofN [99]]
theorem sets_three (w : World) (S T U : Nat) : SetsIn (w.alloc (.cells #[.int .u64 (wd S 0), .int .u64 (wd S 1), .int .u64 (wd S 2), .int .u64 (wd S 3), .int .u64 (wd T 0), .int .u64 (wd T 1), .int .u64 (wd T 2), .int .u64 (wd T 3), .int .u64 (wd U 0), .int .u64 (wd U 1), .int .u64 (wd U 2), .int .u64 (wd U 3)] 54)) (.slice (some ⟨w.heap.size, 0, none⟩) 3 3) [S, T, U] := by
  refine ⟨by simp [maxLen], _, 3, rfl, by simp, fun i hi => ⟨w.heap.size, 0, rfl, fun q hq => ?_⟩⟩
  have h1 : i = 0 ∨ i = 1 ∨ i = 2 := by simp at hi; omega
  have h2 : q = 0 ∨ q = 1 ∨ q = 2 ∨ q = 3 := by omega
  rcases h1 with rfl | rfl | rfl <;> rcases h2 with rfl | rfl | rfl | rfl <;> simp
end Df
end Go.Proofs.YtmjjkamndlefmaaDoor
