/- The reader of a machine: after, behind. -/
import Derived.Test.YtmjjkamndlefmaaDoorPq22
namespace Go.Proofs.YtmjjkamndlefmaaDoor
open Go.RowKit Sets Nf
namespace Df
theorem foldl_snoc_get (G : List Nat) (l : List Nat) (j : Nat) (h : j < l.length) : (l.take (j + 1)).foldl (fun a k => a ||| G.getD k 0) 0 = (l.take j).foldl (fun a k => a ||| G.getD k 0) 0 ||| G.getD (l.getD j 0) 0 := by
  rw [List.take_succ_eq_append_getElem h, List.foldl_append, List.getD_eq_getElem?_getD (l := l), List.getElem?_eq_getElem h]; rfl
theorem set_u8 {w : World} {B S b o k : Nat} (h : SetB w B S) (hc : w.cell? ⟨b, o, none⟩ = some (.int .u8 k)) : b ≠ B := by
  intro e
  subst e
  rw [cell_of_row w b o _ _ _ h.row] at hc
  have ho : o < 4 := by have := (Array.getElem?_eq_some_iff.1 hc).1; simpa [setC] using this
  have : o = 0 ∨ o = 1 ∨ o = 2 ∨ o = 3 := by omega
  rcases this with rfl | rfl | rfl | rfl <;> simp [setC] at hc
def orTo (G l : List Nat) (j : Nat) : Nat := (l.take j).foldl (fun a k => a ||| G.getD k 0) 0
set_option maxHeartbeats 3200000 in
set_option maxRecDepth 100000 in
theorem after_any (x : Rx) (r : Rd) (S : Nat) (w : World) (h : RAt w x r) (hS : ∀ k, S.testBit k = true → k < r.G.length) (hT : Tab w) :
    Calls Tryd.prog 67 #[.agg (rdC x r), .agg (setC S)] w fun e w' => e = .returned (.agg (setC (bh r.G S))) ∧ Below w.heap.size w w' := by
  have HG : Hid (0 < w.heap.size) := Lib.hid (World.block_lt_of_cell? _ _ (hT 0 (by decide)))
  have HSL : Hid (∀ j, j < (listN S).length → (listN S).getD j 0 < r.G.length) := Lib.hid (fun j hj => hS _ ((mem_listN S _).1 (getD_mem hj)).2)
  have HM0 := Lib.hid h.g
  have HT0 := Lib.hid hT
  clear h hS hT
  go_enter Tryd.func67, Tryd.ntmps67
  go_upto_region 2 with fail
  rw [zeroC]
  have hb0 := (Below.refl w.heap.size w).alloc (Nat.le_refl _) (.cells (rdC x r) 82)
  have hb1 := hb0.alloc (by simp) (.cells (setC S) 54)
  have hb2 := hb1.alloc (by simp; omega) (.cells (setC 0) 54)
  have hb3 := hb2.alloc (by simp; omega) (.cells (setC 0) 54)
  have HR1 : Hid (BoxR ((((w.alloc (.cells (rdC x r) 82)).alloc (.cells (setC S) 54)).alloc (.cells (setC 0) 54)).alloc (.cells (setC 0) 54)) w.heap.size x r) := Lib.hid ((((BoxR.new w x r).stay ((Below.refl _ _).alloc (Nat.le_refl _) _)).stay ((Below.refl _ _).alloc (Nat.le_refl _) _)).stay ((Below.refl _ _).alloc (Nat.le_refl _) _))
  have HS1 : Hid (SetB ((((w.alloc (.cells (rdC x r) 82)).alloc (.cells (setC S) 54)).alloc (.cells (setC 0) 54)).alloc (.cells (setC 0) 54)) (w.heap.size + 1) S) := Lib.hid (by
    have := ((SetB.new (w.alloc (.cells (rdC x r) 82)) S).stay ((Below.refl _ _).alloc (Nat.le_refl _) (.cells (setC 0) 54))).stay ((Below.refl _ _).alloc (Nat.le_refl _) (.cells (setC 0) 54))
    simpa using this)
  have HS2 : Hid (SetB ((((w.alloc (.cells (rdC x r) 82)).alloc (.cells (setC S) 54)).alloc (.cells (setC 0) 54)).alloc (.cells (setC 0) 54)) (w.heap.size + 1 + 1) 0) := Lib.hid (by
    have := (SetB.new ((w.alloc (.cells (rdC x r) 82)).alloc (.cells (setC S) 54)) 0).stay ((Below.refl _ _).alloc (Nat.le_refl _) (.cells (setC 0) 54))
    simpa using this)
  have HS3 : Hid (SetB ((((w.alloc (.cells (rdC x r) 82)).alloc (.cells (setC S) 54)).alloc (.cells (setC 0) 54)).alloc (.cells (setC 0) 54)) (w.heap.size + 1 + 1 + 1) 0) := Lib.hid (by
    have := SetB.new (((w.alloc (.cells (rdC x r) 82)).alloc (.cells (setC S) 54)).alloc (.cells (setC 0) 54)) 0
    simpa using this)
  have HB1 := Lib.hid hb3
  clear hb0 hb1 hb2 hb3
  generalize (((w.alloc (.cells (rdC x r) 82)).alloc (.cells (setC S) 54)).alloc (.cells (setC 0) 54)).alloc (.cells (setC 0) 54) = w1 at *
  have HT1 := Lib.hid (HT0.out.below HB1.out HG.out)
  have HG1 := Lib.hid (Nat.lt_of_lt_of_le HG.out HB1.out.size)
  have HLI := Lib.hid (list_bytes S w1 HT1.out HG1.out)
  go_wp2_with (first
    | (refine wpList_load_set rfl _ rfl (w.heap.size + 1) S rfl HS1.out ?_)
    | (go_at_call 56; refine HLI.out.mono ?_; rintro e w2 ⟨v, rfl, hbs, hb2⟩; have HBS := Lib.hid hbs.2; have HB2 := Lib.hid hb2; obtain ⟨_, a9, c9, rfl, _⟩ := hbs.2; clear hbs hb2))
  obtain ⟨l, hl⟩ : ∃ l, Hid (listN S = l) := ⟨_, Lib.hid rfl⟩
  have HLL : Hid (l.length ≤ 256) := Lib.hid (by rw [← hl.out]; exact listN_len S)
  have HBH : Hid (bh r.G S = orTo r.G l l.length) := Lib.hid (by unfold orTo; rw [List.take_length, ← hl.out]; rfl)
  rw [hl.out] at HSL HBS ⊢
  have HB12 := Lib.hid (HB1.out.trans (HB2.out.mono HB1.out.size))
  have HR2 := Lib.hid (HR1.out.stay HB2.out)
  have HZ2 := Lib.hid (HS2.out.stay HB2.out)
  have HA2 : Hid (SetB w2 (w.heap.size + 1 + 1 + 1) (orTo r.G l 0)) := Lib.hid (HS3.out.stay HB2.out)
  have HA0 := HA2
  clear HS1 HS2 HS3 HR1 HB1 HT1 HG1 HLI
  go_loopw [11] (fun i wr => ∃ j : Nat, i = .int .i64 j ∧ j ≤ l.length ∧ Hid (SetB wr (w.heap.size + 1 + 1 + 1) (orTo r.G l j)) ∧ Hid (SetB wr (w.heap.size + 1 + 1) 0) ∧ Hid (BoxR wr w.heap.size x r) ∧ Hid (But (w.heap.size + 1 + 1 + 1) w2 wr)) (fun i _ => ((l.length : Int) - intOf i).toNat)
  case atStart => exact ⟨0, rfl, Nat.zero_le _, HA2, HZ2, HR2, Lib.hid (But.refl _ _)⟩
  case round =>
    obtain ⟨j, rfl, hj, HS, HZ, HR, HU⟩ := hrel
    generalize hwr : wr = w3 at *
    clear hwr wr HA2 HZ2 HR2
    by_cases hlt : j < l.length
    · have hdd : decide ((j : Int) < (l.length : Int)) = true := decide_eq_true (by omega)
      have hd2 : decide (j < l.length) = true := decide_eq_true hlt
      have HJ := Lib.hid hlt
      have hjl : (j : Int) < (l.length : Int) := by omega
      have HW1 : Hid (wrap64 ((j : Int) + 1) = ((j + 1 : Nat) : Int)) := Lib.hid (nat_wrap (by have := HLL.out; omega))
      have HOR : Hid (orTo r.G l (j + 1) = orTo r.G l j ||| r.G.getD (l.getD j 0) 0) := Lib.hid (foldl_snoc_get r.G l j hlt)
      have HKG := Lib.hid (HSL.out j hlt)
      have HBA := Lib.hid (HBS.out.2 : ∃ a cap, Value.slice a9 l.length c9 = .slice a l.length cap ∧ _)
      obtain ⟨b9, o9, e9, HC9⟩ : ∃ b o, a9 = some ⟨b, o, none⟩ ∧ Hid (w3.cell? ⟨b, o + j, none⟩ = some (.int .u8 (l.getD j 0))) := by
        obtain ⟨a8, c8, e8, hcells⟩ := HBA.out
        obtain ⟨b, o, e, hc⟩ := hcells j hlt
        injection e8 with e8
        exact ⟨b, o, e8.trans e, Lib.hid (HU.out.cell hc (set_u8 HA0.out hc))⟩
      subst e9
      obtain ⟨b8, o8, e8, hg8⟩ := (HM0.out.kept (But.below HB12.out HU.out (by omega) HB12.out.size)) _ HKG.out
      have HG8 := Lib.hid hg8
      have HXA : Hid (x.a = some ⟨b8, o8, none⟩) := Lib.hid e8
      clear e8 hg8 hlt HBA HBS
      have c9 := HC9.out
      generalize l.getD j 0 = k at *
      have hkg : (k : Int) < (r.G.length : Int) := by have := HKG.out; omega
      have hkd : decide ((k : Int) < (r.G.length : Int)) = true := decide_eq_true hkg
      have hkd2 : decide (k < r.G.length) = true := decide_eq_true HKG.out
      have HL3 := Lib.hid HS.out.lt
      have HL5 := Lib.hid HR.out.lt
      have cg : w3.cell? ⟨w.heap.size, 4, none⟩ = some (.slice (some ⟨b8, o8, none⟩) r.G.length x.gc) := by rw [← HXA.out]; exact HR.out.cell 4 _ rfl
      go_upto_region 5 with fail
      have HLB := Lib.hid (World.block_lt_of_cell? _ _ (HG8.out 0 (.int .u64 (wd (r.G.getD k 0) 0)) rfl))
      refine region_mix [(false, 0), (false, 1), (false, 2), (false, 3), (false, 4), (false, 5), (true, 6)] (fun w' => Below w3.heap.size w3 w') (by kernel_rfl) (by kernel_rfl) ((Below.refl _ _).drew) ?_
      simp only [planOps, List.map_cons, List.map_nil, List.getD_cons_zero, List.getD_cons_succ, List.length_cons, List.length_nil, List.drop_succ_cons, List.drop_zero]
      refine mix_seg (seg := [_, _, _, _, _, _]) rfl ((Below.refl _ _).drew) ?_
      intro ι hι F2 hF
      have f1 := Lib.hid (fun n => HS.out.kept (hF n) HL3.out)
      have f2 := fun n => ((hF n).cell (p := ⟨w.heap.size, 4, none⟩) HL5.out).trans cg
      have f3 := Lib.hid (fun n => range_below HG8.out (hF n))
      refine BigFrame.wpQuiet_want rfl (fun K hK => ?_); refine quiet_load_set _ rfl (w.heap.size + 1 + 1 + 1) (orTo r.G l j) rfl (fun w' ⟨n, e⟩ => e ▸ f1.out n) ?_; refine hK _ ?_; clear hK K; simp only [Act.put, List.setIfInBounds_toArray, List.set_cons_zero, List.set_cons_succ]
      iterate 4 (go_big_quiet_step (fail))
      refine BigFrame.wpQuiet_want rfl (fun K hK => ?_); refine quiet_load_mid 54 _ rfl b8 (o8 + k * 4) rfl (setC (r.G.getD k 0)).toList _ (fun w' ⟨n, e⟩ => e ▸ f3.out n) Tryd.underlying54 rfl (sizeSetL _) ?_; refine hK _ ?_; clear hK K; simp only [Act.put, List.setIfInBounds_toArray, List.set_cons_zero, List.set_cons_succ]
      refine wpQuiet_nil ?_
      clear f1 f2 f3 hF hι F2
      have HBD : Hid (Below w3.heap.size w3 w3.drew) := Lib.hid ((Below.refl _ _).drew)
      have HA1 := Lib.hid (or_any (orTo r.G l j) (r.G.getD k 0) w3.drew)
      refine mix_eff (fun K hK => ?_)
      go_wp2_with (go_at_call 72; refine HA1.out.mono ?_; rintro e w9 ⟨rfl, hb9⟩; have HB9 := Lib.hid (HBD.out.trans hb9); clear hb9)
      refine mix_on hK HB9.out ?_
      clear hK K
      refine mix_seg (seg := []) (rest := []) rfl HB9.out ?_
      intro ι hι F hF
      refine wpQuiet_nil ?_
      clear hF hι F
      show wpList _ _ _ _ _ _
      have HS9 := Lib.hid (HS.out.kept HB9.out HL3.out)
      go_wp2_with (refine wpList_store_set rfl (.tmp 5) (.tmp 21) rfl (w.heap.size + 1 + 1 + 1) (orTo r.G l j) (orTo r.G l j ||| r.G.getD k 0) rfl rfl HS9.out ?_)
      refine NoPanic.normal ?_
      clear c9 cg
      go_wp2_with fail
      go_roundw
      case rel =>
        exact ⟨j + 1, by rw [HW1.out], HJ.out, Lib.hid (by rw [HOR.out]; exact HS9.out.put _), Lib.hid ((HZ.out.stay HB9.out).but (But.setRow _ _ _) (by omega)), Lib.hid (⟨by rw [setRow_other _ _ _ _ (by omega)]; exact (HR.out.stay HB9.out).row⟩), Lib.hid ((HU.out.trans (But.of_below HB9.out)).trans (But.setRow _ _ _))⟩
      case measure => rw [HW1.out]; exact meas9 HJ.out
    · have hdd : decide ((j : Int) < (l.length : Int)) = false := decide_eq_false (by omega)
      have hd2 : decide (j < l.length) = false := decide_eq_false hlt
      have HE : Hid (orTo r.G l j = bh r.G S) := Lib.hid (by rw [HBH.out, show j = l.length from by omega])
      rw [HE.out] at HS
      go_wp2_with (first
        | (refine wpList_load_set rfl (.tmp 5) rfl (w.heap.size + 1 + 1 + 1) (bh r.G S) rfl HS.out ?_)
        | (refine wpList_store_set rfl (.tmp 4) (.tmp 23) rfl (w.heap.size + 1 + 1) 0 (bh r.G S) rfl rfl HZ.out ?_))
      refine bodyPost_ret (v := .agg (setC (bh r.G S))) (results_cell_row (p := 4) Tryd.results67 _ _ (w.heap.size + 1 + 1) 54 _ (0, 0) _ rfl (HZ.out.put _).row Tryd.underlying54 rfl (sizeSet _)) rfl ⟨rfl, But.below (But.below HB12.out HU.out (by omega) HB12.out.size) (But.setRow _ _ _) (by omega) (Nat.le_trans HB12.out.size HU.out.size)⟩
set_option maxHeartbeats 3200000 in
set_option maxRecDepth 100000 in
/-- The state behind a byte of class c: g holds what comes next, B the reader. -/
theorem into_any (x : Rx) (r : Rd) (g B S c : Nat) (w : World) (hg : SetB w g S) (hB : BoxR w B x r) (h : SetsAt w x.b r.H) (hc : c < r.H.length) :
    Calls Tryd.prog 68 #[.int .i64 c, .pointer (some ⟨g, 0, none⟩), .pointer (some ⟨B, 0, none⟩)] w fun e w' => e = .returned (.agg (rC (S &&& r.H.getD c 0, true))) ∧ Below w.heap.size w w' := by
  have hal := (Below.refl w.heap.size w).alloc (Nat.le_refl _) (.cells (rC (0, false)) 86)
  have HS := Lib.hid (hg.stay hal)
  have HR := Lib.hid (hB.stay hal)
  have HM := Lib.hid (h.kept hal)
  have HB1 := Lib.hid hal
  have HZ : Hid (BoxS (w.alloc (.cells (rC (0, false)) 86)) w.heap.size (0, false)) := Lib.hid (BoxS.new w _)
  have HC := Lib.hid hc
  have hcg : (c : Int) < (r.H.length : Int) := by omega
  have hcd : decide ((c : Int) < (r.H.length : Int)) = true := decide_eq_true hcg
  have hcd2 : decide (c < r.H.length) = true := decide_eq_true hc
  obtain ⟨b8, o8, e8, hg8⟩ := HM.out c hc
  have HG8 := Lib.hid hg8
  have HXA : Hid (x.b = some ⟨b8, o8, none⟩) := Lib.hid e8
  have cg : (w.alloc (.cells (rC (0, false)) 86)).cell? ⟨B, 5, none⟩ = some (.slice (some ⟨b8, o8, none⟩) r.H.length x.hc) := by rw [← HXA.out]; exact HR.out.cell 5 _ rfl
  have HL3 := Lib.hid HS.out.lt
  have HL5 := Lib.hid HR.out.lt
  have HLZ := Lib.hid HZ.out.lt
  clear hg hB h hc hal e8 hg8
  go_enter Tryd.func68, Tryd.ntmps68
  go_upto_region 1 with fail
  rw [zeroR]
  generalize w.alloc (.cells (rC (0, false)) 86) = w1 at *
  obtain ⟨z, hz⟩ : ∃ z, Hid (w.heap.size = z) := ⟨_, Lib.hid rfl⟩
  rw [hz.out] at HZ HB1 HLZ ⊢
  refine region_mix [(false, 0), (false, 1), (false, 2), (false, 3), (false, 4), (false, 5), (true, 6), (false, 7)] (fun w' => Below w1.heap.size w1 w') (by kernel_rfl) (by kernel_rfl) ((Below.refl _ _).drew) ?_
  simp only [planOps, List.map_cons, List.map_nil, List.getD_cons_zero, List.getD_cons_succ, List.length_cons, List.length_nil, List.drop_succ_cons, List.drop_zero]
  refine mix_seg (seg := [_, _, _, _, _, _]) rfl ((Below.refl _ _).drew) ?_
  intro ι hι F2 hF
  have f1 := Lib.hid (fun n => HS.out.kept (hF n) HL3.out)
  have f2 := fun n => ((hF n).cell (p := ⟨B, 5, none⟩) HL5.out).trans cg
  have f3 := Lib.hid (fun n => range_below HG8.out (hF n))
  refine BigFrame.wpQuiet_want rfl (fun K hK => ?_); refine quiet_load_set _ rfl g S rfl (fun w' ⟨n, e⟩ => e ▸ f1.out n) ?_; refine hK _ ?_; clear hK K; simp only [Act.put, List.setIfInBounds_toArray, List.set_cons_zero, List.set_cons_succ]
  iterate 4 (go_big_quiet_step (fail))
  refine BigFrame.wpQuiet_want rfl (fun K hK => ?_); refine quiet_load_mid 54 _ rfl b8 (o8 + c * 4) rfl (setC (r.H.getD c 0)).toList _ (fun w' ⟨n, e⟩ => e ▸ f3.out n) Tryd.underlying54 rfl (sizeSetL _) ?_; refine hK _ ?_; clear hK K; simp only [Act.put, List.setIfInBounds_toArray, List.set_cons_zero, List.set_cons_succ]
  refine wpQuiet_nil ?_
  clear f1 f2 f3 hF hι F2
  have HBD : Hid (Below w1.heap.size w1 w1.drew) := Lib.hid ((Below.refl _ _).drew)
  have HA1 := Lib.hid (and_any S (r.H.getD c 0) w1.drew)
  refine mix_eff (fun K hK => ?_)
  go_wp2_with (go_at_call 52; refine HA1.out.mono ?_; rintro e w9 ⟨rfl, hb9⟩; have HB9 := Lib.hid (HBD.out.trans hb9); clear hb9)
  refine mix_on hK HB9.out ?_
  clear hK K
  refine mix_seg (seg := [_]) (rest := []) rfl HB9.out ?_
  intro ι hι F hF
  iterate 1 (go_big_quiet_step (fail))
  refine wpQuiet_nil ?_
  clear hF hι F
  show wpList _ _ _ _ _ _
  have HZ9 := Lib.hid (HZ.out.kept HB9.out HLZ.out)
  go_wp2_with (refine wpList_store_runs rfl (.tmp 4) (.tmp 12) rfl z (0, false) (S &&& r.H.getD c 0, true) rfl rfl HZ9.out ?_)
  refine NoPanic.normal ?_
  clear cg
  go_wp2_with fail
  refine bodyPost_ret (v := .agg (rC (S &&& r.H.getD c 0, true))) (results_cell_row (p := 4) Tryd.results68 _ _ z 86 _ (0, 0) _ rfl (HZ9.out.put _).row Tryd.underlying86 rfl (sizeRuns _)) rfl ⟨rfl, ?_⟩
  rw [hz.out]
  exact But.below (HB1.out.trans (HB9.out.mono (by have := HLZ.out; omega))) (But.setRow _ _ _) (Nat.le_refl _) (by have h1 := HLZ.out; have h2 := HB9.out.size; have h3 := HB1.out.size; have h4 := hz.out; omega)
set_option maxHeartbeats 3200000 in
set_option maxRecDepth 100000 in
/-- What comes next is laid into a block; the function told leads on by classes. -/
theorem behind_any (x : Rx) (r : Rd) (s : Nat × Bool) (w : World) (h : RAt w x r) (hS : ∀ k, s.1.testBit k = true → k < r.G.length) (hT : Tab w) :
    Calls Tryd.prog 41 #[.agg (rdC x r), .agg (rC s)] w fun e w' => ∃ g B, e = .returned (.func (.func 68) #[] #[.pointer (some ⟨g, 0, none⟩), .pointer (some ⟨B, 0, none⟩)]) ∧ SetB w' g (nextS r s) ∧ BoxR w' B x r ∧ Below w.heap.size w w' ∧ w.heap.size ≤ g ∧ w.heap.size ≤ B := by
  have HG : Hid (0 < w.heap.size) := Lib.hid (World.block_lt_of_cell? _ _ (hT 0 (by decide)))
  have HM0 := Lib.hid h
  have HT0 := Lib.hid hT
  have HSS := Lib.hid hS
  clear h hS hT
  have hmf : ∀ (fn : Fn) (first cap : Array Value) (w : World), (Instr.makeFunc fn first cap).run Tryd.prog w = .ok (.func fn first cap) w := fun _ _ _ _ => rfl
  go_enter Tryd.func41, Tryd.ntmps41
  go_upto_region 1 with fail
  have HR1 := Lib.hid ((BoxR.new w x r).stay ((Below.refl _ _).alloc (Nat.le_refl _) (.cells (rC s) 86)))
  have HS1 : Hid (BoxS ((w.alloc (.cells (rdC x r) 82)).alloc (.cells (rC s) 86)) (w.heap.size + 1) s) := Lib.hid (by have := BoxS.new (w.alloc (.cells (rdC x r) 82)) s; simpa using this)
  have HB1 : Hid (Below w.heap.size w ((w.alloc (.cells (rdC x r) 82)).alloc (.cells (rC s) 86))) := Lib.hid (((Below.refl _ _).alloc (Nat.le_refl _) _).alloc (by simp) _)
  generalize (w.alloc (.cells (rdC x r) 82)).alloc (.cells (rC s) 86) = w1 at *
  obtain ⟨b, hb⟩ : ∃ b, Hid (w.heap.size = b) := ⟨_, Lib.hid rfl⟩
  have HSZ : Hid (b ≤ w1.heap.size) := Lib.hid (by have := HB1.out.size; rw [hb.out] at this; exact this)
  have HM1 := Lib.hid (HM0.out.kept HB1.out)
  have HT1 := Lib.hid (HT0.out.below HB1.out HG.out)
  rw [hb.out] at HR1 HS1 HB1 ⊢
  go_upto_region 2 with (first
    | (refine wpList_load_setm rfl _ rfl b 0 r.fi rfl HR1.out.rfi ?_)
    | (rw [zeroC]; refine wpList_lay_set2 rfl (.tmp 5) (.tmp 7) rfl 0 r.fi rfl rfl ?_))
  have hal := (Below.refl w1.heap.size w1).alloc (Nat.le_refl _) (.cells (setC r.fi) 54)
  have HR2 := Lib.hid (HR1.out.stay hal)
  have HS2 := Lib.hid (HS1.out.stay hal)
  have HM2 := Lib.hid (HM1.out.kept hal)
  have HB2 := Lib.hid (HB1.out.trans (hal.mono HSZ.out))
  have HT2 : Hid (Tab (w1.alloc (.cells (setC r.fi) 54))) := Lib.hid (HT0.out.below (hb.out ▸ HB2.out) HG.out)
  have HN2 := Lib.hid (SetB.new w1 r.fi)
  have HGB : Hid (b + 1 < w1.heap.size) := Lib.hid HS1.out.lt
  rw [show ∀ a : Act, a.put none undef = a from fun _ => rfl]
  clear hal HR1 HS1 HM1 HB1 HT1
  generalize w1.alloc (.cells (setC r.fi) 54) = w2 at *
  obtain ⟨g, hg⟩ : ∃ g, Hid (w1.heap.size = g) := ⟨_, Lib.hid rfl⟩
  rw [hg.out] at HN2 HGB ⊢
  clear HSZ
  have c4 := HS2.out.c4
  cases hr : s.2
  · rw [hr] at c4
    have HF : Hid (nextS r s = r.fi) := Lib.hid (by unfold nextS; rw [hr]; rfl)
    clear hr
    go_wp2_with fail
    go_ret
    exact ⟨g, b, rfl, by rw [HF.out]; exact HN2.out, HR2.out, by rw [hb.out]; exact HB2.out, by rw [hb.out]; have := HGB.out; omega, by rw [hb.out]; exact Nat.le_refl _⟩
  · rw [hr] at c4
    have HF : Hid (nextS r s = bh r.G s.1) := Lib.hid (by unfold nextS; rw [hr]; rfl)
    have HA := Lib.hid (after_any x r s.1 w2 HM2.out HSS.out HT2.out)
    clear hr
    go_wp2_with (first
      | (refine wpList_load_rd rfl _ rfl b x r rfl HR2.out ?_)
      | (refine wpList_load_setm rfl _ rfl (b + 1) 0 s.1 rfl HS2.out.set ?_)
      | (go_at_call 67; refine HA.out.mono ?_; rintro e w3 ⟨rfl, hb3⟩; have HB3 := Lib.hid hb3; have HN3 := Lib.hid (HN2.out.stay hb3); have HR3 := Lib.hid (HR2.out.stay hb3); clear hb3)
      | (refine wpList_store_set rfl (.tmp 5) (.tmp 13) rfl g r.fi (bh r.G s.1) rfl rfl HN3.out ?_))
    go_ret
    refine ⟨g, b, rfl, by rw [HF.out]; exact HN3.out.put _, ⟨?_⟩, ?_, by rw [hb.out]; have := HGB.out; omega, by rw [hb.out]; exact Nat.le_refl _⟩
    · rw [setRow_other _ _ _ _ (by have := HGB.out; omega)]; exact HR3.out.row
    · rw [hb.out]
      exact But.below (HB2.out.trans (HB3.out.mono (by have h1 := HR2.out.lt; omega))) (But.setRow _ _ _) (by have := HGB.out; omega) (by have h1 := HR3.out.lt; have h2 := hb.out; omega)
end Df
end Go.Proofs.YtmjjkamndlefmaaDoor
