/- readerOf. (Written by genDfJ.py) -/
import Derived.Test.YtmjjkamndlefmaaDoorPq32
namespace Go.Proofs.YtmjjkamndlefmaaDoor
open Go.RowKit Sets Nf Cls
namespace Df
def RQ (x : Ma) (m : Mc) (s nc : Nat) : Nat → Value → World → Prop
  | 0, v, _ => v = .pointer (some ⟨s, 1, none⟩)
  | 1, v, _ => v = .slice x.fa m.fi.length x.fc
  | 2, v, _ => v = .agg (setC (grp m.fi))
  | 3, v, _ => v = .pointer (some ⟨s + 1, 256, none⟩)
  | 4, v, _ => v = .int .i64 nc
  | 5, v, w => ∃ g, v = .slice (some ⟨g, 0, none⟩) nc nc ∧ (s + 1 + 1 < g ∧ GsB w g (List.replicate nc 0))
  | 6, v, _ => v = .pointer (some ⟨s, 4, none⟩)
  | 7, v, _ => v = .bool m.em
  | 8, v, w => ∃ g, v = .agg #[.int .u64 (wd (grp m.fi) 0), .int .u64 (wd (grp m.fi) 1), .int .u64 (wd (grp m.fi) 2), .int .u64 (wd (grp m.fi) 3), .slice none 0 0, .slice (some ⟨g, 0, none⟩) nc nc, .int .u64 0, .int .u64 0, .int .u64 0, .int .u64 0, .bool m.em] ∧ (s + 1 + 1 < g ∧ GsB w g (List.replicate nc 0))
  | 9, v, w => ∃ q, v = .pointer (some ⟨q, 0, none⟩) ∧ s + 1 + 1 < q ∧ w.heap[q]? = some (.cells rdZ 82 (0, 0))
  | _, _, _ => True
theorem RQ_mono (x : Ma) (m : Mc) (s nc : Nat) (i : Nat) (v : Value) (w w' : World) (hb : Below w.heap.size w w') (h : RQ x m s nc i v w) : RQ x m s nc i v w' := by
  match i with
  | 0 => exact h
  | 1 => exact h
  | 2 => exact h
  | 3 => exact h
  | 4 => exact h
  | 5 => obtain ⟨g, e, h0, h1⟩ := h; exact ⟨g, e, h0, h1.stay hb⟩
  | 6 => exact h
  | 7 => exact h
  | 8 => obtain ⟨g, e, h0, h1⟩ := h; exact ⟨g, e, h0, h1.stay hb⟩
  | 9 => obtain ⟨q, e, h0, h2⟩ := h; exact ⟨q, e, h0, (hb.block q (Array.getElem?_eq_some_iff.1 h2).1).trans h2⟩
  | n + 10 => exact h
def RQd (i : Nat) : Nat := if i = 9 then 5 else i + 14
set_option maxHeartbeats 12800000 in
set_option maxRecDepth 100000 in
theorem readerOf_any (x : Ma) (m : Mc) (of : Nat → Nat) (nc : Nat) (w : World) (h : MAt w x m) (hf : Fine m) (hr : Rt m) (hn : nc ≤ 256) (hof : ∀ c, c < 256 → of c < nc) (hp : prightB of nc = true) (hT : Tab w) :
    Calls Tryd.prog 39 #[.agg (mc x m), .agg (partC of nc)] w fun e w' => ∃ y, e = .returned (.agg (rdC y (rdOf m of nc))) ∧ RAt w' y (rdOf m of nc) ∧ (∀ b o, y.a = some ⟨b, o, none⟩ → w.heap.size ≤ b) ∧ (∀ b o, y.b = some ⟨b, o, none⟩ → w.heap.size ≤ b) ∧ Below w.heap.size w w' := by
  have HG : Hid (0 < w.heap.size) := Lib.hid (World.block_lt_of_cell? _ _ (hT 0 (by decide)))
  have HF := Lib.hid hf
  have HRT := Lib.hid hr
  have HT0 := Lib.hid hT
  have HM0 := Lib.hid h
  have HNC := Lib.hid hn
  have HLE := Lib.hid (fun w (hT : Tab w) (hg : 0 < w.heap.size) => least_any of nc 1 w hn hof hp hT hg)
  have HOF := Lib.hid hof
  have HPR := Lib.hid hp
  have HFI : Hid (∀ k ∈ m.fi, 0 ≤ k ∧ k < 256) := Lib.hid (fun k hk => by
    have := ((rise_iff _ _).1 hr.fiR).1 k hk
    have := hr.many
    omega)
  clear h hf hr hn hof hp hT
  go_enter Tryd.func39, Tryd.ntmps39
  go_upto_region 1 with fail
  obtain ⟨s, hs⟩ : ∃ s, Hid (w.heap.size = s) := ⟨_, Lib.hid rfl⟩
  have hb1 := (Below.refl w.heap.size w).alloc (Nat.le_refl _) (.cells (mc x m) 43)
  have hb2 := hb1.alloc (by simp) (.cells (partC of nc) 24)
  have hb3 := hb2.alloc (by simp; omega) (.cells rdZ 82)
  have HX : Hid (BoxM (((w.alloc (.cells (mc x m) 43)).alloc (.cells (partC of nc) 24)).alloc (.cells rdZ 82)) s x m) := Lib.hid (by
    rw [← hs.out]
    exact ⟨(((Below.refl _ _).alloc (Nat.le_refl _) _).block _ (by simp; omega)).trans ((((Below.refl _ _).alloc (Nat.le_refl _) _).block _ (by simp)).trans (BoxM.new w x m).row)⟩)
  have HP : Hid (PartAt (((w.alloc (.cells (mc x m) 43)).alloc (.cells (partC of nc) 24)).alloc (.cells rdZ 82)) (s + 1) of nc) := Lib.hid (by
    have := (PartAt.new (w.alloc (.cells (mc x m) 43)) of nc).alloc (.cells rdZ 82)
    simpa [hs.out] using this)
  have HZ : Hid ((((w.alloc (.cells (mc x m) 43)).alloc (.cells (partC of nc) 24)).alloc (.cells rdZ 82)).heap[s + 1 + 1]? = some (.cells rdZ 82 (0, 0))) := Lib.hid (by
    have := heap_alloc_new ((w.alloc (.cells (mc x m) 43)).alloc (.cells (partC of nc) 24)) (.cells rdZ 82)
    simpa [hs.out] using this)
  have HB := Lib.hid hb3
  rw [hs.out] at HB ⊢
  clear hb1 hb2 hb3
  show Code.wp _ _ _ _ (((w.alloc (.cells (mc x m) 43)).alloc (.cells (partC of nc) 24)).alloc (.cells rdZ 82))
  generalize ((w.alloc (.cells (mc x m) 43)).alloc (.cells (partC of nc) 24)).alloc (.cells rdZ 82) = w1 at *
  have HM := Lib.hid (HM0.out.kept (hs.out ▸ HB.out))
  refine Rinv.region_inv' (RQ x m s nc) 10 RQd (by kernel_rfl) (by kernel_rfl) ?_ (RQ_mono x m s nc) ?_ ?_
  · intro j hj
    have : j = 0 ∨ j = 1 ∨ j = 2 ∨ j = 3 ∨ j = 4 ∨ j = 5 ∨ j = 6 ∨ j = 7 ∨ j = 8 ∨ j = 9 := by omega
    rcases this with rfl | rfl | rfl | rfl | rfl | rfl | rfl | rfl | rfl | rfl <;> rfl
  · intro i hi X w' hB hR K hK
    have HK := Lib.hid hK
    have HBW := Lib.hid hB
    clear hK hB
    have hi' : i = 0 ∨ i = 1 ∨ i = 2 ∨ i = 3 ∨ i = 4 ∨ i = 5 ∨ i = 6 ∨ i = 7 ∨ i = 8 ∨ i = 9 := by omega
    rcases hi' with rfl | rfl | rfl | rfl | rfl | rfl | rfl | rfl | rfl | rfl
    · simp only [List.getD_cons_zero]
      clear hR
      simp only [Rinv.putAll, RQd, Act.put, Nat.reduceEqDiff, Nat.reduceAdd, if_true, if_false, List.setIfInBounds_toArray, List.set_cons_zero, List.set_cons_succ]
      go_wp2_with fail
      exact HK.out _ _ (.pointer (some ⟨s, 1, none⟩)) (by simp only [Rinv.putAll, RQd, Act.put, Nat.reduceEqDiff, Nat.reduceAdd, if_true, if_false, List.setIfInBounds_toArray, List.set_cons_zero, List.set_cons_succ]) (Below.refl _ _) (rfl)
    · simp only [List.getD_cons_zero, List.getD_cons_succ]
      have hr0 : RQ x m s nc 0 (X 0) w' := hR 0 (by decide) (by unfold Rinv.waits; kernel_rfl)
      have e0 : X 0 = _ := hr0
      clear hr0
      clear hR
      have c1 := (HX.out.kept HBW.out HX.out.lt).c1
      simp only [Rinv.putAll, RQd, Act.put, Nat.reduceEqDiff, Nat.reduceAdd, if_true, if_false, List.setIfInBounds_toArray, List.set_cons_zero, List.set_cons_succ, e0]
      go_wp2_with fail
      exact HK.out _ _ (.slice x.fa m.fi.length x.fc) (by simp only [Rinv.putAll, RQd, Act.put, Nat.reduceEqDiff, Nat.reduceAdd, if_true, if_false, List.setIfInBounds_toArray, List.set_cons_zero, List.set_cons_succ, e0]) (Below.refl _ _) (rfl)
    · simp only [List.getD_cons_zero, List.getD_cons_succ]
      have hr1 : RQ x m s nc 1 (X 1) w' := hR 1 (by decide) (by unfold Rinv.waits; kernel_rfl)
      have e1 : X 1 = _ := hr1
      clear hr1
      clear hR
      have HGR := Lib.hid (dgroup_any x.fa x.fc m.fi w' (HM.out.kept HBW.out).fi HF.out.fi HFI.out)
      simp only [Rinv.putAll, RQd, Act.put, Nat.reduceEqDiff, Nat.reduceAdd, if_true, if_false, List.setIfInBounds_toArray, List.set_cons_zero, List.set_cons_succ, e1]
      go_wp2_with (go_at_call 63; refine HGR.out.mono ?_; rintro e w4 ⟨rfl, hb⟩)
      exact HK.out _ _ (.agg (setC (grp m.fi))) (by simp only [Rinv.putAll, RQd, Act.put, Nat.reduceEqDiff, Nat.reduceAdd, if_true, if_false, List.setIfInBounds_toArray, List.set_cons_zero, List.set_cons_succ, e1]) (hb) (rfl)
    · simp only [List.getD_cons_zero, List.getD_cons_succ]
      clear hR
      simp only [Rinv.putAll, RQd, Act.put, Nat.reduceEqDiff, Nat.reduceAdd, if_true, if_false, List.setIfInBounds_toArray, List.set_cons_zero, List.set_cons_succ]
      go_wp2_with fail
      exact HK.out _ _ (.pointer (some ⟨s + 1, 256, none⟩)) (by simp only [Rinv.putAll, RQd, Act.put, Nat.reduceEqDiff, Nat.reduceAdd, if_true, if_false, List.setIfInBounds_toArray, List.set_cons_zero, List.set_cons_succ]) (Below.refl _ _) (rfl)
    · simp only [List.getD_cons_zero, List.getD_cons_succ]
      have hr3 : RQ x m s nc 3 (X 3) w' := hR 3 (by decide) (by unfold Rinv.waits; kernel_rfl)
      have e3 : X 3 = _ := hr3
      clear hr3
      clear hR
      have c256 := (HP.out.kept HBW.out HP.out.lt).cellN
      simp only [Rinv.putAll, RQd, Act.put, Nat.reduceEqDiff, Nat.reduceAdd, if_true, if_false, List.setIfInBounds_toArray, List.set_cons_zero, List.set_cons_succ, e3]
      go_wp2_with fail
      exact HK.out _ _ (.int .i64 nc) (by simp only [Rinv.putAll, RQd, Act.put, Nat.reduceEqDiff, Nat.reduceAdd, if_true, if_false, List.setIfInBounds_toArray, List.set_cons_zero, List.set_cons_succ, e3]) (Below.refl _ _) (rfl)
    · simp only [List.getD_cons_zero, List.getD_cons_succ]
      have hr4 : RQ x m s nc 4 (X 4) w' := hR 4 (by decide) (by unfold Rinv.waits; kernel_rfl)
      have e4 : X 4 = _ := hr4
      clear hr4
      clear hR
      have HSL : Hid (s + 1 + 1 < w'.heap.size) := Lib.hid (Nat.lt_of_lt_of_le (Array.getElem?_eq_some_iff.1 HZ.out).1 HBW.out.size)
      simp only [Rinv.putAll, RQd, Act.put, Nat.reduceEqDiff, Nat.reduceAdd, if_true, if_false, List.setIfInBounds_toArray, List.set_cons_zero, List.set_cons_succ, e4]
      go_wp2_with (refine wpList_make_sets rfl (.tmp 18) (.tmp 18) rfl nc rfl rfl (by have := HNC.out; omega) ?_)
      exact HK.out _ _ (.slice (some ⟨w'.heap.size, 0, none⟩) nc nc) (by simp only [Rinv.putAll, RQd, Act.put, Nat.reduceEqDiff, Nat.reduceAdd, if_true, if_false, List.setIfInBounds_toArray, List.set_cons_zero, List.set_cons_succ, e4]) ((Below.refl _ _).alloc (Nat.le_refl _) _) (⟨_, rfl, HSL.out, GsB.new w' nc⟩)
    · simp only [List.getD_cons_zero, List.getD_cons_succ]
      clear hR
      simp only [Rinv.putAll, RQd, Act.put, Nat.reduceEqDiff, Nat.reduceAdd, if_true, if_false, List.setIfInBounds_toArray, List.set_cons_zero, List.set_cons_succ]
      go_wp2_with fail
      exact HK.out _ _ (.pointer (some ⟨s, 4, none⟩)) (by simp only [Rinv.putAll, RQd, Act.put, Nat.reduceEqDiff, Nat.reduceAdd, if_true, if_false, List.setIfInBounds_toArray, List.set_cons_zero, List.set_cons_succ]) (Below.refl _ _) (rfl)
    · simp only [List.getD_cons_zero, List.getD_cons_succ]
      have hr6 : RQ x m s nc 6 (X 6) w' := hR 6 (by decide) (by unfold Rinv.waits; kernel_rfl)
      have e6 : X 6 = _ := hr6
      clear hr6
      clear hR
      have c4 := (HX.out.kept HBW.out HX.out.lt).c4
      simp only [Rinv.putAll, RQd, Act.put, Nat.reduceEqDiff, Nat.reduceAdd, if_true, if_false, List.setIfInBounds_toArray, List.set_cons_zero, List.set_cons_succ, e6]
      go_wp2_with fail
      exact HK.out _ _ (.bool m.em) (by simp only [Rinv.putAll, RQd, Act.put, Nat.reduceEqDiff, Nat.reduceAdd, if_true, if_false, List.setIfInBounds_toArray, List.set_cons_zero, List.set_cons_succ, e6]) (Below.refl _ _) (rfl)
    · simp only [List.getD_cons_zero, List.getD_cons_succ]
      have hr2 : RQ x m s nc 2 (X 2) w' := hR 2 (by decide) (by unfold Rinv.waits; kernel_rfl)
      have e2 : X 2 = .agg #[.int .u64 (wd (grp m.fi) 0), .int .u64 (wd (grp m.fi) 1), .int .u64 (wd (grp m.fi) 2), .int .u64 (wd (grp m.fi) 3)] := hr2
      clear hr2
      have hr5 : RQ x m s nc 5 (X 5) w' := hR 5 (by decide) (by unfold Rinv.waits; kernel_rfl)
      obtain ⟨g, e5, h5⟩ := hr5
      have H5 := Lib.hid h5
      clear h5
      have hr7 : RQ x m s nc 7 (X 7) w' := hR 7 (by decide) (by unfold Rinv.waits; kernel_rfl)
      have e7 : X 7 = _ := hr7
      clear hr7
      clear hR
      simp only [Rinv.putAll, RQd, Act.put, Nat.reduceEqDiff, Nat.reduceAdd, if_true, if_false, List.setIfInBounds_toArray, List.set_cons_zero, List.set_cons_succ, e2, e5, e7]
      go_wp2_with fail
      exact HK.out _ _ (.agg #[.int .u64 (wd (grp m.fi) 0), .int .u64 (wd (grp m.fi) 1), .int .u64 (wd (grp m.fi) 2), .int .u64 (wd (grp m.fi) 3), .slice none 0 0, .slice (some ⟨g, 0, none⟩) nc nc, .int .u64 0, .int .u64 0, .int .u64 0, .int .u64 0, .bool m.em]) (by simp only [Rinv.putAll, RQd, Act.put, Nat.reduceEqDiff, Nat.reduceAdd, if_true, if_false, List.setIfInBounds_toArray, List.set_cons_zero, List.set_cons_succ, e2, e5, e7]) (Below.refl _ _) (⟨g, rfl, H5.out⟩)
    · simp only [List.getD_cons_zero, List.getD_cons_succ]
      clear hR
      have HSL : Hid (s + 1 + 1 < w'.heap.size) := Lib.hid (Nat.lt_of_lt_of_le (Array.getElem?_eq_some_iff.1 HZ.out).1 HBW.out.size)
      simp only [Rinv.putAll, RQd, Act.put, Nat.reduceEqDiff, Nat.reduceAdd, if_true, if_false, List.setIfInBounds_toArray, List.set_cons_zero, List.set_cons_succ]
      go_wp2_with fail
      exact HK.out _ _ (.pointer (some ⟨w'.heap.size, 0, none⟩)) (by simp only [Rinv.putAll, RQd, Act.put, Nat.reduceEqDiff, Nat.reduceAdd, if_true, if_false, List.setIfInBounds_toArray, List.set_cons_zero, List.set_cons_succ]) ((Below.refl _ _).alloc (Nat.le_refl _) _) (⟨_, rfl, HSL.out, heap_alloc_new w' _⟩)
  · intro X w' hB hR K hK
    have HK := Lib.hid hK
    have HBW := Lib.hid hB
    clear hK hB
    simp only [List.getD_cons_zero, List.getD_cons_succ]
    have hr8 : RQ x m s nc 8 (X 8) w' := hR 8 (by decide)
    obtain ⟨g, e8, h8⟩ := hr8
    have H8 := Lib.hid h8
    clear h8
    have hr9 : RQ x m s nc 9 (X 9) w' := hR 9 (by decide)
    obtain ⟨q, e9, hs9, h9⟩ := hr9
    have H9 := Lib.hid h9
    have HS9 := Lib.hid hs9
    clear h9 hs9
    clear hR
    simp only [Rinv.putAll, RQd, Act.put, Nat.reduceEqDiff, Nat.reduceAdd, if_true, if_false, List.setIfInBounds_toArray, List.set_cons_zero, List.set_cons_succ, e8, e9]
    go_wp2_with (refine wpList_store_row rfl 82 (.tmp 5) (.tmp 22) rfl q #[.int .u64 (wd (grp m.fi) 0), .int .u64 (wd (grp m.fi) 1), .int .u64 (wd (grp m.fi) 2), .int .u64 (wd (grp m.fi) 3), .slice none 0 0, .slice (some ⟨g, 0, none⟩) nc nc, .int .u64 0, .int .u64 0, .int .u64 0, .int .u64 0, .bool m.em] rfl rfl 82 _ H9.out (by kernel_rfl) rfl (by simp [Value.oneCell']) ?_)
    refine HK.out _ _ ?_
    clear HK
    have HRI : Hid (RdI w s x m of nc q g (.slice none 0 0) [] (List.replicate nc 0) 0 (w'.setRow q (rdQ (.slice none 0 0) g nc (grp m.fi) 0 m.em))) := Lib.hid (by
      have hset : ∀ k, k ≠ q → (w'.setRow q (rdQ (.slice none 0 0) g nc (grp m.fi) 0 m.em)).heap[k]? = w'.heap[k]? := fun k hk => setRow_other _ _ _ _ hk
      have hq := HS9.out
      have hgq : g ≠ q := fun e => by
        obtain ⟨cs, h1, -⟩ := H8.out.2
        rw [e, H9.out] at h1; injection h1 with h1; injection h1 with _ h1; exact absurd h1 (by decide)
      refine ⟨⟨(hset s (by omega)).trans (HX.out.kept HBW.out HX.out.lt).row⟩, (hset (s + 1) (by omega)).trans (HP.out.kept HBW.out HP.out.lt), (hset _ (by omega)).trans ((HBW.out.block _ (Array.getElem?_eq_some_iff.1 HZ.out).1).trans HZ.out), setRow_heap w' _ _ _ _ _ H9.out, World.ownsRow_nil _ _ _ _, H8.out.2.of (hset g hgq), by simp, ⟨HS9.out, H8.out.1⟩, (fun e => by cases e), ?_⟩
      have h1 := HX.out.lt
      exact But.below ((hs.out ▸ HB.out : Below s w w1).trans (HBW.out.mono (by omega))) (But.setRow q _ _) (by omega) (by have := HBW.out.size; omega))
    rw [← hasTo_zero m of nc] at HRI
    show Exit.then _ _ _ _ (w'.setRow q (rdQ (.slice none 0 0) g nc (grp m.fi) 0 m.em))
    generalize w'.setRow q (rdQ (.slice none 0 0) g nc (grp m.fi) 0 m.em) = w2 at *
    clear H8 H9 HS9 HBW e8 e9 HM HX HP HZ HB w' w1
    have HTB : Hid (∀ W, Below s w W → Tab W ∧ 0 < W.heap.size ∧ MAt W x m) := Lib.hid (fun W hb => by
      have hb' : Below w.heap.size w W := hs.out ▸ hb
      exact ⟨HT0.out.below hb' HG.out, Nat.lt_of_lt_of_le HG.out hb'.size, HM0.out.kept hb'⟩)
    have c2 := HRI.out.mach.c2
    go_upto_region 3 with fail
    clear c2
    go_loopw [26] (fun i wr => ∃ (j : Nat) (gv : Value), i = .int .i64 j ∧ j ≤ m.fo.length ∧ Hid (RdI w s x m of nc q g gv ((m.fo.take j).map grp) (hasTo m of nc 0) 0 wr)) (fun i _ => ((m.fo.length : Int) - intOf i).toNat)
    case atStart => exact ⟨0, _, rfl, Nat.zero_le _, HRI⟩
    case round =>
      clear HRI
      obtain ⟨j, gv, rfl, hj, HRI⟩ := hrel
      generalize hwr : wr = w3 at *
      clear hwr wr w2
      by_cases hlt : j < m.fo.length
      · have hdd : decide ((j : Int) < (m.fo.length : Int)) = true := decide_eq_true (by omega)
        have hd2 : decide (j < m.fo.length) = true := decide_eq_true hlt
        have HJ := Lib.hid hlt
        have hjl : (j : Int) < (m.fo.length : Int) := by omega
        have HW1 : Hid (wrap64 ((j : Int) + 1) = ((j + 1 : Nat) : Int)) := Lib.hid (nat_wrap (by have := HF.out.fo; omega))
        obtain ⟨b, o, a, cap, hoa, hc, hn⟩ := (HTB.out w3 HRI.out.bel).2.2.fo j hlt
        rw [hoa]
        clear hoa
        have HRL : Hid (rise m.sp.length (m.fo.getD j []) = true) := Lib.hid (foN_rise HRT.out j)
        have HEA := Lib.hid (HF.out.each _ (getD_mem (d := []) hlt))
        have HKR : Hid (∀ k ∈ m.fo.getD j [], 0 ≤ k ∧ k < 256) := Lib.hid (fun k hk => by
          have h1 := ((rise_iff _ _).1 HRL.out).1 k hk
          have h2 := HRT.out.many
          omega)
        have HTK : Hid ((m.fo.take (j + 1)).map grp = (m.fo.take j).map grp ++ [grp (m.fo.getD j [])]) := Lib.hid (by
          rw [List.take_succ_eq_append_getElem hlt, List.map_append, List.getD_eq_getElem?_getD, List.getElem?_eq_getElem hlt]; rfl)
        have HGC := Lib.hid (fun w4 (hb : Below w3.heap.size w3 w4) => dgroup_any a cap (m.fo.getD j []) w4 (hn.kept hb) HEA.out.1 HKR.out)
        have HLN : Hid (((m.fo.take j).map grp).length ≤ 1000) := Lib.hid (by rw [List.length_map, List.length_take]; have := HF.out.fo; omega)
        have HLJ : Hid (((m.fo.take j).map grp).length = j) := Lib.hid (by rw [List.length_map, List.length_take]; omega)
        generalize m.fo.getD j [] = l at *
        clear hn hlt
        go_upto_region 5 with fail
        clear hc
        have HC0 : Hid (w3.drew.cell? ⟨q, 4, none⟩ = some gv) := Lib.hid (by
          show w3.cell? _ = _
          rw [cell_of_row w3 q 4 _ _ _ HRI.out.box]; rfl)
        refine region_mix [(false, 0), (false, 1), (false, 2), (true, 3), (true, 4), (true, 5), (false, 6)] (fun w' => w'.cell? ⟨q, 4, none⟩ = some gv) (by kernel_rfl) (by kernel_rfl) HC0.out ?_
        simp only [planOps, List.map_cons, List.map_nil, List.getD_cons_zero, List.getD_cons_succ, List.length_cons, List.length_nil, List.drop_succ_cons, List.drop_zero]
        refine mix_seg (seg := [_, _, _]) rfl HC0.out ?_
        intro ι hι F2 hF
        have f1 := fun n => (hF n)
        iterate 3 (go_big_quiet_step (fail))
        refine wpQuiet_nil ?_
        clear f1 hF hι F2
        have HBD : Hid (Below w3.heap.size w3 w3.drew) := Lib.hid ((Below.refl _ _).drew)
        refine mix_eff (fun K hK => ?_)
        go_wp2_with (go_at_call 63; refine (HGC.out _ HBD.out).mono ?_; rintro e w4 ⟨rfl, hb4⟩; have HB4 := Lib.hid (HBD.out.trans hb4); clear hb4)
        have HRI4 := Lib.hid (HRI.out.stay HB4.out)
        have HC4 : Hid (w4.cell? ⟨q, 4, none⟩ = some gv) := Lib.hid (by rw [cell_of_row w4 q 4 _ _ _ HRI4.out.box]; rfl)
        refine mix_on hK HC4.out ?_
        clear hK K HC0 HRI HBD HB4 HGC
        unfold setC
        refine mix_eff (fun K hK => ?_)
        go_wp2_with fail
        refine mix_on hK (by rw [World.cell?_alloc_past _ _ _ (World.block_lt_of_cell? _ _ HC4.out)]; exact HC4.out) ?_
        clear hK K
        have HSW : Hid (s ≤ w4.heap.size) := Lib.hid HRI4.out.size
        refine mix_eff (fun K hK => ?_)
        refine wpList_push 50 54 (.agg #[.int .u64 0, .int .u64 0, .int .u64 0, .int .u64 0]) 4 32 Tryd.underlying50 infoS rfl (by decide) rfl (.tmp 31) (.tmp 34) rfl s gv ((m.fo.take j).map grp).length (setsL ((m.fo.take j).map grp)) rfl HRI4.out.own (set4 (grp l)) _ rfl rfl (fun u hu => by simp [set4] at hu; rcases hu with rfl | rfl | rfl | rfl <;> rfl) rfl (Nat.le_trans HLN.out (by decide)) (by decide) HSW.out ?_
        intro gv2 w5 ho5 hb5 ha5
        obtain ⟨a9, c9, hgv2, -⟩ := own_slice ho5
        have HGV2 := Lib.hid hgv2
        clear hgv2
        have hr5 := (ha5.block q HRI4.out.qlt HRI4.out.oq).trans HRI4.out.box
        have HC5 : Hid (w5.cell? ⟨q, 4, none⟩ = some gv) := Lib.hid (by rw [cell_of_row w5 q 4 _ _ _ hr5]; rfl)
        have HZ5 := Lib.hid (frozen_of_row w5 q 4 _ _ hr5)
        have HRI6 := Lib.hid (HRI4.out.pushG ho5 hb5 ha5)
        clear hr5 ho5 hb5 ha5 HRI4 HC4
        refine wpList_nil ?_
        refine mix_on hK HC5.out ?_
        clear hK K
        refine mix_seg (seg := [_]) (rest := []) rfl HC5.out ?_
        intro ι hι F2 hF
        simp only [Act.put, List.setIfInBounds_toArray, List.set_cons_zero, List.set_cons_succ]
        iterate 1 (go_big_quiet_step (fail))
        refine wpQuiet_nil ?_
        clear hF hι F2
        show wpList _ _ _ _ _ _
        have c15 := HC5.out
        have z15 := HZ5.out
        rw [HLJ.out] at HGV2
        rw [HGV2.out] at HRI6 ⊢
        go_wp2_with fail
        refine NoPanic.normal ?_
        clear c15 z15
        go_wp2_with fail
        go_roundw
        case rel => exact ⟨j + 1, _, by rw [HW1.out], HJ.out, Lib.hid (by rw [HTK.out]; exact HRI6.out)⟩
        case measure => rw [HW1.out]; exact meas9 HJ.out
      · have hdd : decide ((j : Int) < (m.fo.length : Int)) = false := decide_eq_false (by omega)
        have hd2 : decide (j < m.fo.length) = false := decide_eq_false hlt
        rw [List.take_of_length_le (by omega)] at HRI
        clear hlt
        obtain ⟨G, hG⟩ : ∃ G, Hid (m.fo.map grp = G) := ⟨_, Lib.hid rfl⟩
        rw [hG.out] at HRI
        have HLC := Lib.hid (HLE.out w3 (HTB.out w3 HRI.out.bel).1 (HTB.out w3 HRI.out.bel).2.1)
        go_upto_region 8 with (first
          | (refine wpList_load_row rfl 24 _ rfl (s + 1) rfl 24 (partC of nc) (0, 0) _ HRI.out.part Tryd.underlying24 rfl (sizeP of nc) ?_)
          | (go_at_call 30; refine HLC.out.mono ?_; rintro e w4 ⟨g2, rfl, hg2, hbr4, hb4⟩; have HRI4 := Lib.hid (HRI.out.stay hb4); have HBR := Lib.hid hbr4; clear hb4 hbr4 hg2))
        clear HLC HRI HLE
        clear w3
        go_loopw [41] (fun i wr => ∃ c : Nat, i = .int .i64 c ∧ c ≤ nc ∧ Hid (RdI w s x m of nc q g gv G (hasTo m of nc c) 0 wr) ∧ Hid (BytesRow wr g2 ((List.range nc).map fun j => (listN (clsSet of 256 j)).take (1 : Int).toNat))) (fun i _ => ((nc : Int) - intOf i).toNat)
        case atStart => exact ⟨0, rfl, Nat.zero_le _, HRI4, HBR⟩
        case round =>
          clear HRI4 HBR
          obtain ⟨c, rfl, hc, HRI, HBR⟩ := hrel
          generalize hwr : wr = w5 at *
          clear hwr wr w4
          by_cases hlt : c < nc
          · have hdd : decide ((c : Int) < (nc : Int)) = true := decide_eq_true (by omega)
            have hd2 : decide (c < nc) = true := decide_eq_true hlt
            have HC := Lib.hid hlt
            have hcn : (c : Int) < (nc : Int) := by omega
            have HWC : Hid (wrap64 ((c : Int) + 1) = ((c + 1 : Nat) : Int)) := Lib.hid (nat_wrap (by have h1 := HNC.out; omega))
            obtain ⟨v, hv, hy⟩ := HBR.out.at c (by simpa using hlt)
            have HLB := Lib.hid (low_one HPR.out hlt)
            rw [show ((List.range nc).map fun j => (listN (clsSet of 256 j)).take (1 : Int).toNat).getD c [] = [lowB of c] from by rw [List.getD_eq_getElem?_getD, List.getElem?_map, List.getElem?_range hlt]; exact HLB.out.1] at hy
            obtain ⟨bb, oo, bc, rfl, hyc⟩ := bytes_first hy
            have HYC := Lib.hid hyc
            have HBL : Hid (lowB of c < 256) := Lib.hid HLB.out.2.1
            have HHN : Hid (hasN m of c = hasK m (lowB of c) m.sp.length) := Lib.hid rfl
            generalize lowB of c = lb at *
            clear hy hyc hlt
            have c0 := HRI.out.mach.c0
            go_upto_region 11 with fail
            clear c0 hv
            have HKP : Hid (RdI w s x m of nc q g gv G ((hasTo m of nc c).set c (hasK m lb 0)) 0 w5) := Lib.hid (by
              show RdI w s x m of nc q g gv G ((hasTo m of nc c).set c 0) 0 w5
              rw [hasTo_set0]; exact HRI.out)
            go_loopw [49] (fun i wr => ∃ k : Nat, i = .int .i64 k ∧ k ≤ m.sp.length ∧ Hid (RdI w s x m of nc q g gv G ((hasTo m of nc c).set c (hasK m lb k)) 0 wr) ∧ Hid (BytesRow wr g2 ((List.range nc).map fun j => (listN (clsSet of 256 j)).take (1 : Int).toNat)) ∧ Hid (wr.cell? ⟨bb, oo, none⟩ = some (.int .u8 lb))) (fun i _ => ((m.sp.length : Int) - intOf i).toNat)
            case atStart => exact ⟨0, rfl, Nat.zero_le _, HKP, HBR, HYC⟩
            case round =>
              clear HKP HRI HBR HYC
              obtain ⟨k, rfl, hk, HRI, HBR, HYC⟩ := hrel
              generalize hwr : wr = w6 at *
              clear hwr wr w5
              by_cases hlt : k < m.sp.length
              · have hdd : decide ((k : Int) < (m.sp.length : Int)) = true := decide_eq_true (by omega)
                have hd2 : decide (k < m.sp.length) = true := decide_eq_true hlt
                have HKL := Lib.hid hlt
                have hkn : (k : Int) < (m.sp.length : Int) := by omega
                have HWK : Hid (wrap64 ((k : Int) + 1) = ((k + 1 : Nat) : Int)) := Lib.hid (nat_wrap (by have := HF.out.sp; omega))
                have HK2 : Hid (k < 256) := Lib.hid (by have := HRT.out.many; omega)
                obtain ⟨b, o, hsa, hrg⟩ := (HTB.out w6 HRI.out.bel).2.2.sp k hlt
                rw [hsa]
                have HRG := Lib.hid hrg
                have HST : Hid (stN m k = (m.sp.getD k (0, 0)).1) := Lib.hid rfl
                have HHK : Hid (hasK m lb (k + 1) = if (stN m k).testBit lb then hasK m lb k ||| 2 ^ k else hasK m lb k) := Lib.hid rfl
                rw [HST.out] at HHK
                generalize m.sp.getD k (0, 0) = S at *
                clear hsa hrg hlt HST
                go_upto_region 13 with (first
                  | (refine wpList_load_spot rfl (.tmp 52) rfl b (o + k * 5) S rfl HRG.out ?_)
                  | (refine wpList_store_spot rfl (.tmp 11) (.tmp 53) rfl S rfl rfl ?_; unfold row5))
                rw [show ∀ a : Act, a.put none undef = a from fun _ => rfl]
                have hal := (Below.refl w6.heap.size w6).alloc (Nat.le_refl _) (.cells #[.int .u64 (wd S.1 0), .int .u64 (wd S.1 1), .int .u64 (wd S.1 2), .int .u64 (wd S.1 3), .int .u8 S.2] 57)
                have HRI7 := Lib.hid (HRI.out.stay hal)
                have HBR7 := Lib.hid (HBR.out.kept hal)
                have HYC7 : Hid ((w6.alloc (.cells #[.int .u64 (wd S.1 0), .int .u64 (wd S.1 1), .int .u64 (wd S.1 2), .int .u64 (wd S.1 3), .int .u8 S.2] 57)).cell? ⟨bb, oo, none⟩ = some (.int .u8 lb)) := Lib.hid ((hal.cell (World.block_lt_of_cell? _ _ HYC.out)).trans HYC.out)
                have HSP7 : Hid ((w6.alloc (.cells #[.int .u64 (wd S.1 0), .int .u64 (wd S.1 1), .int .u64 (wd S.1 2), .int .u64 (wd S.1 3), .int .u8 S.2] 57)).rangeAt w6.heap.size 0 (setC S.1).toList) := Lib.hid (by
                  intro j v hj
                  have hj4 : j < 4 := by have := (List.getElem?_eq_some_iff.1 hj).1; simpa [setC] using this
                  rw [Nat.zero_add, cell_of_row _ _ j _ _ _ (heap_alloc_new w6 _), ← hj]
                  have : j = 0 ∨ j = 1 ∨ j = 2 ∨ j = 3 := by omega
                  rcases this with rfl | rfl | rfl | rfl <;> rfl)
                clear hal HRI HBR HYC HRG
                obtain ⟨sb, hsb⟩ : ∃ sb, Hid (w6.heap.size = sb) := ⟨_, Lib.hid rfl⟩
                rw [hsb.out] at HSP7 ⊢
                generalize w6.alloc (.cells #[.int .u64 (wd S.1 0), .int .u64 (wd S.1 1), .int .u64 (wd S.1 2), .int .u64 (wd S.1 3), .int .u8 S.2] 57) = w7 at *
                clear hsb w6
                have HYL := Lib.hid (World.block_lt_of_cell? _ _ HYC7.out)
                have HHS := Lib.hid (has_nat S.1 lb w7.drew HBL.out)
                refine region_mix [(false, 0), (false, 1), (false, 2), (false, 3), (false, 4)] (fun w' => Below w7.heap.size w7 w') (by kernel_rfl) (by kernel_rfl) ((Below.refl _ _).drew) ?_
                simp only [planOps, List.map_cons, List.map_nil, List.getD_cons_zero, List.getD_cons_succ, List.length_cons, List.length_nil, List.drop_succ_cons, List.drop_zero]
                refine mix_seg (seg := [_, _, _, _, _]) (rest := []) rfl ((Below.refl _ _).drew) ?_
                intro ι hι F2 hF
                have f1 := Lib.hid (fun n => range_below HSP7.out (hF n))
                have f2 := fun n => ((hF n).cell (p := ⟨bb, oo, none⟩) HYL.out).trans HYC7.out
                go_big_quiet_step (fail)
                refine BigFrame.wpQuiet_want rfl (fun K hK => ?_); refine quiet_load_mid 54 _ rfl sb 0 rfl (setC S.1).toList _ (fun w' ⟨n, e⟩ => e ▸ f1.out n) Tryd.underlying54 rfl (sizeSetL _) ?_; refine hK _ ?_; clear hK K; simp only [Act.put, List.setIfInBounds_toArray, List.set_cons_zero, List.set_cons_succ]
                iterate 3 (go_big_quiet_step (fail))
                refine wpQuiet_nil ?_
                clear f1 f2 hF hι F2
                show wpList _ _ _ _ _ _
                have HBD : Hid (Below w7.heap.size w7 w7.drew) := Lib.hid ((Below.refl _ _).drew)
                cases hbit : S.1.testBit lb
                · rw [hbit] at HHS HHK
                  clear hbit
                  go_wp2_with (go_at_call 64; refine HHS.out.mono ?_; rintro e w8 ⟨rfl, hb8⟩; have HB8 := Lib.hid (HBD.out.trans hb8); clear hb8)
                  refine NoPanic.normal ?_
                  go_wp2_with fail
                  go_roundw
                  case rel => exact ⟨k + 1, by rw [HWK.out], HKL.out, Lib.hid (by rw [HHK.out]; exact HRI7.out.stay HB8.out), Lib.hid (HBR7.out.kept HB8.out), Lib.hid ((HB8.out.cell HYL.out).trans HYC7.out)⟩
                  case measure => rw [HWK.out]; exact meas9 HKL.out
                · rw [hbit] at HHS HHK
                  clear hbit
                  go_wp2_with (go_at_call 64; refine HHS.out.mono ?_; rintro e w8 ⟨rfl, hb8⟩; have HB8 := Lib.hid (HBD.out.trans hb8); clear hb8)
                  refine NoPanic.normal ?_
                  have HRI8 := Lib.hid (HRI7.out.stay HB8.out)
                  have HBR8 := Lib.hid (HBR7.out.kept HB8.out)
                  have HYC8 : Hid (w8.cell? ⟨bb, oo, none⟩ = some (.int .u8 lb)) := Lib.hid ((HB8.out.cell HYL.out).trans HYC7.out)
                  clear HRI7 HBR7 HYC7 HSP7 HYL HHS HBD HB8
                  go_upto_region 14 with fail
                  have cg : w8.cell? ⟨q, 5, none⟩ = some (.slice (some ⟨g, 0, none⟩) nc nc) := by rw [cell_of_row w8 q 5 _ _ _ HRI8.out.box]; rfl
                  have HQL := Lib.hid HRI8.out.qlt
                  have HLC : Hid (c < ((hasTo m of nc c).set c (hasK m lb k)).length) := Lib.hid (by rw [HRI8.out.hl]; exact HC.out)
                  have HGT : Hid (((hasTo m of nc c).set c (hasK m lb k)).getD c 0 = hasK m lb k) := Lib.hid (by
                    have h1 := HLC.out
                    rw [List.length_set] at h1
                    rw [List.getD_eq_getElem?_getD, List.getElem?_set_self h1]; rfl)
                  have HRC : Hid (w8.rangeAt g (c * 4) (setC (hasK m lb k)).toList) := Lib.hid (by
                    have := HRI8.out.has.range HLC.out
                    rwa [HGT.out] at this)
                  refine region_mix [(false, 0), (false, 1), (false, 2), (false, 3), (false, 4), (false, 5), (false, 6), (false, 7), (false, 8), (true, 9), (false, 10)] (fun w' => Below w8.heap.size w8 w') (by kernel_rfl) (by kernel_rfl) ((Below.refl _ _).drew) ?_
                  simp only [planOps, List.map_cons, List.map_nil, List.getD_cons_zero, List.getD_cons_succ, List.length_cons, List.length_nil, List.drop_succ_cons, List.drop_zero]
                  refine mix_seg (seg := [_, _, _, _, _, _, _, _, _]) rfl ((Below.refl _ _).drew) ?_
                  intro ι hι F2 hF
                  have f1 := Lib.hid (fun n => range_below HRC.out (hF n))
                  have f2 := fun n => ((hF n).cell (p := ⟨q, 5, none⟩) HQL.out).trans cg
                  iterate 7 (go_big_quiet_step (fail))
                  refine BigFrame.wpQuiet_want rfl (fun K hK => ?_); refine quiet_load_mid 54 _ rfl g (c * 4) rfl (setC (hasK m lb k)).toList _ (fun w' ⟨n, e⟩ => e ▸ f1.out n) Tryd.underlying54 rfl (sizeSetL _) ?_; refine hK _ ?_; clear hK K; simp only [Act.put, List.setIfInBounds_toArray, List.set_cons_zero, List.set_cons_succ]
                  iterate 1 (go_big_quiet_step (fail))
                  refine wpQuiet_nil ?_
                  clear f1 f2 hF hι F2
                  have HBD : Hid (Below w8.heap.size w8 w8.drew) := Lib.hid ((Below.refl _ _).drew)
                  have HWI := Lib.hid (with_any (hasK m lb k) k w8.drew HK2.out)
                  refine mix_eff (fun K hK => ?_)
                  go_wp2_with (go_at_call 65; refine HWI.out.mono ?_; rintro e w9 ⟨rfl, hb9⟩; have HB9 := Lib.hid (HBD.out.trans hb9); clear hb9)
                  refine mix_on hK HB9.out ?_
                  clear hK K
                  refine mix_seg (seg := [_]) (rest := []) rfl HB9.out ?_
                  intro ι hι F2 hF
                  iterate 1 (go_big_quiet_step (fail))
                  refine wpQuiet_nil ?_
                  clear hF hι F2
                  show wpList _ _ _ _ _ _
                  have HRI9 := Lib.hid (HRI8.out.stay HB9.out)
                  have HBR9 := Lib.hid (HBR8.out.kept HB9.out)
                  have HYC9 : Hid (w9.cell? ⟨bb, oo, none⟩ = some (.int .u8 lb)) := Lib.hid ((HB9.out.cell (World.block_lt_of_cell? _ _ HYC8.out)).trans HYC8.out)
                  clear cg HRI8 HBR8 HYC8
                  go_wp2_with (refine wpList_store_at rfl (.tmp 70) (.tmp 69) rfl g (c * 4) (hasK m lb k ||| 2 ^ k) rfl rfl (HRI9.out.has.there HLC.out _) ?_)
                  refine NoPanic.normal ?_
                  go_wp2_with fail
                  go_roundw
                  case rel =>
                    have hbu := But.cells4 g (c * 4) w9 (hasK m lb k ||| 2 ^ k)
                    refine ⟨k + 1, by rw [HWK.out], HKL.out, Lib.hid ?_, Lib.hid (bytesRow_but HRI9.out.has HBR9.out hbu), Lib.hid (hbu.cell HYC9.out (gs_u8 HRI9.out.has HYC9.out))⟩
                    have := HRI9.out.setH HC.out (hasK m lb k ||| 2 ^ k)
                    rw [List.set_set] at this
                    rw [HHK.out]; exact this
                  case measure => rw [HWK.out]; exact meas9 HKL.out
              · have hdd : decide ((k : Int) < (m.sp.length : Int)) = false := decide_eq_false (by omega)
                have hd2 : decide (k < m.sp.length) = false := decide_eq_false hlt
                have HE : Hid ((hasTo m of nc c).set c (hasK m lb k) = hasTo m of nc (c + 1)) := Lib.hid (by rw [show k = m.sp.length from by omega, ← HHN.out, hasTo_set _ _ _ _ HC.out])
                rw [HE.out] at HRI
                clear hlt
                go_wp2_with fail
                go_roundw
                case rel => exact ⟨c + 1, by rw [HWC.out], HC.out, HRI, HBR⟩
                case measure => rw [HWC.out]; exact meas9 HC.out
          · have hdd : decide ((c : Int) < (nc : Int)) = false := decide_eq_false (by omega)
            have hd2 : decide (c < nc) = false := decide_eq_false hlt
            have hcc : c = nc := by omega
            subst hcc
            rw [hasTo_all] at HRI
            obtain ⟨H, hH⟩ : ∃ H, Hid ((List.range c).map (hasN m of) = H) := ⟨_, Lib.hid rfl⟩
            rw [hH.out] at HRI
            clear hlt HBR HOF HPR HFI
            have c3 := HRI.out.mach.c3
            go_upto_region 18 with fail
            clear c3
            go_loopw [76] (fun i wr => ∃ k : Nat, i = .int .i64 k ∧ k ≤ m.la.length ∧ Hid (RdI w s x m of c q g gv G H (lastK m k) wr)) (fun i _ => ((m.la.length : Int) - intOf i).toNat)
            case atStart => exact ⟨0, rfl, Nat.zero_le _, HRI⟩
            case round =>
              clear HRI
              obtain ⟨k, rfl, hk, HRI⟩ := hrel
              generalize hwr : wr = w6 at *
              clear hwr wr w5
              by_cases hlt : k < m.la.length
              · have hdd : decide ((k : Int) < (m.la.length : Int)) = true := decide_eq_true (by omega)
                have hd2 : decide (k < m.la.length) = true := decide_eq_true hlt
                have HKL := Lib.hid hlt
                have hkn : (k : Int) < (m.la.length : Int) := by omega
                have HWK : Hid (wrap64 ((k : Int) + 1) = ((k + 1 : Nat) : Int)) := Lib.hid (nat_wrap (by have := HF.out.la; omega))
                have HK2 : Hid (k < 256) := Lib.hid (by have h1 := HRT.out.many; have h2 := HRT.out.lal; omega)
                obtain ⟨b, o, hla, hbc⟩ := (HTB.out w6 HRI.out.bel).2.2.la k hlt
                rw [hla]
                have HHK : Hid (lastK m (k + 1) = if m.la.getD k false then lastK m k ||| 2 ^ k else lastK m k) := Lib.hid rfl
                clear hla hlt
                generalize m.la.getD k false = bt at *
                cases bt
                · go_wp2_with fail
                  go_roundw
                  case rel => exact ⟨k + 1, by rw [HWK.out], HKL.out, Lib.hid (by rw [HHK.out]; exact HRI.out)⟩
                  case measure => rw [HWK.out]; exact meas9 HKL.out
                · have HWI := Lib.hid (with_any (lastK m k) k w6 HK2.out)
                  go_wp2_with (first
                    | (refine wpList_load_setm rfl _ rfl q 6 (lastK m k) rfl HRI.out.rla ?_)
                    | (go_at_call 65; refine HWI.out.mono ?_; rintro e w7 ⟨rfl, hb7⟩; have HRI7 := Lib.hid (HRI.out.stay hb7); clear hb7)
                    | (refine wpList_store_mid rfl 54 (.tmp 86) (.tmp 85) rfl q 6 (setC (lastK m k ||| 2 ^ k)) rfl rfl (HRI7.out.there _) (sizeSet _) (oneSet _) ?_))
                  go_roundw
                  case rel => exact ⟨k + 1, by rw [HWK.out], HKL.out, Lib.hid (by rw [HHK.out]; exact HRI7.out.setL _)⟩
                  case measure => rw [HWK.out]; exact meas9 HKL.out
              · have hdd : decide ((k : Int) < (m.la.length : Int)) = false := decide_eq_false (by omega)
                have hd2 : decide (k < m.la.length) = false := decide_eq_false hlt
                have HE : Hid (k = m.la.length) := Lib.hid (by omega)
                rw [HE.out] at HRI
                obtain ⟨a1, c1, hgv, -⟩ := own_slice HRI.out.own
                have HGV := Lib.hid hgv
                have HGL : Hid (G.length = m.fo.length) := Lib.hid (by rw [← hG.out, List.length_map])
                have hHL := HRI.out.hl
                obtain ⟨y, hy⟩ : ∃ y : Rx, Hid (y = ⟨a1, c1, some ⟨g, 0, none⟩, c⟩) := ⟨_, Lib.hid rfl⟩
                have HRD : Hid (rdQ gv g c (grp m.fi) (lastK m m.la.length) m.em = rdC y (rdOf m of c)) := Lib.hid (by
                  unfold rdQ rdC rdOf
                  rw [hy.out, hgv, hG.out, hH.out]
                  simp only [hHL])
                have HBX : Hid (w6.heap[q]? = some (.cells (rdC y (rdOf m of c)) 82 (0, 0))) := Lib.hid (by rw [← HRD.out]; exact HRI.out.box)
                have HRES := Lib.hid HRI.out.res
                clear hlt hgv
                go_wp2_with (first
                  | (refine wpList_load_row rfl 82 _ rfl q rfl 82 (rdC y (rdOf m of c)) (0, 0) _ HBX.out Tryd.underlying82 rfl (sizeRd y _) ?_)
                  | (refine wpList_store_row rfl 82 (.tmp 4) (.tmp 88) rfl (s + 1 + 1) (rdC y (rdOf m of c)) rfl rfl 82 _ HRES.out (sizeRd y _) rfl (oneRd y _) ?_))
                refine bodyPost_ret (v := .agg (rdC y (rdOf m of c))) (results_cell_row (p := 4) Tryd.results39 _ _ (s + 1 + 1) 82 _ (0, 0) _ rfl (setRow_heap w6 _ _ _ _ _ HRES.out) Tryd.underlying82 rfl (sizeRd y _)) rfl ⟨y, rfl, ?_⟩
                have hbu := But.setRow (s + 1 + 1) w6 (rdC y (rdOf m of c))
                have hlow := HRI.out.low
                have hgs := HRI.out.has
                have hown := HRI.out.own
                have hos := HRI.out.os
                have hown2 := own_kept hown (w' := w6.setRow (s + 1 + 1) (rdC y (rdOf m of c))) fun k hk => hbu.block k (hown.lt k hk).2 (fun e => hos.2.2 (e ▸ hk))
                have hgs2 := hgs.of (hbu.block g hgs.lt (by omega))
                have hGr : (rdOf m of c).G = G := hG.out
                have hHr : (rdOf m of c).H = H := hH.out
                have hya : y.a = a1 := by rw [hy.out]
                have hyb : y.b = some ⟨g, 0, none⟩ := by rw [hy.out]
                have hown3 := hown2
                rw [HGV.out] at hown3
                refine ⟨⟨?_, ?_⟩, fun b o e => ?_, fun b o e => ?_, ?_⟩
                · rw [hGr, hya]
                  exact own_sets hown3
                · rw [hHr, hyb]
                  exact gs_sets hgs2
                · rw [hs.out]
                  rw [hya] at e
                  have := hown2.lt b (by rw [HGV.out, show a1 = some ⟨b, o, none⟩ from e]; rfl)
                  exact this.1
                · rw [hs.out]
                  rw [hyb] at e
                  injection e with e
                  injection e with e _
                  omega
                · rw [hs.out]
                  exact But.below HRI.out.bel hbu (by omega) HRI.out.size
end Df
end Go.Proofs.YtmjjkamndlefmaaDoor
