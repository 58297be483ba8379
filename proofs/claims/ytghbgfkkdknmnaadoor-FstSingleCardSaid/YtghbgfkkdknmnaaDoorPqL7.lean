/- FstSingle: the law's walk. -/
import Derived.Test.YtghbgfkkdknmnaaDoorPqL8
import Derived.Test.YtghbgfkkdknmnaaDoorPqL5
namespace Go.Proofs.YtghbgfkkdknmnaaDoor
open Go.RowKit Sets Nf Fs
namespace Ft
theorem rsingle_is (x : Ma) (m : Mc) (b : Bool) (W : World) (h : MAt W x m) (hf : Fine m) (hs : b = true ↔ Sv m) :
    Calls Tryd.prog 18 #[.agg (mc x m)] W fun e w' => e = .returned (.bool b) ∧ Below W.heap.size W w' := by
  refine (single14_any x m W h hf).mono ?_
  rintro e w' ⟨b', rfl, h1, hb⟩
  have : b' = b := by
    rw [Bool.eq_iff_iff, h1, hs]
  subst this
  exact ⟨rfl, hb⟩
set_option maxHeartbeats 6400000 in
set_option maxRecDepth 100000 in
theorem fsng_any (x : Ma) (m : Mc) (w : World) (h : UnM w x m) (hT : Tab w) :
    Calls Tryd.prog 4 #[.agg (mc x m)] w fun e w' => e = .returned (.bool true) ∧ Below w.heap.size w w' := by
  have HG : Hid (0 < w.heap.size) := Lib.hid (World.block_lt_of_cell? _ _ (hT 0 (by decide)))
  have HU := Lib.hid h
  have HT := Lib.hid hT
  clear h hT
  go_enter Tryd.func4, Tryd.ntmps4
  go_upto_region 1 with fail
  have HX := Lib.hid (BoxM.new w x m)
  have HB := Lib.hid ((Below.refl w.heap.size w).alloc (Nat.le_refl _) (.cells (mc x m) 27))
  generalize w.alloc (.cells (mc x m) 27) = w1 at *
  have HM1 := Lib.hid (HU.out.1.kept HB.out)
  have HR := Lib.hid (small14_any x m w1 HM1.out.fo)
  have HAW := Lib.hid (fun w' (h : Below w.heap.size w w') => awake14_any w' (HT.out.below h HG.out))
  have HMW := Lib.hid (fun w' (h : Below w.heap.size w w') => HU.out.1.kept (w' := w') h)
  have HTW := Lib.hid (fun w' (h : Below w.heap.size w w') => HT.out.below (w' := w') h HG.out)
  generalize hBq : w.heap.size = B at *
  have HBq := Lib.hid hBq
  clear hBq
  have HBX := Lib.hid HX.out.lt
  have HSZ : Hid (∀ w', Below B w w' → B ≤ w'.heap.size) := Lib.hid (fun w' h => by rw [← HBq.out]; exact h.size)
  cases hgr : big20 m with
  | true =>
    rw [hgr] at HR
    clear hgr
    go_wp2_with (first
      | (refine wpList_load_mach rfl (.tmp 1) rfl B x m rfl HX.out ?_)
      | (go_at_call 16; refine HR.out.mono ?_; rintro e w2 ⟨rfl, hb2⟩; have HB2 := Lib.hid (HB.out.trans (hb2.mono (Nat.le_of_lt HBX.out))); clear hb2; have HA2 := Lib.hid (HAW.out w2 HB2.out))
      | (go_at_call 10; refine HA2.out.mono ?_; rintro e w3 ⟨rfl, hb3⟩; have HB3 := Lib.hid (HB2.out.trans (hb3.mono (HSZ.out _ HB2.out))); clear hb3))
    go_ret
    exact ⟨rfl, by rw [HBq.out]; exact HB3.out⟩
  | false =>
    rw [hgr] at HR
    have HF := Lib.hid (small14_fine HU.out hgr).1
    have HF20 : Hid (m.sp.length ≤ 100) := Lib.hid (Nat.le_trans (small14_fine HU.out hgr).2 (by decide))
    clear hgr
    go_upto_region 3 with (first
      | (refine wpList_load_mach rfl (.tmp 1) rfl B x m rfl HX.out ?_)
      | (go_at_call 16; refine HR.out.mono ?_; rintro e w2 ⟨rfl, hb2⟩; have HX2 := Lib.hid (HX.out.kept hb2 HBX.out); have HB2 := Lib.hid (HB.out.trans (hb2.mono (Nat.le_of_lt HBX.out))); clear hb2))
    obtain ⟨sv, hsv⟩ : ∃ sv : Bool, Hid (sv = true ↔ Sv m) := by
      by_cases h : Sv m
      · exact ⟨true, Lib.hid ⟨fun _ => h, fun _ => rfl⟩⟩
      · exact ⟨false, Lib.hid ⟨fun e => (by cases e), fun e => absurd e h⟩⟩
    have HBX2 := Lib.hid HX2.out.lt
    have HW2 : Hid (∀ W, Below w2.heap.size w2 W → Below B w W) := Lib.hid (fun W hW => HB2.out.trans (hW.mono (HSZ.out _ HB2.out)))
    have hbd : Below w2.heap.size w2 w2.drew := (Below.refl _ _).drew
    have HS1 := Lib.hid (kn_single x m sv w2.drew (HMW.out _ (HW2.out _ hbd)) HF.out HF20.out (HTW.out _ (HW2.out _ hbd)) hsv.out)
    clear HX HB HBX HR HM1
    refine region_mix [(false, 0), (false, 2), (true, 1), (true, 3), (false, 4), (false, 5), (true, 6), (false, 7)] (fun w' => Below w2.heap.size w2 w') (by kernel_rfl) (by kernel_rfl) hbd ?_
    simp only [planOps, List.map_cons, List.map_nil, List.getD_cons_zero, List.getD_cons_succ, List.length_cons, List.length_nil, List.drop_succ_cons, List.drop_zero]
    refine mix_seg (seg := [_, _]) rfl hbd ?_
    intro ι hι F hF
    have f2 := Lib.hid (fun n => HX2.out.kept (hF n) HBX2.out)
    clear hF
    iterate 2 (refine BigFrame.wpQuiet_want rfl (fun K hK => ?_); refine quiet_load_mach _ rfl B x m rfl (fun w' ⟨n, e⟩ => e ▸ f2.out n) ?_; refine hK _ ?_; clear hK K; simp only [Act.put, List.setIfInBounds_toArray, List.set_cons_zero, List.set_cons_succ])
    refine wpQuiet_nil ?_
    clear f2 hι F
    refine mix_eff (fun K hK => ?_)
    go_wp2_with (go_at_call 17; refine HS1.out.mono ?_; rintro e w3 ⟨rfl, hb⟩; have HB3 := Lib.hid (hbd.trans (hb.mono hbd.size)); clear hb)
    refine mix_on hK HB3.out ?_
    clear hK K HS1 hbd
    have HS2 := Lib.hid (rsingle_is x m sv w3 (HMW.out _ (HW2.out _ HB3.out)) HF.out hsv.out)
    refine mix_eff (fun K hK => ?_)
    go_wp2_with (go_at_call 18; refine HS2.out.mono ?_; rintro e w4 ⟨rfl, hb⟩; have HB4 := Lib.hid (HB3.out.trans (hb.mono HB3.out.size)); clear hb)
    refine mix_on hK HB4.out ?_
    clear hK K HS2
    have HA4 := Lib.hid (HAW.out w4 (HW2.out _ HB4.out))
    have hee : (sv == sv) = true := by simp
    refine mix_seg (seg := [_, _]) rfl HB4.out ?_
    intro ι hι F hF
    iterate 2 (go_big_quiet_step (fail))
    refine wpQuiet_nil ?_
    clear hF hι F
    refine mix_eff (fun K hK => ?_)
    go_wp2_with (go_at_call 10; refine HA4.out.mono ?_; rintro e w5 ⟨rfl, hb⟩; have HB5 := Lib.hid (HB4.out.trans (hb.mono HB4.out.size)); clear hb)
    refine mix_on hK HB5.out ?_
    clear hK K
    refine mix_seg (seg := [_]) (rest := []) rfl HB5.out ?_
    intro ι hι F hF
    iterate 1 (go_big_quiet_step (fail))
    refine wpQuiet_nil ?_
    clear hF hι F
    show wpList _ _ _ _ _ _
    go_wp2_with fail
    refine NoPanic.normal ?_
    have HB6 := Lib.hid (HW2.out _ HB5.out)
    go_wp2_with fail
    go_ret
    exact ⟨rfl, by rw [HBq.out]; exact HB6.out⟩
end Ft
end Go.Proofs.YtghbgfkkdknmnaaDoor
