/- fst's endings: from the end on, the spots from which a run ends well. -/
import Derived.Test.YtghbgfkkdknmnaaDoorPqB9
namespace Go.Proofs.YtghbgfkkdknmnaaDoor
open Go.RowKit Sets Nf
namespace Ft
/-- The ends, those from byte q on. -/
def erL (m : Mc) (w : List Nat) (q : Nat) : List Nat := (List.range w.length).map fun p => if q ≤ p then eE m (w.getD p 0) (w.drop (p + 1)) else 0
theorem erL_len (m : Mc) (w : List Nat) (q : Nat) : (erL m w q).length = w.length := by unfold erL; simp
theorem erL_get (m : Mc) (w : List Nat) (q p : Nat) (h : p < w.length) : (erL m w q).getD p 0 = if q ≤ p then eE m (w.getD p 0) (w.drop (p + 1)) else 0 := by
  unfold erL
  rw [List.getD_eq_getElem?_getD, List.getElem?_map, List.getElem?_range h]; rfl
theorem erL_start (m : Mc) (w : List Nat) : erL m w w.length = List.replicate w.length 0 := by
  refine List.ext_getElem (by rw [erL_len, List.length_replicate]) (fun q h1 h2 => ?_)
  rw [erL_len] at h1
  have e := erL_get m w w.length q h1
  rw [List.getD_eq_getElem?_getD, List.getElem?_eq_getElem (by rw [erL_len]; exact h1), Option.getD_some] at e
  rw [e, List.getElem_replicate, if_neg (by omega)]
theorem erL_set (m : Mc) (w : List Nat) (p : Nat) : (erL m w (p + 1)).set p (eE m (w.getD p 0) (w.drop (p + 1))) = erL m w p := by
  refine List.ext_getElem (by rw [List.length_set, erL_len, erL_len]) (fun q h1 h2 => ?_)
  rw [erL_len] at h2
  have e := erL_get m w (p + 1) q h2
  have e0 := erL_get m w p q h2
  rw [List.getD_eq_getElem?_getD, List.getElem?_eq_getElem (by rw [erL_len]; exact h2), Option.getD_some] at e e0
  rw [e0, List.getElem_set]
  by_cases hq : p = q
  · subst hq
    rw [if_pos rfl, if_pos (Nat.le_refl _)]
  · rw [if_neg hq, e]
    by_cases h3 : p ≤ q
    · rw [if_pos h3, if_pos (by omega)]
    · rw [if_neg h3, if_neg (by omega)]
theorem nx_drop (m : Mc) (w : List Nat) (p : Nat) (h : p < w.length) : nxE m (w.drop p) = bh (tuL m) (eE m (w.getD p 0) (w.drop (p + 1))) := by
  rw [Fs.drop_cons h]; rfl
theorem bxStay {w w' : World} {B : Nat} {x : Ma} {m : Mc} (h : BoxM w B x m) (hb : Below w.heap.size w w') : BoxM w' B x m := h.kept hb h.lt
theorem bxBut {w w' : World} {A B : Nat} {x : Ma} {m : Mc} (h : BoxM w B x m) (hb : But A w w') (hA : B ≠ A) : BoxM w' B x m := ⟨(hb.block _ h.lt hA).trans h.row⟩
theorem sub_wrap {j : Nat} (h : j ≤ 100000) : wrap64 ((j : Int) - 1) = (j : Int) - 1 := by unfold wrap64; omega
theorem neg_left {p : Nat} : ((p : Int) - 1 + 1).toNat < ((p : Int) + 1).toNat := by omega
set_option maxHeartbeats 6400000 in
set_option maxRecDepth 100000 in
theorem fendings_any (x : Ma) (m : Mc) (s : ByteArray) (w : World) (h : MAt w x m) (hr : Rt m) (hf : Fine m) (hs : s.size ≤ 1000) (hT : Tab w) :
    Calls Tryd.prog 25 #[.agg (mc x m), .string s] w fun e w' => ∃ g, e = .returned (.slice (some ⟨g, 0, none⟩) s.size s.size) ∧ GsB w' g (erL m (Nf.bs s) 0) ∧ w.heap.size ≤ g ∧ Below w.heap.size w w' := by
  have HM := Lib.hid h
  have HR := Lib.hid hr
  have HS := Lib.hid hs
  have HF := Lib.hid hf
  have HT := Lib.hid hT
  have HTG : Hid (0 < w.heap.size) := Lib.hid (World.block_lt_of_cell? _ _ (hT 0 (by decide)))
  have HLEN := Lib.hid (Nf.bs_len s)
  have HBL := Lib.hid (Nf.bs_lt s)
  clear h hr hs hT hf
  go_enter Tryd.func25, Tryd.ntmps25
  go_upto_region 2 with (refine wpList_make_sets rfl (.tmp 10) (.tmp 10) rfl s.size rfl rfl HS.out ?_)
  have HX0 := Lib.hid (BoxM.new w x m)
  have HB0 := Lib.hid ((Below.refl w.heap.size w).alloc (Nat.le_refl _) (.cells (mc x m) 27))
  obtain ⟨B, hB⟩ : ∃ B, Hid (w.heap.size = B) := ⟨_, Lib.hid rfl⟩
  rw [hB.out] at HX0 ⊢
  have HZ0 : Hid ((w.alloc (.cells (mc x m) 27)).heap.size = B + 1) := Lib.hid (by rw [← hB.out]; simp)
  generalize w.alloc (.cells (mc x m) 27) = w1 at *
  have HE1 : Hid (GsB (w1.alloc (.cells (madeCells #[.int .u64 0, .int .u64 0, .int .u64 0, .int .u64 0] (s.size * 4)) 41)) w1.heap.size (erL m (Nf.bs s) s.size)) := Lib.hid (by
    rw [← HLEN.out, erL_start]
    exact GsB.new w1 (Nf.bs s).length)
  have HA1 : Hid (Below w1.heap.size w1 (w1.alloc (.cells (madeCells #[.int .u64 0, .int .u64 0, .int .u64 0, .int .u64 0] (s.size * 4)) 41))) := Lib.hid ((Below.refl _ _).alloc (Nat.le_refl _) _)
  have HZ1 : Hid ((w1.alloc (.cells (madeCells #[.int .u64 0, .int .u64 0, .int .u64 0, .int .u64 0] (s.size * 4)) 41)).heap.size = B + 1 + 1) := Lib.hid (by rw [World.size_alloc, HZ0.out])
  have HX1 := Lib.hid (HX0.out.kept HA1.out (by rw [HZ0.out]; omega))
  rw [HZ0.out] at HE1
  have HB1 := Lib.hid (HB0.out.trans (HA1.out.mono HB0.out.size))
  generalize w1.alloc (.cells (madeCells #[.int .u64 0, .int .u64 0, .int .u64 0, .int .u64 0] (s.size * 4)) 41) = w2 at *
  clear HX0 HB0 HA1 HZ0 w1
  have c2 := HX1.out.c2
  have HTU := Lib.hid (fturned_any x.oa x.oc m.fo w2 (HM.out.kept HB1.out).fo (by rw [HR.out.fol]; exact HR.out.many) (fun l hl => ⟨(HF.out.each l hl).1, fun k hk => by rw [HR.out.fol]; exact (rise_up (HR.out.foR l hl)).2 k hk⟩))
  rw [tuR_tuL HR.out] at HTU
  go_upto_region 3 with (go_at_call 50; refine HTU.out.mono ?_; rintro e w3 ⟨g2, rfl, hg2, hgl2, hb3⟩; have HG2 := Lib.hid hg2; have HGL2 := Lib.hid hgl2; have HB3 := Lib.hid hb3; clear hg2 hgl2 hb3)
  have HX3 := Lib.hid (HX1.out.kept HB3.out (by rw [HZ1.out]; omega))
  have HE3 := Lib.hid (HE1.out.stay HB3.out)
  have HBW3 := Lib.hid (HB1.out.trans (HB3.out.mono HB1.out.size))
  have HLA := Lib.hid (flast_any x m w3 (HM.out.kept HBW3.out) (by rw [HR.out.lal]; exact HR.out.many))
  rw [HZ1.out] at HGL2
  have HSZ3 : Hid (B + 1 + 1 ≤ w3.heap.size) := Lib.hid (by have := HB3.out.size; rw [HZ1.out] at this; exact this)
  clear HX1 HE1 HB1 HTU c2 HB3 HZ1
  have hx3 := HX3.out
  go_upto_region 4 with (first
    | (refine wpList_load_mach rfl (.tmp 2) rfl B x m rfl HX3.out ?_)
    | (go_at_call 51; refine HLA.out.mono ?_; rintro e w4 ⟨rfl, hb4⟩; have HB4 := Lib.hid hb4; clear hb4)
    | (refine wpList_lay_set rfl (.tmp 7) (.tmp 16) rfl (lastN m) _ rfl rfl rfl ?_))
  rw [hput]
  have HA4 : Hid (Below w4.heap.size w4 (w4.alloc (.cells (setC (lastN m)) 41))) := Lib.hid ((Below.refl _ _).alloc (Nat.le_refl _) _)
  have H34 := Lib.hid (HB4.out.trans (HA4.out.mono HB4.out.size))
  have HX5 := Lib.hid (bxStay HX3.out H34.out)
  have HE5 := Lib.hid (HE3.out.stay H34.out)
  have HG5 := Lib.hid (HG2.out.stay H34.out)
  have HB5 := Lib.hid (HBW3.out.trans (H34.out.mono HBW3.out.size))
  have HN5 := Lib.hid (SetB.new w4 (lastN m))
  obtain ⟨b7, hb7⟩ : ∃ b7, Hid (w4.heap.size = b7) := ⟨_, Lib.hid rfl⟩
  have HGB : Hid (g2 < b7) := Lib.hid (by rw [← hb7.out]; exact Nat.lt_of_lt_of_le HG2.out.lt HB4.out.size)
  rw [hb7.out] at HN5 ⊢
  generalize w4.alloc (.cells (setC (lastN m)) 41) = w5 at *
  clear hx3 HX3 HE3 HBW3 HLA HA4 H34 HB4 HG2 hb7 HSZ3
  have HW0 : Hid (wrap64 ((s.size : Int) - 1) = (s.size : Int) - 1) := Lib.hid (sub_wrap (by have := HS.out; omega))
  go_upto_region 5 with fail
  have HN6 : Hid (SetB w5 b7 (nxE m ((Nf.bs s).drop s.size))) := Lib.hid (by rw [List.drop_eq_nil_of_le (by rw [HLEN.out]; omega)]; exact HN5.out)
  clear HN5
  go_loopw [8] (fun i wr => ∃ q : Nat, i = .int .i64 ((q : Int) - 1) ∧ q ≤ s.size ∧ Hid (BoxM wr B x m) ∧ Hid (GsB wr (B + 1) (erL m (Nf.bs s) q)) ∧ Hid (GsB wr g2 (tuL m)) ∧ Hid (SetB wr b7 (nxE m ((Nf.bs s).drop q))) ∧ Hid (Below w.heap.size w wr)) (fun i _ => (intOf i + 1).toNat)
  case atStart => exact ⟨s.size, by rw [HW0.out], Nat.le_refl _, HX5, HE5, HG5, HN6, HB5⟩
  case round =>
    obtain ⟨q, rfl, hq, HX, HE, HG, HN, HBW⟩ := hrel
    generalize hwr : wr = w6 at *
    clear hwr wr HX5 HE5 HG5 HN6 HB5 w5 w4 w3 w2
    cases q with
    | zero =>
      have hdd : decide (0 ≤ ((0 : Nat) : Int) - 1) = false := by decide
      go_wp2_with fail
      go_ret
      exact ⟨B + 1, rfl, HE.out, by rw [hB.out]; omega, HBW.out⟩
    | succ p =>
      have hp0 : ((p + 1 : Nat) : Int) - 1 = (p : Int) := by omega
      rw [hp0]
      have hdd : decide (0 ≤ (p : Int)) = true := decide_eq_true (by omega)
      have hlt : p < s.size := hq
      have hix := index_bs s p _ rfl hlt
      have hpi : (p : Int) < (s.size : Int) := by omega
      have HW1 : Hid (wrap64 ((p : Int) - 1) = (p : Int) - 1) := Lib.hid (sub_wrap (by have := HS.out; omega))
      have HP := Lib.hid hlt
      have HPL : Hid (p < (Nf.bs s).length) := Lib.hid (by rw [HLEN.out]; exact hlt)
      have HCL := Lib.hid (HBL.out _ (getD_mem (d := 0) HPL.out))
      have HES := Lib.hid (erL_set m (Nf.bs s) p)
      have HND := Lib.hid (nx_drop m (Nf.bs s) p HPL.out)
      have HEE : Hid (eE m ((Nf.bs s).getD p 0) ((Nf.bs s).drop (p + 1)) = rdL m.sp (nxE m ((Nf.bs s).drop (p + 1))) ((Nf.bs s).getD p 0)) := Lib.hid rfl
      have HNL : Hid (∀ k, (nxE m ((Nf.bs s).drop (p + 1))).testBit k = true → k < m.sp.length) := Lib.hid (fun k hk => nx_lt HR.out _ hk)
      have HEL : Hid (∀ k, (eE m ((Nf.bs s).getD p 0) ((Nf.bs s).drop (p + 1))).testBit k = true → k < (tuL m).length) := Lib.hid (fun k hk => by rw [tuL_len, HR.out.fol]; exact eE_lt HR.out _ _ hk)
      have HEN := Lib.hid (erL_len m (Nf.bs s) (p + 1))
      have HTL : Hid (m.fo.length = (tuL m).length) := Lib.hid (tuL_len m).symm
      have HMM := Lib.hid ((HM.out.kept (HBW.out.drew)).sp)
      have HTT := Lib.hid (HT.out.below HBW.out.drew HTG.out)
      generalize (Nf.bs s).getD p 0 = c at *
      generalize nxE m ((Nf.bs s).drop (p + 1)) = Q at *
      generalize eE m c ((Nf.bs s).drop (p + 1)) = E at *
      have HRD := Lib.hid (freading_any x.sa x.sc m.sp Q c w6.drew HMM.out HNL.out HCL.out HTT.out)
      rw [← HEE.out] at HRD
      clear hlt HEE HNL HCL hq
      have c0 := HX.out.c0
      have HXB := Lib.hid HX.out.lt
      have HNB := Lib.hid HN.out.lt
      go_upto_region 7 with fail
      refine region_mix [(false, 0), (false, 1), (false, 2), (false, 3), (false, 4), (false, 5), (false, 6), (false, 7), (true, 8), (false, 9)] (fun w' => Below w6.heap.size w6 w') (by kernel_rfl) (by kernel_rfl) ((Below.refl _ _).drew) ?_
      simp only [planOps, List.map_cons, List.map_nil, List.getD_cons_zero, List.getD_cons_succ, List.length_cons, List.length_nil, List.drop_succ_cons, List.drop_zero]
      refine mix_seg (seg := [_, _, _, _, _, _, _, _]) rfl ((Below.refl _ _).drew) ?_
      intro ι hι F hF
      have f1 := fun n => ((hF n).cell (p := ⟨B, 0, none⟩) HXB.out).trans c0
      have f2 := Lib.hid (fun n => HN.out.kept (hF n) HNB.out)
      iterate 4 (go_big_quiet_step (fail))
      refine BigFrame.wpQuiet_want rfl (fun K hK => ?_); refine quiet_load_set _ rfl b7 Q rfl (fun w' ⟨n, e⟩ => e ▸ f2.out n) ?_; refine hK _ ?_; clear hK K; simp only [Act.put, List.setIfInBounds_toArray, List.set_cons_zero, List.set_cons_succ]
      iterate 3 (go_big_quiet_step (fail))
      refine wpQuiet_nil ?_
      clear f1 f2 hF hι F
      have HBD : Hid (Below w6.heap.size w6 w6.drew) := Lib.hid ((Below.refl _ _).drew)
      refine mix_eff (fun K hK => ?_)
      go_wp2_with (go_at_call 52; refine HRD.out.mono ?_; rintro e w9 ⟨rfl, hb9⟩; have HB9 := Lib.hid (HBD.out.trans (hb9.mono HBD.out.size)); clear hb9)
      refine mix_on hK HB9.out ?_
      clear hK K
      refine mix_seg (seg := [_]) (rest := []) rfl HB9.out ?_
      intro ι hι F hF
      iterate 1 (go_big_quiet_step (fail))
      refine wpQuiet_nil ?_
      clear hF hι F
      show wpList _ _ _ _ _ _
      have HE9 := Lib.hid (HE.out.stay HB9.out)
      have HIX : Hid (p < (erL m (Nf.bs s) (p + 1)).length) := Lib.hid (by rw [HEN.out]; exact HPL.out)
      go_wp2_with (refine wpList_store_at rfl (.tmp 33) (.tmp 32) rfl (B + 1) (p * 4) E (by first | rfl | (simp; done)) rfl (HE9.out.there HIX.out _) ?_)
      refine NoPanic.normal ?_
      have HB10 : Hid (But (B + 1) w9 (w9.setCells (B + 1) (p * 4) (setC E).toList)) := Lib.hid (But.cells4 _ _ _ _)
      have HE10 := Lib.hid (HE9.out.set HIX.out E)
      rw [HES.out] at HE10
      have hbb := hB.out
      have hgl := HGL2.out
      have hgb := HGB.out
      have HX10 := Lib.hid (bxBut (HX.out.kept HB9.out HXB.out) HB10.out (by omega))
      have HG10 := Lib.hid ((HG.out.stay HB9.out).but HB10.out (by omega))
      have HN10 := Lib.hid ((HN.out.stay HB9.out).but HB10.out (by omega))
      have HBW9 := Lib.hid (HBW.out.trans (HB9.out.mono HBW.out.size))
      have HBW10 : Hid (Below w.heap.size w (w9.setCells (B + 1) (p * 4) (setC E).toList)) := Lib.hid (But.below HBW9.out HB10.out (by omega) HBW9.out.size)
      have HEG : Hid ((erL m (Nf.bs s) p).getD p 0 = E) := Lib.hid (by
        rw [← HES.out, List.getD_eq_getElem?_getD, List.getElem?_set, if_pos rfl, if_pos HIX.out]; rfl)
      have HRE := Lib.hid (HE10.out.range (i := p) (by rw [erL_len]; exact HPL.out))
      rw [HEG.out] at HRE
      clear hbb hgl hgb HX HG HN HBW HBW9 HE HE9 HB9 HB10 c0 hix HRD HMM HTT HXB HNB HBD
      generalize w9.setCells (B + 1) (p * 4) (setC E).toList = w10 at *
      have HJO := Lib.hid (fjoined_any g2 E (tuL m) w10 HG10.out HEL.out (HT.out.below HBW10.out HTG.out))
      rw [← HTL.out, ← HND.out] at HJO
      go_wp2_with (first
        | (refine wpList_load_mid rfl 41 (.tmp 37) rfl (B + 1) (p * 4) rfl (setC E).toList _ HRE.out Tryd.underlying41 rfl (sizeSetL _) ?_; rw [show (setC E).toList.toArray = setC E from rfl])
        | (go_at_call 53; refine HJO.out.mono ?_; rintro e w11 ⟨rfl, hb11⟩; have HB11 := Lib.hid hb11; clear hb11)
        | (refine wpList_store_set rfl (.tmp 7) (.tmp 39) rfl b7 Q (nxE m ((Nf.bs s).drop p)) rfl rfl (HN10.out.stay HB11.out) ?_))
      have HB12 : Hid (But b7 w11 (w11.setRow b7 (setC (nxE m ((Nf.bs s).drop p))))) := Lib.hid (But.setRow _ _ _)
      have HN12 := Lib.hid ((HN10.out.stay HB11.out).put (nxE m ((Nf.bs s).drop p)))
      generalize w11.setRow b7 (setC (nxE m ((Nf.bs s).drop p))) = w12 at *
      go_roundw
      case rel =>
        have hbb := hB.out
        have hgl := HGL2.out
        have hgb := HGB.out
        exact ⟨p, by rw [HW1.out], Nat.le_of_lt HP.out, Lib.hid (bxBut (bxStay HX10.out HB11.out) HB12.out (by omega)), Lib.hid ((HE10.out.stay HB11.out).but HB12.out (by omega)), Lib.hid ((HG10.out.stay HB11.out).but HB12.out (by omega)), HN12, Lib.hid (But.below (HBW10.out.trans (HB11.out.mono HBW10.out.size)) HB12.out (by omega) (Nat.le_trans HBW10.out.size HB11.out.size))⟩
      case measure => rw [HW1.out]; exact neg_left
end Ft
end Go.Proofs.YtghbgfkkdknmnaaDoor
