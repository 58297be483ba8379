/- NfaTrims: the law's walk. -/
import Derived.Test.YtlbaecjmfgahgaaDoorNOwn
import Derived.Test.YtlbaecjmfgahgaaDoorPrE
import Derived.Test.YtlbaecjmfgahgaaDoorPrB
namespace Go.Proofs.YtlbaecjmfgahgaaDoor
open Go.RowKit Sets Nf
namespace Nu
def nilM : Mc := ⟨[], [], [], [], false⟩
def nilA : Ma := ⟨none, 0, none, 0, none, 0, none, 0⟩
theorem fine_nil : Fine nilM := ⟨Nat.zero_le _, Nat.zero_le _, Nat.zero_le _, Nat.zero_le _, fun l hl => (by cases hl), fun k hk => (by cases hk), fun k hk => (by cases hk)⟩
theorem mat_nil (W : World) : MAt W nilA nilM := ⟨fun _ hi => absurd hi (Nat.not_lt_zero _), fun _ hi => absurd hi (Nat.not_lt_zero _), fun _ hi => absurd hi (Nat.not_lt_zero _), fun _ hi => absurd hi (Nat.not_lt_zero _)⟩
theorem left_i64 {U : Nat} {l : List Int} (h : ∀ k ∈ l, i64 k) : ∀ k ∈ leftL U l, i64 k := by
  intro k hk
  unfold leftL at hk
  obtain ⟨z, hz, rfl⟩ := List.mem_map.1 hk
  have h1 := h z (List.mem_filter.1 hz).1
  have h2 := nu_le U z.toNat
  unfold i64 at *
  omega
theorem fine_trim {m : Mc} (hf : Fine m) (U : Nat) : Fine (trimM m U) := by
  have hk := kept_len U m.sp.length
  have h1 := hf.sp
  have h2 := hf.fi
  have h3 := leftL_len U m.fi
  refine ⟨by unfold trimM; simp; omega, by unfold trimM; simp; omega, by unfold trimM; simp; omega, by unfold trimM; simp; omega, fun l hl => ?_, left_i64 hf.fiN, fun s hs => ?_⟩
  · unfold trimM at hl
    obtain ⟨k, -, rfl⟩ := List.mem_map.1 hl
    rcases Nat.lt_or_ge k m.fo.length with h4 | h4
    · have h5 := hf.each _ (getD_mem (d := []) h4)
      exact ⟨Nat.le_trans (leftL_len U _) h5.1, left_i64 h5.2⟩
    · rw [getD_ge h4]
      exact ⟨Nat.zero_le _, fun k hk => by cases hk⟩
  · unfold trimM at hs
    obtain ⟨k, hk, rfl⟩ := List.mem_map.1 hs
    unfold kept at hk
    exact hf.set _ (getD_mem (List.mem_range.1 (List.mem_filter.1 hk).1))
theorem trim_all (x : Ma) (m : Mc) (w : World) (h : MAt w x m) (hf : Fine m) (hT : Tab w) :
    Calls Tryd.prog 8 #[.agg (mc x m)] w fun e w' => ∃ y t k, e = .returned (.tuple #[.agg (mc y t), .int .i64 k]) ∧ MAt w' y t ∧ Fine t ∧ (rightM m = true → k = 0 ∧ t = trimM m (useN m)) ∧ (rightM m = false → k = 1 ∧ t = nilM) ∧ Below w.heap.size w w' := by
  cases hr : rightM m with
  | true =>
    refine (trim_any x m w h hf ((right_iff m).1 hr) hT).mono ?_
    rintro e w' ⟨y, rfl, ho, hb⟩
    exact ⟨y, _, 0, rfl, ho.mat, fine_trim hf _, fun _ => ⟨rfl, rfl⟩, fun h => (by cases h), hb⟩
  | false =>
    refine (trim_wrong x m w h hf hr).mono ?_
    rintro e w' ⟨rfl, hb⟩
    exact ⟨nilA, nilM, 1, rfl, mat_nil _, fine_nil, fun h => (by cases h), fun _ => ⟨rfl, rfl⟩, hb⟩
theorem BoxM.two (w : World) (x y : Ma) (m n : Mc) : BoxM ((w.alloc (.cells (mc x m) 27)).alloc (.cells (mc y n) 27)) w.heap.size x m ∧ BoxM ((w.alloc (.cells (mc x m) 27)).alloc (.cells (mc y n) 27)) (w.heap.size + 1) y n ∧ Below w.heap.size w ((w.alloc (.cells (mc x m) 27)).alloc (.cells (mc y n) 27)) := by
  have hz : (w.alloc (.cells (mc x m) 27)).heap.size = w.heap.size + 1 := by simp
  have hal := (Below.refl (w.heap.size + 1) (w.alloc (.cells (mc x m) 27))).alloc (by simp) (.cells (mc y n) 27)
  refine ⟨(BoxM.new w x m).kept hal (by omega), ?_, ((Below.refl w.heap.size w).alloc (Nat.le_refl _) (.cells (mc x m) 27)).trans (hal.mono (Nat.le_succ _))⟩
  have := BoxM.new (w.alloc (.cells (mc x m) 27)) y n
  rw [hz] at this
  exact this
set_option maxHeartbeats 12800000 in
set_option maxRecDepth 100000 in
theorem ntrm_any (x y : Ma) (m n : Mc) (w : World) (h : UnM w x m) (h2 : UnM w y n) (hT : Tab w) :
    Calls Tryd.prog 3 #[.agg (mc x m), .agg (mc y n)] w fun e w' => e = .returned (.bool true) ∧ Below w.heap.size w w' := by
  have HG : Hid (0 < w.heap.size) := Lib.hid (World.block_lt_of_cell? _ _ (hT 0 (by decide)))
  have HU := Lib.hid h
  have HV := Lib.hid h2
  have HT := Lib.hid hT
  clear h h2 hT
  go_enter Tryd.func3, Tryd.ntmps3
  go_upto_region 1 with fail
  have hbt := BoxM.two w x y m n
  generalize (w.alloc (.cells (mc x m) 27)).alloc (.cells (mc y n) 27) = w1 at *
  have HMB := Lib.hid (fun w' (h : Below w.heap.size w w') => HU.out.1.kept (w' := w') h)
  have HNB := Lib.hid (fun w' (h : Below w.heap.size w w') => HV.out.1.kept (w' := w') h)
  have HAW := Lib.hid (fun w' (h : Below w.heap.size w w') => awake10_any w' (HT.out.below h HG.out))
  have HTB := Lib.hid (fun w' (h : Below w.heap.size w w') => HT.out.below (w' := w') h HG.out)
  obtain ⟨B, hB⟩ : ∃ B, Hid (w.heap.size = B) := ⟨_, Lib.hid rfl⟩
  rw [hB.out] at hbt HMB HNB HAW HTB ⊢
  have HX := Lib.hid hbt.1
  have HY := Lib.hid hbt.2.1
  have HB := Lib.hid hbt.2.2
  clear hbt
  have HGR := Lib.hid (ngreat_any x m w1 (HMB.out _ HB.out).fo)
  have HXl := Lib.hid HX.out.lt
  have HYl := Lib.hid HY.out.lt
  have HSZ : Hid (∀ w', Below B w w' → B ≤ w'.heap.size) := Lib.hid (fun w' h => by rw [← hB.out]; exact h.size)
  cases hgr : greatM m with
  | true =>
    rw [hgr] at HGR
    clear hgr
    go_wp2_with (first
      | (refine wpList_load_mach rfl (.tmp 2) rfl B x m rfl HX.out ?_)
      | (go_at_call 5; refine HGR.out.mono ?_; rintro e w2 ⟨rfl, hb2⟩; have HB2 := Lib.hid (HB.out.trans (hb2.mono (Nat.le_of_lt HXl.out))); clear hb2; have HA2 := Lib.hid (HAW.out w2 HB2.out))
      | (go_at_call 6; refine HA2.out.mono ?_; rintro e w3 ⟨rfl, hb3⟩; have HB3 := Lib.hid (HB2.out.trans (hb3.mono (HSZ.out _ HB2.out))); clear hb3))
    go_ret
    exact ⟨rfl, by rw [hB.out]; exact HB3.out⟩
  | false =>
    rw [hgr] at HGR
    have HF := Lib.hid (HU.out.2 hgr)
    clear hgr
    have HGN := Lib.hid (fun w' (h : Below B w w') => ngreat_any y n w' (HNB.out _ h).fo)
    cases hgn : greatM n with
    | true =>
      rw [hgn] at HGN
      clear hgn
      go_wp2_with (first
        | (go_at_call 5; refine (HGN.out w2 HB2.out).mono ?_; rintro e w3 ⟨rfl, hb3⟩; have HB3 := Lib.hid (HB2.out.trans (hb3.mono (HSZ.out _ HB2.out))); have HA3 := Lib.hid (HAW.out w3 HB3.out); clear hb3)
        | (refine wpList_load_mach rfl (.tmp 2) rfl B x m rfl HX.out ?_)
        | (go_at_call 5; refine HGR.out.mono ?_; rintro e w2 ⟨rfl, hb2⟩; have HB2 := Lib.hid (HB.out.trans (hb2.mono (Nat.le_of_lt HXl.out))); have HY2 := Lib.hid (HY.out.kept hb2 HYl.out); clear hb2)
        | (refine BigFrame.wpList_want rfl (fun K' hK' => ?_); refine wp_load_mach (.tmp 3) rfl (B + 1) y n rfl HY2.out ?_; refine hK' _ _ ?_; clear hK' K')
        | (go_at_call 6; refine HA3.out.mono ?_; rintro e w4 ⟨rfl, hb4⟩; have HB4 := Lib.hid (HB3.out.trans (hb4.mono (HSZ.out _ HB3.out))); clear hb4))
      go_ret
      exact ⟨rfl, by rw [hB.out]; exact HB4.out⟩
    | false =>
      rw [hgn] at HGN
      have HFN := Lib.hid (HV.out.2 hgn)
      clear hgn
      go_upto_region 3 with (first
        | (go_at_call 5; refine (HGN.out w2 HB2.out).mono ?_; rintro e w3 ⟨rfl, hb3⟩; have HB3 := Lib.hid (HB2.out.trans (hb3.mono (HSZ.out _ HB2.out))); have HX3 := Lib.hid (HX2.out.kept hb3 HX2.out.lt); have HY3 := Lib.hid (HY2.out.kept hb3 HY2.out.lt); clear hb3)
        | (refine wpList_load_mach rfl (.tmp 2) rfl B x m rfl HX.out ?_)
        | (go_at_call 5; refine HGR.out.mono ?_; rintro e w2 ⟨rfl, hb2⟩; have HB2 := Lib.hid (HB.out.trans (hb2.mono (Nat.le_of_lt HXl.out))); have HX2 := Lib.hid (HX.out.kept hb2 HXl.out); have HY2 := Lib.hid (HY.out.kept hb2 HYl.out); clear hb2)
        | (refine BigFrame.wpList_want rfl (fun K' hK' => ?_); refine wp_load_mach (.tmp 3) rfl (B + 1) y n rfl HY2.out ?_; refine hK' _ _ ?_; clear hK' K'))
      clear HX HY HB HX2 HY2 HB2 HGR HGN HXl HYl w1
      have HC1 := Lib.hid (copy_any x m w3 (HMB.out _ HB3.out) HF.out)
      go_upto_region 4 with (first
        | (refine wpList_load_mach rfl (.tmp 2) rfl B x m rfl HX3.out ?_)
        | (go_at_call 7; refine HC1.out.mono ?_; rintro e w4 ⟨z, rfl, ho, hb⟩; have HOC := Lib.hid ho.mat; have HB4 := Lib.hid hb; clear ho hb)
        | (refine wpList_lay_mach rfl (.tmp 5) (.tmp 16) rfl z m _ rfl rfl rfl ?_))
      rw [show ∀ a : Act, a.put none undef = a from fun _ => rfl]
      have hal := (Below.refl w4.heap.size w4).alloc (Nat.le_refl _) (.cells (mc z m) 27)
      have h35 := HB4.out.trans (hal.mono HB4.out.size)
      have HX5 := Lib.hid (HX3.out.kept h35 HX3.out.lt)
      have HY5 := Lib.hid (HY3.out.kept h35 HY3.out.lt)
      have HC5 := Lib.hid (BoxM.new w4 z m)
      have HMC5 := Lib.hid (HOC.out.kept hal)
      have HB5 := Lib.hid (HB3.out.trans (h35.mono (HSZ.out _ HB3.out)))
      obtain ⟨b4, hb4⟩ : ∃ b, Hid (w4.heap.size = b) := ⟨_, Lib.hid rfl⟩
      rw [hb4.out] at HC5 ⊢
      clear hal h35 HOC HB4 HC1 HX3 HY3 HB3
      generalize w4.alloc (.cells (mc z m) 27) = w5 at *
      clear hb4
      have HTR := Lib.hid (trim_all x m w5 (HMB.out _ HB5.out) HF.out (HTB.out _ HB5.out))
      go_upto_region 5 with (first
        | (refine wpList_load_mach rfl (.tmp 2) rfl B x m rfl HX5.out ?_)
        | (go_at_call 8; refine HTR.out.mono ?_; rintro e w6 ⟨u, t, k, rfl, ht, hft, hr1, hr2, hb⟩; have HMT := Lib.hid ht; have HFT := Lib.hid hft; have HRY := Lib.hid hr1; have HRN := Lib.hid hr2; have HB6 := Lib.hid hb; clear ht hft hr1 hr2 hb)
        | (refine wpList_lay_mach rfl (.tmp 6) (.tmp 20) rfl u t _ rfl rfl rfl ?_))
      have hal := (Below.refl w6.heap.size w6).alloc (Nat.le_refl _) (.cells (mc u t) 27)
      have h57 := HB6.out.trans (hal.mono HB6.out.size)
      have HX7 := Lib.hid (HX5.out.kept h57 HX5.out.lt)
      have HY7 := Lib.hid (HY5.out.kept h57 HY5.out.lt)
      have HC7 := Lib.hid (HC5.out.kept h57 HC5.out.lt)
      have HMC7 := Lib.hid (HMC5.out.kept h57)
      have HT7 := Lib.hid (BoxM.new w6 u t)
      have HMT7 := Lib.hid (HMT.out.kept hal)
      have HB7 := Lib.hid (HB5.out.trans (h57.mono (HSZ.out _ HB5.out)))
      obtain ⟨b6, hb6⟩ : ∃ b, Hid (w6.heap.size = b) := ⟨_, Lib.hid rfl⟩
      rw [hb6.out] at HT7 ⊢
      clear hal h57 HMT HB6 HTR HX5 HY5 HC5 HMC5 HB5
      generalize w6.alloc (.cells (mc u t) 27) = w7 at *
      clear hb6
      have S1 := Lib.hid (fun w' (h : Below w7.heap.size w7 w') => rsame_any x z m m w' (HMB.out _ (HB7.out.trans (h.mono (HSZ.out _ HB7.out)))) (HMC7.out.kept h) HF.out HF.out)
      have S2 := Lib.hid (fun w' (h : Below w7.heap.size w7 w') => nsame_any x y m n w' (HMB.out _ (HB7.out.trans (h.mono (HSZ.out _ HB7.out)))) (HNB.out _ (HB7.out.trans (h.mono (HSZ.out _ HB7.out)))) HF.out HFN.out)
      have S3 := Lib.hid (fun w' (h : Below w7.heap.size w7 w') => rsame_any x y m n w' (HMB.out _ (HB7.out.trans (h.mono (HSZ.out _ HB7.out)))) (HNB.out _ (HB7.out.trans (h.mono (HSZ.out _ HB7.out)))) HF.out HFN.out)
      have S4 := Lib.hid (fun w' (h : Below w7.heap.size w7 w') => nsame_any x x m m w' (HMB.out _ (HB7.out.trans (h.mono (HSZ.out _ HB7.out)))) (HMB.out _ (HB7.out.trans (h.mono (HSZ.out _ HB7.out)))) HF.out HF.out)
      rw [same_self] at S1 S4
      generalize sameB m n = sb at *
      have hsb : (sb != sb) = false := by cases sb <;> rfl
      refine region_fam (by kernel_rfl) (by kernel_rfl) ?_
      intro ι hι F hF hX
      have f1 := Lib.hid (fun k => HX7.out.kept (hF k) HX7.out.lt)
      have f2 := Lib.hid (fun k => HC7.out.kept (hF k) HC7.out.lt)
      have f3 := Lib.hid (fun k => HY7.out.kept (hF k) HY7.out.lt)
      refine BigFrame.wpQuiet_want rfl (fun K hK => ?_); refine quiet_load_mach _ rfl B x m rfl (fun w' ⟨k, e⟩ => e ▸ f1.out k) ?_; refine hK _ ?_; clear hK K; simp only [Act.put, List.setIfInBounds_toArray, List.set_cons_zero, List.set_cons_succ]
      refine BigFrame.wpQuiet_want rfl (fun K hK => ?_); refine quiet_load_mach _ rfl b4 z m rfl (fun w' ⟨k, e⟩ => e ▸ f2.out k) ?_; refine hK _ ?_; clear hK K; simp only [Act.put, List.setIfInBounds_toArray, List.set_cons_zero, List.set_cons_succ]
      go_big_quiet_step (first | (go_at_call 9; exact fam_call hF hX (S1.out _ (hF _))))
      iterate 2 (go_big_quiet_step (fail))
      refine BigFrame.wpQuiet_want rfl (fun K hK => ?_); refine quiet_load_mach _ rfl B x m rfl (fun w' ⟨k, e⟩ => e ▸ f1.out k) ?_; refine hK _ ?_; clear hK K; simp only [Act.put, List.setIfInBounds_toArray, List.set_cons_zero, List.set_cons_succ]
      refine BigFrame.wpQuiet_want rfl (fun K hK => ?_); refine quiet_load_mach _ rfl (B + 1) y n rfl (fun w' ⟨k, e⟩ => e ▸ f3.out k) ?_; refine hK _ ?_; clear hK K; simp only [Act.put, List.setIfInBounds_toArray, List.set_cons_zero, List.set_cons_succ]
      go_big_quiet_step (first | (go_at_call 10; exact fam_call hF hX (S2.out _ (hF _))))
      refine BigFrame.wpQuiet_want rfl (fun K hK => ?_); refine quiet_load_mach _ rfl B x m rfl (fun w' ⟨k, e⟩ => e ▸ f1.out k) ?_; refine hK _ ?_; clear hK K; simp only [Act.put, List.setIfInBounds_toArray, List.set_cons_zero, List.set_cons_succ]
      refine BigFrame.wpQuiet_want rfl (fun K hK => ?_); refine quiet_load_mach _ rfl (B + 1) y n rfl (fun w' ⟨k, e⟩ => e ▸ f3.out k) ?_; refine hK _ ?_; clear hK K; simp only [Act.put, List.setIfInBounds_toArray, List.set_cons_zero, List.set_cons_succ]
      go_big_quiet_step (first | (go_at_call 9; exact fam_call hF hX (S3.out _ (hF _))))
      iterate 3 (go_big_quiet_step (fail))
      refine BigFrame.wpQuiet_want rfl (fun K hK => ?_); refine quiet_load_mach _ rfl B x m rfl (fun w' ⟨k, e⟩ => e ▸ f1.out k) ?_; refine hK _ ?_; clear hK K; simp only [Act.put, List.setIfInBounds_toArray, List.set_cons_zero, List.set_cons_succ]
      refine BigFrame.wpQuiet_want rfl (fun K hK => ?_); refine quiet_load_mach _ rfl B x m rfl (fun w' ⟨k, e⟩ => e ▸ f1.out k) ?_; refine hK _ ?_; clear hK K; simp only [Act.put, List.setIfInBounds_toArray, List.set_cons_zero, List.set_cons_succ]
      go_big_quiet_step (first | (go_at_call 10; exact fam_call hF hX (S4.out _ (hF _))))
      iterate 2 (go_big_quiet_step (fail))
      refine wpQuiet_nil ?_
      rintro _ ⟨k2, rfl⟩
      have HB78 := Lib.hid (hF k2)
      generalize F k2 = w8 at *
      clear hF hX k2 F hι f1 f2 f3 S1 S2 S3 S4 hsb
      have HX8 := Lib.hid (HX7.out.kept HB78.out HX7.out.lt)
      have HT8 := Lib.hid (HT7.out.kept HB78.out HT7.out.lt)
      have HMT8 := Lib.hid (HMT7.out.kept HB78.out)
      have HB8 := Lib.hid (HB7.out.trans (HB78.out.mono (HSZ.out _ HB7.out)))
      clear HX7 HY7 HC7 HMC7 HMT7 HB7 HT7 HB78 w7
      have HRR := Lib.hid (rright_any x m w8 (HMB.out _ HB8.out) HF.out)
      cases hr : rightM m with
      | false =>
        rw [hr] at HRR
        obtain ⟨rfl, rfl⟩ := HRN.out hr
        clear hr HRN HRY
        go_upto_region 8 with (first
          | (refine wpList_load_mach rfl (.tmp 2) rfl B x m rfl HX8.out ?_)
          | (go_at_call 11; refine HRR.out.mono ?_; rintro e w9 ⟨rfl, hb⟩; have HT9 := Lib.hid (HT8.out.kept hb HT8.out.lt); have HMT9 := Lib.hid (HMT8.out.kept hb); have HB9 := Lib.hid (HB8.out.trans (hb.mono (HSZ.out _ HB8.out))); clear hb))
        clear HX8 HT8 HMT8 HB8 HRR
        have S5 := Lib.hid (rsame_any u nilA nilM nilM w9 HMT9.out (mat_nil _) HFT.out HFT.out)
        rw [same_self] at S5
        go_wp2_with (first
          | (go_at_call 9; refine S5.out.mono ?_; rintro e w10 ⟨rfl, hb⟩; have HB10 := Lib.hid (HB9.out.trans (hb.mono (HSZ.out _ HB9.out))); clear hb; have HA10 := Lib.hid (HAW.out w10 HB10.out))
          | (go_at_call 6; refine HA10.out.mono ?_; rintro e w11 ⟨rfl, hb⟩; have HB11 := Lib.hid (HB10.out.trans (hb.mono (HSZ.out _ HB10.out))); clear hb)
          | (refine BigFrame.wpList_want rfl (fun K' hK' => ?_); refine wp_load_mach (.tmp 6) rfl b6 u nilM rfl HT9.out ?_; refine hK' _ _ ?_; clear hK' K'))
        go_ret
        exact ⟨rfl, by rw [hB.out]; exact HB11.out⟩
      | true =>
        rw [hr] at HRR
        have HRT := Lib.hid ((right_iff m).1 hr)
        obtain ⟨rfl, rfl⟩ := HRY.out hr
        clear hr HRN HRY
        go_upto_region 9 with (first
          | (refine wpList_load_mach rfl (.tmp 2) rfl B x m rfl HX8.out ?_)
          | (go_at_call 11; refine HRR.out.mono ?_; rintro e w9 ⟨rfl, hb⟩; have HX9 := Lib.hid (HX8.out.kept hb HX8.out.lt); have HT9 := Lib.hid (HT8.out.kept hb HT8.out.lt); have HMT9 := Lib.hid (HMT8.out.kept hb); have HB9 := Lib.hid (HB8.out.trans (hb.mono (HSZ.out _ HB8.out))); clear hb))
        clear HX8 HT8 HMT8 HB8 HRR
        have HBD : Hid (Below w9.heap.size w9 w9.drew) := Lib.hid ((Below.refl _ _).drew)
        have HTM := Lib.hid (trim10_any x m w9.drew (HMB.out _ (HB9.out.trans (HBD.out.mono (HSZ.out _ HB9.out)))) HF.out HRT.out)
        refine region_mix [(false, 0), (false, 1), (false, 2), (false, 3), (false, 4), (true, 5), (true, 6), (false, 7), (false, 8), (true, 9), (false, 10)] (fun w' => Below w9.heap.size w9 w') (by kernel_rfl) (by kernel_rfl) HBD.out ?_
        simp only [planOps, List.map_cons, List.map_nil, List.getD_cons_zero, List.getD_cons_succ, List.length_cons, List.length_nil, List.drop_succ_cons, List.drop_zero]
        refine mix_seg (seg := [_, _, _, _, _]) rfl HBD.out ?_
        intro ι hι F hF
        have f1 := Lib.hid (fun k => HX9.out.kept (hF k) HX9.out.lt)
        have f2 := Lib.hid (fun k => HT9.out.kept (hF k) HT9.out.lt)
        iterate 3 (go_big_quiet_step (fail))
        refine BigFrame.wpQuiet_want rfl (fun K hK => ?_); refine quiet_load_mach _ rfl b6 u (trimM m (useN m)) rfl (fun w' ⟨k, e⟩ => e ▸ f2.out k) ?_; refine hK _ ?_; clear hK K; simp only [Act.put, List.setIfInBounds_toArray, List.set_cons_zero, List.set_cons_succ]
        refine BigFrame.wpQuiet_want rfl (fun K hK => ?_); refine quiet_load_mach _ rfl B x m rfl (fun w' ⟨k, e⟩ => e ▸ f1.out k) ?_; refine hK _ ?_; clear hK K; simp only [Act.put, List.setIfInBounds_toArray, List.set_cons_zero, List.set_cons_succ]
        refine wpQuiet_nil ?_
        clear f1 f2 hF hι F
        refine mix_eff (fun K hK => ?_)
        go_wp2_with (go_at_call 12; refine HTM.out.mono ?_; rintro e w10 ⟨y2, rfl, hm2, hb⟩; have HM10 := Lib.hid hm2; have HB10 := Lib.hid (HBD.out.trans (hb.mono HBD.out.size)); clear hm2 hb)
        refine mix_on hK HB10.out ?_
        clear hK K HTM
        have S5 := Lib.hid (rsame_any u y2 (trimM m (useN m)) (trimM m (useN m)) w10 (HMT9.out.kept HB10.out) HM10.out HFT.out HFT.out)
        rw [same_self] at S5
        refine mix_eff (fun K hK => ?_)
        go_wp2_with (go_at_call 9; refine S5.out.mono ?_; rintro e w11 ⟨rfl, hb⟩; have HB11 := Lib.hid (HB10.out.trans (hb.mono HB10.out.size)); clear hb)
        refine mix_on hK HB11.out ?_
        clear hK K S5
        refine mix_seg (seg := [_, _]) rfl HB11.out ?_
        intro ι hι F hF
        iterate 2 (go_big_quiet_step (fail))
        refine wpQuiet_nil ?_
        clear hF hι F
        have HBS := Lib.hid (HB9.out.trans (HB11.out.mono (HSZ.out _ HB9.out)))
        have HA11 := Lib.hid (HAW.out w11 HBS.out)
        refine mix_eff (fun K hK => ?_)
        go_wp2_with (go_at_call 6; refine HA11.out.mono ?_; rintro e w12 ⟨rfl, hb⟩; have HB12 := Lib.hid (HB11.out.trans (hb.mono HB11.out.size)); have HBT := Lib.hid (HBS.out.trans (hb.mono (HSZ.out _ HBS.out))); clear hb)
        refine mix_on hK HB12.out ?_
        clear hK K
        refine mix_seg (seg := [_]) (rest := []) rfl HB12.out ?_
        intro ι hι F hF
        iterate 1 (go_big_quiet_step (fail))
        refine wpQuiet_nil ?_
        clear hF hι F
        show wpList _ _ _ _ _ _
        go_wp2_with fail
        refine NoPanic.normal ?_
        go_wp2_with fail
        go_ret
        exact ⟨rfl, by rw [hB.out]; exact HBT.out⟩
end Nu
end Go.Proofs.YtlbaecjmfgahgaaDoor
