/- Word, walked. -/
import Derived.Test.YtmjjkamndlefmaaDoorPqS1
namespace Go.Proofs.YtmjjkamndlefmaaDoor
open Go.RowKit Sets Nf Df Cls
namespace Sk
set_option maxHeartbeats 12800000 in
set_option maxRecDepth 100000 in
theorem word_any (x : Dx) (d : Dm) (w : World) (h : DAt w x d) (hf : DFine d) (hR : d.R.length ≤ 1000) (hT : Tab w) :
    Calls Tryd.prog 13 #[.agg (dvC x d)] w fun e w' => (∃ s ok, e = .returned (.tuple #[.string s, .bool ok]) ∧ WordIs d s ok) ∧ Below w.heap.size w w' := by
  have HG : Hid (0 < w.heap.size) := Lib.hid (World.block_lt_of_cell? _ _ (hT 0 (by decide)))
  have HM0 := Lib.hid h
  have HF := Lib.hid hf
  have HRN := Lib.hid hR
  have HT := Lib.hid hT
  obtain ⟨i1, hi1, hz1⟩ := Option.map_eq_some_iff.1 infoBool
  simp only [Prod.mk.injEq] at hz1
  have HI1 := Lib.hid hi1
  have HZ1 := Lib.hid hz1
  clear h hf hR hT hi1 hz1
  go_enter Tryd.func13, Tryd.ntmps13
  go_upto_region 1 with fail
  have HX0 := Lib.hid (BoxD.new w x d)
  have HB0 := Lib.hid ((Below.refl w.heap.size w).alloc (Nat.le_refl _) (.cells (dvC x d) 28))
  have HM1 := Lib.hid (HM0.out.kept HB0.out)
  obtain ⟨s, hs⟩ : ∃ s, Hid (w.heap.size = s) := ⟨_, Lib.hid rfl⟩
  rw [hs.out] at HX0 ⊢
  have HBs : Hid (Below s w (w.alloc (.cells (dvC x d) 28))) := Lib.hid (by rw [← hs.out]; exact HB0.out)
  have HT1 := Lib.hid (HT.out.below HBs.out (by rw [← hs.out]; exact HG.out))
  clear HB0 HM0 HT
  generalize w.alloc (.cells (dvC x d) 28) = w0 at *
  have HRI := Lib.hid (dright_any x d w0 HM1.out HF.out)
  have HGs : Hid (0 < s) := Lib.hid (by rw [← hs.out]; exact HG.out)
  by_cases hr : rightD d = true
  case neg =>
    have hr : rightD d = false := by simpa using hr
    have HNO : Hid (∀ u, byt u → takesD d u = false) := Lib.hid (fun u _ => by unfold takesD; rw [hr, Bool.false_and])
    rw [hr] at HRI
    clear hr
    go_wp2_with (first
      | (refine BigFrame.wpList_want rfl (fun K' hK' => ?_); refine wp_load_dv _ rfl s x d rfl HX0.out ?_; refine hK' _ _ ?_; clear hK' K')
      | (go_at_call 14; refine HRI.out.mono ?_; rintro e w1 ⟨rfl, hb1⟩; have HB1 := Lib.hid hb1; clear hb1))
    go_ret2
    exact ⟨⟨_, _, rfl, .inr ⟨rfl, rfl, HNO.out⟩⟩, by rw [hs.out]; exact HBs.out.trans (HB1.out.mono (Nat.le_of_lt HX0.out.lt))⟩
  case pos =>
    have HR := Lib.hid ((dright_iff d).1 hr)
    rw [hr] at HRI
    clear hr
    obtain ⟨nc, hdn, hnc, hof⟩ := pright_is HR.out.pr
    have HPR : Hid (prightB d.of (nc : Nat) = true) := Lib.hid (by rw [← hdn]; exact HR.out.pr)
    have HL := Lib.hid (pright_lead HPR.out)
    have HDN := Lib.hid hdn
    have HNC := Lib.hid hnc
    have HOF := Lib.hid hof
    clear hdn hnc hof
    go_upto_region 3 with (first
      | (refine BigFrame.wpList_want rfl (fun K' hK' => ?_); refine wp_load_dv _ rfl s x d rfl HX0.out ?_; refine hK' _ _ ?_; clear hK' K')
      | (go_at_call 14; refine HRI.out.mono ?_; rintro e w1 ⟨rfl, hb1⟩; have HB1 := Lib.hid hb1; clear hb1))
    have HX1 := Lib.hid (HX0.out.stay HB1.out)
    have HM2 := Lib.hid (HM1.out.kept HB1.out)
    have HT2 := Lib.hid (HT1.out.below HB1.out (Nat.lt_trans HGs.out HX0.out.lt))
    have HBs1 := Lib.hid (HBs.out.trans (HB1.out.mono (Nat.le_of_lt HX0.out.lt)))
    clear HX0 HM1 HT1 HBs HB1 HRI
    clear w0
    go_upto_region 4 with (first
      | (refine wpList_load_mid rfl 24 _ rfl s 0 rfl (partC d.of d.n).toList _ (partC_mid _ _ _ _ _ _ HX1.out.row) Tryd.underlying24 rfl (sizePL _ _) ?_)
      | (go_at_call 30; rw [HDN.out]; refine (least_any d.of nc 1 w1 HNC.out HOF.out HPR.out HT2.out (Nat.lt_trans HGs.out HX1.out.lt)).mono ?_; rintro e w2 ⟨gl, rfl, hg2, hrow, hb2⟩; have HR2 := Lib.hid hrow; have HB2 := Lib.hid hb2; clear hrow hb2 hg2))
    have HR3 : Hid (BytesRow w2 gl ((List.range nc).map fun j => [lead d.of j])) := Lib.hid (by
      rw [show (List.range nc).map (fun j => [lead d.of j]) = (List.range nc).map (fun j => List.take (Int.toNat 1) (listN (clsSet d.of 256 j))) from List.map_congr_left fun j hj => by
        obtain ⟨c, hc, hcj⟩ := HL.out.hit j (List.mem_range.1 hj)
        exact (lead_spec d.of j c hc hcj).2.2.symm]
      exact HR2.out)
    have HX2 := Lib.hid (HX1.out.stay HB2.out)
    have HM3 := Lib.hid (HM2.out.kept HB2.out)
    have HBs2 := Lib.hid (HBs1.out.trans (HB2.out.mono (Nat.le_of_lt HX1.out.lt)))
    obtain ⟨q, hq⟩ : ∃ q, Hid (w2.heap.size = q) := ⟨_, Lib.hid rfl⟩
    have HQ : Hid (∀ W, Below q w2 W → BoxD W s x d ∧ DAt W x d ∧ ∀ k, k < nc → ∃ b o c, W.cell? ⟨gl, k, none⟩ = some (.slice (some ⟨b, o, none⟩) 1 c) ∧ W.cell? ⟨b, o, none⟩ = some (.int .u8 (lead d.of k))) := Lib.hid (fun W hb => by
      rw [← hq.out] at hb
      exact ⟨HX2.out.stay hb, HM3.out.kept hb, fun k hk => row_one (HR3.out.kept hb) k hk⟩)
    have HSQ : Hid (s ≤ q) := Lib.hid (by rw [← hq.out]; exact Nat.le_of_lt HX2.out.lt)
    have HPOS := Lib.hid HR.out.pos
    have c257 := HX2.out.c257
    clear HR2 HX1 HM2 HT2 HBs1 HB2 HR3 HX2 HM3
    clear w1
    go_upto_region 5 with (refine wpList_make_row _ rfl (.tmp 19) (.tmp 19) 26 rfl 4 i1 (.bool false) Tryd.underlying26 HI1.out HZ1.out.1 HZ1.out.2.1 rfl .i64 .i64 d.R.length rfl rfl (by rw [HZ1.out.2.2]; have := HRN.out; omega) (by have := HRN.out; omega) ?_)
    clear c257
    have HS0 := Lib.hid (World.rowIs_made w2 (.bool false) d.R.length 4)
    have HB3 := Lib.hid ((Below.refl w2.heap.size w2).alloc (Nat.le_refl _) (.cells (madeCells #[.bool false] d.R.length) 4))
    rw [hq.out] at HS0 HB3 ⊢
    generalize w2.alloc (.cells (madeCells #[.bool false] d.R.length) 4) = w3 at *
    have hc0 := World.rowIs.cell HS0.out HPOS.out
    have hf0 := World.rowIs.frozen HS0.out 0
    have hp0 : (0 : Int) < (d.R.length : Int) := by have := HPOS.out; omega
    have hbv := buildV0
    have hbw := buildV
    have HW0 : Hid (WdI q q d.R.length w2 (.slice (some ⟨w3.heap.size, 0, none⟩) 1 1) [(0, 0, 0)] (fun j => if j = 0 then true else false) ((w3.setCell ⟨q, 0, none⟩ (.bool true)).alloc (.cells #[.int .i64 0, .int .i64 0, .int .u8 0] 66))) := Lib.hid (by
      have hsz : (w3.setCell ⟨q, 0, none⟩ (.bool true)).heap.size = w3.heap.size := by simp
      have hqs : q ≤ w3.heap.size := Nat.le_of_lt (World.rowIs.lt HS0.out)
      refine ⟨World.rowIs.alloc ((World.rowIs.set HS0.out 0 (.bool true)).congr (fun i _ => by by_cases e : i = 0 <;> simp [e])) _, ?_, Nat.le_refl _, (HB3.out.setCell (Nat.le_refl _) _).alloc (by rw [hsz]; exact hqs) _⟩
      exact own_one (w3.setCell ⟨q, 0, none⟩ (.bool true)) q w3.heap.size hsz hqs (0, 0, 0))
    go_upto_region 7 with fail
    clear hc0 hf0 hp0 hbv HS0 HB3
    generalize Value.slice (some ⟨w3.heap.size, 0, none⟩) 1 1 = v0 at *
    generalize (w3.setCell ⟨q, 0, none⟩ (.bool true)).alloc (.cells #[.int .i64 0, .int .i64 0, .int .u8 0] 66) = w4 at *
    clear w3
    have HBW0 := Lib.hid (Bw.start (nc := nc) HR.out)
    have HTX0 : Hid (Txs [(0, 0, 0)] [[]]) := Lib.hid ⟨rfl, rfl, fun j h1 h2 => by simp at h2; omega⟩
    go_upto_region 8 with fail
    go_loopw [6, 7] (fun v i wr => ∃ (n : Nat) (F : List Vs) (T : List (List Nat)) (S : Nat → Bool), i = .int .i64 n ∧ Hid (n ≤ F.length) ∧ Hid (WdI q q d.R.length w2 v F S wr) ∧ Hid (Bw d nc n 0 (F.map (·.1)) T) ∧ Hid (Txs F T) ∧ Hid (∀ k, k < d.R.length → (S k = true ↔ k ∈ F.map (·.1))) ∧ Hid (∀ j, j < n → d.F.getD ((F.map (·.1)).getD j 0) false = false)) (fun v i _ => ((d.R.length : Int) + 1 - intOf i).toNat)
    case atStart => exact ⟨0, _, _, _, rfl, Lib.hid (Nat.zero_le _), HW0, HBW0, HTX0, Lib.hid (fun k _ => by by_cases e : k = 0 <;> simp [e]), Lib.hid (fun j hj => absurd hj (Nat.not_lt_zero _))⟩
    case round =>
      clear HW0 HBW0 HTX0
      obtain ⟨n, F, T, S, rfl, HNF, HW, HBW, HTX, HSE, HNO⟩ := hrel
      generalize hwr : wr = w5 at *
      clear hwr wr w4
      have HFEW : Hid (F.length ≤ d.R.length) := Lib.hid (by have := HBW.out.few; rwa [List.length_map] at this)
      have HF0 : Hid (0 < F.length) := Lib.hid (by have := HBW.out.pos; rwa [List.length_map] at this)
      obtain ⟨ga, ca, rfl, h3⟩ := own_slice HW.out.fo
      obtain ⟨ga, rfl⟩ : ∃ g, ga = some ⟨g, 0, none⟩ := by
        rcases h3 with h3 | ⟨g, e, -⟩
        · have := HF0.out; omega
        · exact ⟨g, e⟩
      clear h3
      by_cases hlt : n < F.length
      · have hdd : decide ((n : Int) < (F.length : Int)) = true := decide_eq_true (by omega)
        have hd2 : decide (n < F.length) = true := decide_eq_true hlt
        have hni : (n : Int) < (F.length : Int) := by omega
        have HN := Lib.hid hlt
        obtain ⟨c1, -, -⟩ := own_vis HW.out.fo n hlt
        have HQN : Hid ((gv F n).1 < d.R.length) := Lib.hid (by
          rw [← gv_fst]
          exact HBW.out.qlt _ (getD_mem (by rw [List.length_map]; exact hlt)))
        have HGQ := Lib.hid (gv_fst F n)
        obtain ⟨hx5, hm5, -⟩ := HQ.out _ HW.out.below
        have c258 := hx5.c258
        obtain ⟨bb, oo, hxb, hcb⟩ := hm5.fl (gv F n).1 (by rw [HR.out.fl]; exact HQN.out)
        have hqF : ((gv F n).1 : Int) < (d.F.length : Int) := by have := HQN.out; rw [HR.out.fl]; omega
        have HXB := Lib.hid hxb
        have HM5 := Lib.hid hm5
        have HX5 := Lib.hid hx5
        have HTXT := Lib.hid (text_any ga ca n F T w5 (own_vis HW.out.fo) HTX.out hlt (by have := HFEW.out; have := HRN.out; omega) (HBW.out.byte n (by rw [List.length_map]; exact hlt)) (by have := HBW.out.short n (by rw [List.length_map]; exact hlt); have := HFEW.out; have := HRN.out; omega))
        clear hlt hm5 hx5
        rw [HXB.out] at c258
        have HWC : Hid (Below s w w5) := Lib.hid (HBs2.out.trans (HW.out.below.mono HSQ.out))
        have HFN : Hid (∀ b, d.F.getD (gv F n).1 false = b → d.F.getD ((F.map (·.1)).getD n 0) false = b) := Lib.hid (fun b hb => by rw [HGQ.out]; exact hb)
        cases hfin : d.F.getD (gv F n).1 false with
        | true =>
          have HFT := Lib.hid (HFN.out _ hfin)
          rw [hfin] at hcb
          have HBE := Lib.hid (HBW.out.found HL.out (by rw [List.length_map]; exact HN.out) HFT.out HNO.out)
          clear hfin HFN hxb
          generalize (gv F n).1 = qn at *
          go_wp2_with (go_at_call 31; refine HTXT.out.mono ?_; rintro e w6 ⟨⟨t, rfl, ht⟩, hb6⟩; have HTT := Lib.hid ht; have HB6 := Lib.hid hb6; clear ht hb6)
          go_ret2
          exact ⟨⟨_, _, rfl, .inl ⟨rfl, HR.out, by rw [HTT.out]; exact HBE.out.1, by rw [HTT.out]; exact HBE.out.2⟩⟩, by rw [hs.out]; exact HWC.out.trans (HB6.out.mono (by have := HW.out.sz; have := HSQ.out; omega))⟩
        | false =>
          have HFT := Lib.hid (HFN.out _ hfin)
          rw [hfin] at hcb
          clear hfin HFN hxb HTXT
          obtain ⟨qn, hqn⟩ : ∃ qn, Hid ((gv F n).1 = qn) := ⟨_, Lib.hid rfl⟩
          rw [hqn.out] at c1 HQN hcb hqF HGQ
          obtain ⟨-, hm2, -⟩ := HQ.out _ (Below.refl _ _)
          obtain ⟨b2, o2, y, cy, hxa, hcr, hnr⟩ := hm2.nx qn HQN.out
          have hmem := getD_mem (l := d.R) (d := []) HQN.out
          have HROW : Hid ((d.R.getD qn []).length = nc) := Lib.hid (by have h9 := (HR.out.row _ hmem).1; rw [HDN.out] at h9; omega)
          rw [HROW.out] at hcr
          have HNR : Hid (∀ W, Below q w2 W → W.cell? ⟨b2, o2 + qn, none⟩ = some (.slice y nc cy) ∧ NumsIn W y (d.R.getD qn [])) := Lib.hid (fun W hb => by
            rw [← hq.out] at hb
            exact ⟨(hb.cell (World.block_lt_of_cell? _ _ hcr)).trans hcr, hnr.kept hb⟩)
          have HXA := Lib.hid hxa
          have c257 := HX5.out.c257
          rw [HXA.out] at c257
          have hcr5 := (HNR.out _ HW.out.below).1
          have hqR : (qn : Int) < (d.R.length : Int) := by have := HQN.out; omega
          have HGO : Hid (∀ k, k < nc → (d.R.getD qn []).getD k 0 = ((goD d qn (lead d.of k) : Nat) : Int) ∧ goD d qn (lead d.of k) < d.R.length) := Lib.hid (fun k hk => by
            obtain ⟨h1, h2⟩ := HL.out.lt k hk
            obtain ⟨-, h3, h4⟩ := HR.out.of HQN.out h1
            rw [h2] at h3
            exact ⟨h3, h4⟩)
          clear hm2 hcr hnr hmem hxa HM5
          go_upto_region 14 with fail
          clear c1 c258 hcb c257 hcr5 hqF hdd hd2 hni
          go_loopw [6, 50] (fun v i wr => ∃ (c : Nat) (F : List Vs) (T : List (List Nat)) (S : Nat → Bool), i = .int .i64 c ∧ Hid (c ≤ nc) ∧ Hid (n < F.length) ∧ Hid ((gv F n).1 = qn) ∧ Hid (WdI q q d.R.length w2 v F S wr) ∧ Hid (Bw d nc n c (F.map (·.1)) T) ∧ Hid (Txs F T) ∧ Hid (∀ k, k < d.R.length → (S k = true ↔ k ∈ F.map (·.1))) ∧ Hid (∀ j, j < n + 1 → d.F.getD ((F.map (·.1)).getD j 0) false = false)) (fun v i _ => ((nc : Int) - intOf i).toNat)
          case atStart =>
            exact ⟨0, F, T, S, rfl, Lib.hid (Nat.zero_le _), HN, hqn, HW, HBW, HTX, HSE, Lib.hid (fun j hj => by
              by_cases e : j < n
              · exact HNO.out j e
              · rw [show j = n by omega]; exact HFT.out)⟩
          case round =>
            clear HW HBW HTX HSE HNO HN hqn HF0 HFEW HX5 HXB HGQ HFT HWC HNF
            obtain ⟨c, F, T, S, rfl, HCN, HN, HQF, HW, HBW, HTX, HSE, HNO⟩ := hrel
            generalize hwr : wr = w6 at *
            clear hwr wr w5
            have HFEW : Hid (F.length ≤ d.R.length) := Lib.hid (by have := HBW.out.few; rwa [List.length_map] at this)
            have HF0 : Hid (0 < F.length) := Lib.hid (by have := HN.out; omega)
            by_cases hlt : c < nc
            · have hdd : decide ((c : Int) < (nc : Int)) = true := decide_eq_true (by omega)
              have hd2 : decide (c < nc) = true := decide_eq_true hlt
              have hci : (c : Int) < (nc : Int) := by omega
              have HC := Lib.hid hlt
              obtain ⟨b, o, hy, hcy⟩ := (HNR.out _ HW.out.below).2 c (by rw [HROW.out]; exact hlt)
              rw [(HGO.out c hlt).1] at hcy
              have HTO := Lib.hid (HGO.out c hlt).2
              have hyy := Lib.hid hy
              rw [hyy.out]
              obtain ⟨t, ht⟩ : ∃ t, Hid (goD d qn (lead d.of c) = t) := ⟨_, Lib.hid rfl⟩
              rw [ht.out] at hcy HTO
              have hti : (t : Int) < (d.R.length : Int) := by have := HTO.out; omega
              have hct := World.rowIs.cell HW.out.sn HTO.out
              have hft := World.rowIs.frozen HW.out.sn t
              have HW1 : Hid (wrap64 ((c : Int) + 1) = ((c + 1 : Nat) : Int)) := Lib.hid (nat_wrap (by have := HNC.out; omega))
              have HQD : Hid ((F.map (·.1)).getD n 0 = qn) := Lib.hid (by rw [gv_fst]; exact HQF.out)
              have HS1 := Lib.hid (meas9 hlt)
              clear hy hlt
              cases hst : S t with
              | true =>
                have HMT := Lib.hid ((HSE.out t HTO.out).1 hst)
                have HB2 := Lib.hid (HBW.out.skip HL.out (by rw [List.length_map]; exact HN.out) HC.out (by rw [HQD.out, ht.out]; exact HMT.out))
                rw [hst] at hct
                clear hst
                go_wp2_with fail
                go_roundw
                case rel => exact ⟨c + 1, F, T, S, by rw [HW1.out], Lib.hid HC.out, HN, HQF, HW, HB2, HTX, HSE, HNO⟩
                case measure => rw [HW1.out]; exact HS1.out
              | false =>
                have HMT : Hid (t ∉ F.map (·.1)) := Lib.hid (fun hm => by have := (HSE.out t HTO.out).2 hm; rw [hst] at this; cases this)
                have HB2 := Lib.hid (HBW.out.take HR.out HL.out (by rw [List.length_map]; exact HN.out) HC.out (by rw [HQD.out, ht.out]; exact HMT.out))
                have HT2 := Lib.hid (HTX.out.push HF0.out HN.out (k := t) (HL.out.lt c HC.out).1)
                rw [HQD.out, ht.out] at HB2
                rw [hst] at hct
                clear hst
                have HW2 := Lib.hid (HW.out.setS t true)
                obtain ⟨-, -, hl2⟩ := HQ.out _ HW2.out.below
                obtain ⟨b3, o3, c3, hk1, hk2⟩ := hl2 c HC.out
                have HLD := Lib.hid (HL.out.lt c HC.out).1
                clear hl2
                generalize hlc : lead d.of c = lc at *
                have HLC := Lib.hid hlc
                clear hlc
                go_upto_region 18 with fail
                clear hct hft hcy hdd hd2 hti
                generalize w6.setCell ⟨q, t, none⟩ (.bool true) = w7 at *
                have HSZ := Lib.hid HW2.out.sz
                have HFL : Hid (F.length ≤ 100000) := Lib.hid (by have h1 := HFEW.out; have h2 := HRN.out; omega)
                go_wp2_with (refine wpList_push 67 66 (.agg #[.int .i64 0, .int .i64 0, .int .u8 0]) 3 24 Tryd.underlying67 infoVs rfl (by decide) rfl (.tmp 63) (.tmp 73) rfl q _ F.length (vsL F) rfl HW2.out.fo (vs3 (t, n, lc)) _ rfl rfl (fun u hu => by simp [vs3] at hu; rcases hu with rfl | rfl | rfl <;> rfl) rfl HFL.out (by decide) HSZ.out ?_; intro v2 w8 ho2 hb2 ha2; have HW3 := Lib.hid (HW2.out.push ho2 hb2 ha2); clear ho2 hb2 ha2)
                go_roundw
                case rel =>
                  refine ⟨c + 1, F ++ [(t, n, lc)], T ++ [T.getD n [] ++ [lc]], _, by rw [HW1.out], Lib.hid HC.out, Lib.hid (by rw [List.length_append]; have := HN.out; omega), Lib.hid (by rw [show gv (F ++ [(t, n, lc)]) n = gv F n from getD_app _ _ _ HN.out]; exact HQF.out), HW3, Lib.hid (by rw [List.map_append]; exact HB2.out), HT2, Lib.hid (fun k hk => ?_), Lib.hid (fun j hj => ?_)⟩
                  · rw [List.map_append, List.mem_append]
                    by_cases e : k = t
                    · simp [e]
                    · simp only [e, if_false, HSE.out k hk, List.map_cons, List.map_nil, List.mem_singleton, or_false]
                  · rw [List.map_append, getD_app _ _ _ (by rw [List.length_map]; have := HN.out; omega)]
                    exact HNO.out j hj
                case measure => rw [HW1.out]; exact HS1.out
            · have hdd : decide ((c : Int) < (nc : Int)) = false := decide_eq_false (by omega)
              have hd2 : decide (c < nc) = false := decide_eq_false hlt
              have hcn : c = nc := by have := HCN.out; omega
              subst hcn
              have HBN := Lib.hid (HBW.out.next)
              have HW1 : Hid (wrap64 ((n : Int) + 1) = ((n + 1 : Nat) : Int)) := Lib.hid (nat_wrap (by have h1 := HN.out; have h2 := HFEW.out; have h3 := HRN.out; omega))
              have HS1 : Hid (((d.R.length : Int) + 1 - ((n + 1 : Nat) : Int)).toNat < ((d.R.length : Int) + 1 - (n : Int)).toNat) := Lib.hid (by have h1 := HN.out; have h2 := HFEW.out; omega)
              clear hlt
              go_wp2_with fail
              go_roundw
              case rel => exact ⟨n + 1, F, T, S, by rw [HW1.out], Lib.hid HN.out, HW, HBN, HTX, HSE, HNO⟩
              case measure => rw [HW1.out]; exact HS1.out
      · have hdd : decide ((n : Int) < (F.length : Int)) = false := decide_eq_false (by omega)
        have hd2 : decide (n < F.length) = false := decide_eq_false hlt
        have hnF : n = F.length := by have := HNF.out; omega
        have HNN : Hid (∀ u, byt u → takesD d u = false) := Lib.hid (fun u hu => by
          rw [takes_R HR.out]
          subst hnF
          exact Bw.none (Q := F.map (·.1)) (T := T) (by rw [List.length_map]; exact HBW.out) HL.out (fun j hj => HNO.out j (by rwa [List.length_map] at hj)) u hu)
        have HWC : Hid (Below s w w5) := Lib.hid (HBs2.out.trans (HW.out.below.mono HSQ.out))
        clear hlt hnF
        go_wp2_with fail
        go_ret2
        exact ⟨⟨_, _, rfl, .inr ⟨rfl, rfl, HNN.out⟩⟩, by rw [hs.out]; exact HWC.out⟩
end Sk
end Go.Proofs.YtmjjkamndlefmaaDoor
