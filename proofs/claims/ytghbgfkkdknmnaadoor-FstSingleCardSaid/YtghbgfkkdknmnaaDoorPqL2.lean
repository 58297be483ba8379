/- FstFields: the law's walk. -/
import Derived.Test.YtghbgfkkdknmnaaDoorPqL1
namespace Go.Proofs.YtghbgfkkdknmnaaDoor
open Go.RowKit Sets Nf Fs
namespace Ft
theorem wpList_load_machG {ops : Array Oper} {rest : List Oper} {o : Oper} {a : Act} {w : World} {Q : Exit → Act → World → Prop} (hgd : Region.wanted o (yielded ops a.tmps) = true) (X : Operand) (ho : o.op = .load 27 X)
    (B : Nat) (x : Ma) (m : Mc) (hx : a.eval X = .pointer (some ⟨B, 0, none⟩)) (hc : BoxM w B x m) (h : wpList Tryd.prog ops Q rest (a.put o.dst (.agg (mc x m))) w) : wpList Tryd.prog ops Q (o :: rest) a w :=
  BigFrame.wpList_want hgd (fun _ hK => wp_load_row 27 X ho B hx 27 (mc x m) (0, 0) _ hc.row Tryd.underlying27 rfl (sizeMach x m) (hK _ _ h))
set_option maxHeartbeats 6400000 in
set_option maxRecDepth 100000 in
theorem ffld_any (x : Ma) (m : Mc) (s : ByteArray) (w : World) (h : UnM w x m) (hT : Tab w) :
    Calls Tryd.prog 8 #[.agg (mc x m), .string s] w fun e w' => e = .returned (.bool true) ∧ Below w.heap.size w w' := by
  have HG : Hid (0 < w.heap.size) := Lib.hid (World.block_lt_of_cell? _ _ (hT 0 (by decide)))
  have HU := Lib.hid h
  have HT := Lib.hid hT
  clear h hT
  go_enter Tryd.func8, Tryd.ntmps8
  go_upto_region 1 with fail
  have HX := Lib.hid (BoxM.new w x m)
  have HB := Lib.hid ((Below.refl w.heap.size w).alloc (Nat.le_refl _) (.cells (mc x m) 27))
  generalize w.alloc (.cells (mc x m) 27) = w1 at *
  have HM1 := Lib.hid (HU.out.1.kept HB.out)
  have HR := Lib.hid (ngreat_any x m w1 HM1.out.fo)
  have HAW := Lib.hid (fun w' (h : Below w.heap.size w w') => awake14_any w' (HT.out.below h HG.out))
  have HMW := Lib.hid (fun w' (h : Below w.heap.size w w') => HU.out.1.kept (w' := w') h)
  have HTW := Lib.hid (fun w' (h : Below w.heap.size w w') => HT.out.below (w' := w') h HG.out)
  generalize hBq : w.heap.size = B at *
  have HBq := Lib.hid hBq
  clear hBq
  have HBX := Lib.hid HX.out.lt
  have HSZ : Hid (∀ w', Below B w w' → B ≤ w'.heap.size) := Lib.hid (fun w' h => by rw [← HBq.out]; exact h.size)
  cases hgr : greatM m with
  | true =>
    rw [hgr] at HR
    clear hgr
    go_wp2_with (first
      | (refine wpList_load_mach rfl (.tmp 2) rfl B x m rfl HX.out ?_)
      | (go_at_call 9; refine HR.out.mono ?_; rintro e w2 ⟨rfl, hb2⟩; have HB2 := Lib.hid (HB.out.trans (hb2.mono (Nat.le_of_lt HBX.out))); clear hb2; have HA2 := Lib.hid (HAW.out w2 HB2.out))
      | (go_at_call 10; refine HA2.out.mono ?_; rintro e w3 ⟨rfl, hb3⟩; have HB3 := Lib.hid (HB2.out.trans (hb3.mono (HSZ.out _ HB2.out))); clear hb3))
    go_ret
    exact ⟨rfl, by rw [HBq.out]; exact HB3.out⟩
  | false =>
    rw [hgr] at HR
    have HF := Lib.hid (HU.out.2 hgr)
    clear hgr
    by_cases hs : 100 < s.size
    · have hd : decide ((100 : Int) < (s.size : Int)) = true := decide_eq_true (by omega)
      have hd' : decide (100 < s.size) = true := decide_eq_true hs
      clear hs
      go_wp2_with (first
        | (refine wpList_load_mach rfl (.tmp 2) rfl B x m rfl HX.out ?_)
        | (go_at_call 9; refine HR.out.mono ?_; rintro e w2 ⟨rfl, hb2⟩; have HB2 := Lib.hid (HB.out.trans (hb2.mono (Nat.le_of_lt HBX.out))); clear hb2; have HA2 := Lib.hid (HAW.out w2 HB2.out))
        | (go_at_call 10; refine HA2.out.mono ?_; rintro e w3 ⟨rfl, hb3⟩; have HB3 := Lib.hid (HB2.out.trans (hb3.mono (HSZ.out _ HB2.out))); clear hb3))
      go_ret
      exact ⟨rfl, by rw [HBq.out]; exact HB3.out⟩
    · have hd : decide ((100 : Int) < (s.size : Int)) = false := decide_eq_false (by omega)
      have hd' : decide (100 < s.size) = false := decide_eq_false hs
      have HS : Hid (s.size ≤ 1000) := Lib.hid (by omega)
      clear hs
      go_upto_region 3 with (first
        | (refine wpList_load_mach rfl (.tmp 2) rfl B x m rfl HX.out ?_)
        | (go_at_call 9; refine HR.out.mono ?_; rintro e w2 ⟨rfl, hb2⟩; have HX2 := Lib.hid (HX.out.kept hb2 HBX.out); have HB2 := Lib.hid (HB.out.trans (hb2.mono (Nat.le_of_lt HBX.out))); clear hb2))
      have HA := Lib.hid (fmarks_any x m s w2 (HMW.out _ HB2.out) HF.out HS.out (HTW.out _ HB2.out))
      unfold MEnd at HA
      go_upto_region 4 with (first
        | (refine wpList_load_mach rfl (.tmp 2) rfl B x m rfl HX2.out ?_)
        | (go_at_call 11; refine HA.out.mono ?_; rintro e w3 ⟨v, L, rfl, hy, h1, h2, hb3⟩; have HY := Lib.hid hy; have H1 := Lib.hid h1; have H2 := Lib.hid h2; have HB3 := Lib.hid (HB2.out.trans (hb3.mono (HSZ.out _ HB2.out))); have HX3 := Lib.hid (bxStay HX2.out hb3); clear hy h1 h2 hb3))
      have HLL : Hid (L.length ≤ s.size) := Lib.hid (by have h1 := tells_len H1.out H2.out; rw [Nf.bs_len] at h1; exact h1)
      have HR3 := Lib.hid (frun_any x m s w3 (HMW.out _ HB3.out) HF.out HS.out (HTW.out _ HB3.out))
      unfold REnd at HR3
      clear HA HX2 HB2 HR
      go_upto_region 5 with (first
        | (refine wpList_load_mach rfl (.tmp 2) rfl B x m rfl HX3.out ?_)
        | (go_at_call 14; refine HR3.out.mono ?_; rintro e w4 ⟨L2, hS, pS, rfl, h1, h2, h3, h4, hb4⟩; have H1' := Lib.hid h1; have H2' := Lib.hid h2; have H3' := Lib.hid h3; have H4' := Lib.hid h4; have HB4 := Lib.hid hb4; clear h1 h2 h3 h4 hb4)
        | (refine wpList_store_row rfl 35 (.tmp 7) (.tmp 27) rfl w4.heap.size (pcV (takesM m (Nf.bs s)) hS pS) rfl rfl 35 _ (heap_alloc_new w4 _) (sizePa _ _ _) rfl (by simp [pcV, Value.oneCell']) ?_; rw [World.setRow_alloc_new]))
      rw [hput]
      have HEL : Hid (L2 = L) := Lib.hid (tells_one H1'.out H2'.out H1.out H2.out)
      rw [HEL.out] at H3' H4'
      have HA4 : Hid (Below w4.heap.size w4 (w4.alloc (.cells (pcV (takesM m (Nf.bs s)) hS pS) 35))) := Lib.hid ((Below.refl _ _).alloc (Nat.le_refl _) _)
      have HB5 := Lib.hid (HB3.out.trans ((HB4.out.trans (HA4.out.mono HB4.out.size)).mono (HSZ.out _ HB3.out)))
      have HX5 := Lib.hid (bxStay (bxStay HX3.out HB4.out) HA4.out)
      have HRW := Lib.hid (heap_alloc_new w4 (.cells (pcV (takesM m (Nf.bs s)) hS pS) 35))
      obtain ⟨va, vc, hv, HLC⟩ : ∃ va vc, v = .slice va L.length vc ∧ Hid (∀ i, i < L.length → ∃ b o, va = some ⟨b, o, none⟩ ∧ (w4.alloc (.cells (pcV (takesM m (Nf.bs s)) hS pS) 35)).cell? ⟨b, o + i, none⟩ = some (.int .u8 (L.getD i 0 : Nat))) := by
        obtain ⟨-, -, va, vc, hv, hc⟩ := HY.out.kept (HB4.out.trans (HA4.out.mono HB4.out.size))
        exact ⟨va, vc, hv, Lib.hid hc⟩
      subst hv
      obtain ⟨kb, hkb⟩ : ∃ kb, Hid (w4.heap.size = kb) := ⟨_, Lib.hid rfl⟩
      rw [hkb.out] at HRW ⊢
      generalize w4.alloc (.cells (pcV (takesM m (Nf.bs s)) hS pS) 35) = w5 at *
      clear HY H1 H2 H1' H2' HEL HA4 HB4 HB3 HX3 HR3 hkb w4 w3
      obtain ⟨tk, htk⟩ : ∃ tk, Hid (takesM m (Nf.bs s) = tk) := ⟨_, Lib.hid rfl⟩
      rw [htk.out] at HRW ⊢
      go_upto_region 7 with fail
      go_loopw [8, 9, 10] (fun hv pv i wr => ∃ (j : Nat) (h p : ByteArray), hv = .string h ∧ pv = .string p ∧ i = .int .i64 j ∧ j ≤ L.length ∧ Hid (Nf.bs h = flM (Nf.bs s) L 1 j) ∧ Hid (Nf.bs p = flM (Nf.bs s) L 2 j) ∧ w5 = wr) (fun _ _ i _ => ((L.length : Int) - intOf i).toNat)
      case atStart => exact ⟨0, ⟨#[]⟩, ⟨#[]⟩, rfl, rfl, rfl, Nat.zero_le _, Lib.hid rfl, Lib.hid rfl, rfl⟩
      case round =>
        obtain ⟨j, h, p, rfl, rfl, rfl, hj, HH, HP, rfl⟩ := hrel
        by_cases hlt : j < L.length
        · have hdd : decide ((j : Int) < (L.length : Int)) = true := decide_eq_true (by omega)
          have hd2 : decide (j < L.length) = true := decide_eq_true hlt
          have hjl : (j : Int) < (L.length : Int) := by omega
          have hjx : (j : Int) < (s.size : Int) := by have := HLL.out; omega
          have hd5 : decide ((j : Int) < (s.size : Int)) = true := decide_eq_true hjx
          have hd6 : decide (j < s.size) = true := decide_eq_true (by omega)
          have HW1 : Hid (wrap64 ((j : Int) + 1) = ((j + 1 : Nat) : Int)) := Lib.hid (nat_wrap (by have h1 := HLL.out; have h2 := HS.out; omega))
          have hw1 := nat_wrap (j := j) (by have h1 := HLL.out; have h2 := HS.out; omega)
          have HJ := Lib.hid hlt
          obtain ⟨b, o, rfl, hc⟩ := HLC.out j hlt
          have HO1 := Lib.hid (bs_one s j (by have := HLL.out; omega))
          have HF1 : Hid (flM (Nf.bs s) L 1 (j + 1) = if L.getD j 0 = 1 then flM (Nf.bs s) L 1 j ++ [(Nf.bs s).getD j 0] else flM (Nf.bs s) L 1 j) := Lib.hid rfl
          have HF2 : Hid (flM (Nf.bs s) L 2 (j + 1) = if L.getD j 0 = 2 then flM (Nf.bs s) L 2 j ++ [(Nf.bs s).getD j 0] else flM (Nf.bs s) L 2 j) := Lib.hid rfl
          have hjs : ((j + 1 : Nat) : Int) ≤ (s.size : Int) := by have := HLL.out; omega
          have hjs2 : decide (((j + 1 : Nat) : Int) ≤ (s.size : Int)) = true := decide_eq_true hjs
          have hjw : (j : Int) < 1000 := by have h1 := HLL.out; have h2 := HS.out; omega
          have hjw2 : j < 1000 := by omega
          have hh9 : h.size ≤ 1000 := by have h1 := flM_len (Nf.bs s) L 1 j; rw [← HH.out, Nf.bs_len] at h1; omega
          have hp9 : p.size ≤ 1000 := by have h1 := flM_len (Nf.bs s) L 2 j; rw [← HP.out, Nf.bs_len] at h1; omega
          have hz9 : (s.extract j (j + 1)).size = 1 := by rw [← Nf.bs_len, HO1.out]; rfl
          have hsl : ∀ w, (Instr.slice 9 (.string s) (some (.int .i64 (j : Int))) (some (.int .i64 ((j : Int) + 1))) none).run Tryd.prog w = .ok (.string (s.extract j (j + 1))) w := fun w => by
            have := run_slice_string (P := Tryd.prog) w 9 s .i64 .i64 (j : Int) ((j : Int) + 1) Tryd.underlying9 (by omega) (by omega) (by omega)
            rw [this, show ((j : Int) + 1).toNat = j + 1 from by omega, Int.toNat_natCast]
          obtain ⟨y, hy⟩ : ∃ y, Hid (L.getD j 0 = y) := ⟨_, Lib.hid rfl⟩
          rw [hy.out] at hc HF1 HF2
          clear hy hlt
          by_cases h1 : y = 1
          · subst h1
            have HS2' : Hid (Nf.bs (h ++ s.extract j (j + 1)) = Nf.bs h ++ [(Nf.bs s).getD j 0]) := Lib.hid (by rw [Fs.bs_add, HO1.out])
            go_wp2_with fail
            generalize h ++ s.extract j (j + 1) = h2 at *
            go_roundw
            case rel => exact ⟨j + 1, h2, p, rfl, rfl, by first | rw [HW1.out] | rfl, HJ.out, Lib.hid (by rw [HS2'.out, HH.out, HF1.out]; simp), Lib.hid (by rw [HP.out, HF2.out, if_neg (by decide)]), by first | rfl | trivial⟩
            case measure => first | (rw [HW1.out]; exact meas9 HJ.out) | exact meas9 HJ.out
          · by_cases h2 : y = 2
            · subst h2
              clear h1
              have HS2' : Hid (Nf.bs (p ++ s.extract j (j + 1)) = Nf.bs p ++ [(Nf.bs s).getD j 0]) := Lib.hid (by rw [Fs.bs_add, HO1.out])
              go_wp2_with fail
              generalize p ++ s.extract j (j + 1) = p2 at *
              go_roundw
              case rel => exact ⟨j + 1, h, p2, rfl, rfl, by first | rw [HW1.out] | rfl, HJ.out, Lib.hid (by rw [HH.out, HF1.out, if_neg (by decide)]), Lib.hid (by rw [HS2'.out, HP.out, HF2.out]; simp), by first | rfl | trivial⟩
              case measure => first | (rw [HW1.out]; exact meas9 HJ.out) | exact meas9 HJ.out
            · have hq1 : ((y : Int) == 1) = false := by rw [beq_eq_false_iff_ne]; omega
              have hq2 : ((y : Int) == 2) = false := by rw [beq_eq_false_iff_ne]; omega
              have HN1 : Hid (flM (Nf.bs s) L 1 (j + 1) = flM (Nf.bs s) L 1 j) := Lib.hid (by rw [HF1.out, if_neg h1])
              have HN2 : Hid (flM (Nf.bs s) L 2 (j + 1) = flM (Nf.bs s) L 2 j) := Lib.hid (by rw [HF2.out, if_neg h2])
              clear h1 h2
              go_wp2_with fail
              go_roundw
              case rel => exact ⟨j + 1, h, p, rfl, rfl, by first | rw [HW1.out] | rfl, HJ.out, Lib.hid (by rw [HN1.out]; exact HH.out), Lib.hid (by rw [HN2.out]; exact HP.out), by first | rfl | trivial⟩
              case measure => first | (rw [HW1.out]; exact meas9 HJ.out) | exact meas9 HJ.out
        · have hdd : decide ((j : Int) < (L.length : Int)) = false := decide_eq_false (by omega)
          have hd2 : decide (j < L.length) = false := decide_eq_false hlt
          have HE : Hid (j = L.length) := Lib.hid (by omega)
          rw [HE.out] at HH HP
          have e1 : (hS.toList == h.toList) = true := by rw [bs_beq, H3'.out, HH.out]; simp
          have e2 : (pS.toList == p.toList) = true := by rw [bs_beq, H4'.out, HP.out]; simp
          have k0 : w5.cell? ⟨kb, 0, none⟩ = some (.bool tk) := by rw [cell_of_row w5 kb 0 _ _ _ HRW.out]; rfl
          have k1 : w5.cell? ⟨kb, 1, none⟩ = some (.string hS) := by rw [cell_of_row w5 kb 1 _ _ _ HRW.out]; rfl
          have k2 : w5.cell? ⟨kb, 2, none⟩ = some (.string pS) := by rw [cell_of_row w5 kb 2 _ _ _ HRW.out]; rfl
          have HRN := Lib.hid (nrun_any x m s w5 (HMW.out _ HB5.out) HF.out HS.out (HTW.out _ HB5.out))
          rw [htk.out] at HRN
          have HKB := Lib.hid (Array.getElem?_eq_some_iff.1 HRW.out).1
          go_wp2_with (first
            | (refine wpList_load_machG rfl (.tmp 2) rfl B x m rfl HX5.out ?_)
            | (go_at_call 20; refine HRN.out.mono ?_; rintro e w6 ⟨rfl, hb6⟩; have HB6 := Lib.hid (HB5.out.trans (hb6.mono (HSZ.out _ HB5.out))); have k61 := ((hb6.cell (p := ⟨kb, 1, none⟩) HKB.out).trans k1); have k62 := ((hb6.cell (p := ⟨kb, 2, none⟩) HKB.out).trans k2); have HA6 := Lib.hid (HAW.out w6 HB6.out); clear hb6)
            | (go_at_call 10; refine HA6.out.mono ?_; rintro e w7 ⟨rfl, hb7⟩; have HB7 := Lib.hid (HB6.out.trans (hb7.mono (HSZ.out _ HB6.out))); clear hb7))
          go_ret
          exact ⟨rfl, by rw [HBq.out]; exact HB7.out⟩
end Ft
end Go.Proofs.YtghbgfkkdknmnaaDoor
