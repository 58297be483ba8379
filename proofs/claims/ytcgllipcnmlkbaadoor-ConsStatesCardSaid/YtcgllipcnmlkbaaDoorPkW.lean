/- Several texts in one. -/
import Derived.Test.YtcgllipcnmlkbaaDoorPkT
namespace Go.Proofs.YtcgllipcnmlkbaaDoor
open Go.RowKit Sets Tr Rx Sp
theorem MkAt.set_fol {w : World} {B q n c : Nat} {nv sv : Value} {S F : List Nat} (h : MkAt w B nv sv (.slice (some ⟨q, 0, none⟩) n c) S F) (j x : Nat) :
    MkAt (w.setCell ⟨q, j, none⟩ (.int .u64 x)) B nv sv (.slice (some ⟨q, 0, none⟩) n c) S (F.set j x) ∧ Fr B w sv (.slice (some ⟨q, 0, none⟩) n c) (w.setCell ⟨q, j, none⟩ (.int .u64 x)) sv (.slice (some ⟨q, 0, none⟩) n c) := by
  have hq := h.of.lt q rfl
  have hof := h.of
  have hn : n = F.length := by
    obtain ⟨a, c', e⟩ := own_slice h.of
    injection e
  subst hn
  have hst := (World.ownsRow.stored hof j (.int .u64 x)).1
  have e : (u64L F).set j (.int .u64 x) = u64L (F.set j x) := by unfold u64L; rw [List.map_set]
  rw [e] at hst
  refine ⟨⟨h.row.kept (Below.heap_setCell _ _ _ _ (by simp only; omega)), own_kept h.os fun g hg => Below.heap_setCell _ _ _ _ (fun e => h.apart g hg (by rw [e]; rfl)), ?_⟩, ⟨⟨rfl, rfl, rfl, by simp, fun k hk => Below.heap_setCell _ _ _ _ (by simp only; omega)⟩, fun k _ _ _ hn => Below.heap_setCell _ _ _ _ (fun e => hn (by rw [e]; rfl)), fun _ h => .inl h, fun _ h => .inl h⟩⟩
  unfold OwnU
  rw [List.length_set]
  exact hst
theorem fol_cell {w : World} {B q c : Nat} {F : List Nat} (h : OwnU B w (.slice (some ⟨q, 0, none⟩) F.length c) F) {j : Nat} (hj : j < F.length) : w.cell? ⟨q, j, none⟩ = some (.int .u64 (F.getD j 0)) := by
  have := World.ownsRow.cellAt h j (by omega)
  rw [this]
  unfold u64L
  rw [List.getElem?_map, List.getElem?_eq_getElem hj, List.getD_eq_getElem?_getD, List.getElem?_eq_getElem hj]
  rfl
theorem sub_one (a : Nat) (h0 : a ≠ 0) (h : a < 18446744073709551616) : IntKind.u64.wrap ((a : Int) - 1) = ((a - 1 : Nat) : Int) := by
  rw [IntKind.wrap_u64]; omega
set_option maxHeartbeats 3200000 in
set_option maxRecDepth 100000 in
theorem link_any (B : Nat) (nv sv fv : Value) (S F : List Nat) (a x : Nat) (w : World) (h : MkAt w B nv sv fv S F) (hF : F.length ≤ 63) (ha : a < 2 ^ F.length) (hx : x < 18446744073709551616) (hf : ∀ y ∈ F, y < 18446744073709551616) (hT : Tab w) (hg : 0 < B) :
    Calls Tryd.prog 58 #[.pointer (some ⟨B, 0, none⟩), .int .u64 a, .int .u64 x] w fun e w' =>
      e = .returned (.tuple #[]) ∧ MkAt w' B nv sv fv S (orAt a x F) ∧ Fr B w sv fv w' sv fv := by
  have ha64 : a < 18446744073709551616 := Nat.lt_of_lt_of_le ha (Nat.le_trans (Nat.pow_le_pow_right (by decide) hF) (by decide))
  have HM := Lib.hid h
  have HA := Lib.hid ha
  have HF := Lib.hid hF
  have HFl := Lib.hid hf
  have HT := Lib.hid hT
  have hB := h.row.lt
  clear h hf ha hT
  go_enter Tryd.func58, Tryd.ntmps58
  go_wp2
  go_loopw [1] (fun v wr => ∃ (r : Nat) (D : List Nat), v = .int .u64 r ∧ r < 18446744073709551616 ∧ Hid (r < 2 ^ F.length) ∧ Hid (D.length = F.length) ∧ Hid (∀ y ∈ D, y < 18446744073709551616) ∧ Hid (orAt r x D = orAt a x F) ∧ Hid (MkAt wr B nv sv fv S D) ∧ Hid (Fr B w sv fv wr sv fv)) (fun v _ => (intOf v).toNat)
  case atStart => exact ⟨a, F, rfl, ha64, HA, Lib.hid rfl, HFl, Lib.hid rfl, HM, Lib.hid (Fr.refl _ _ hB)⟩
  case round =>
    obtain ⟨r, D, rfl, hr, HR, HL, HD, HO, HM1, HB1⟩ := hrel
    generalize hwr : wr = w1 at *
    clear hwr wr
    by_cases hz : r = 0
    · have hzb := eq_zero_b hz
      have HZ := Lib.hid hz
      clear hz
      go_wp2
      have e := HO.out
      rw [HZ.out, orAt_nil] at e
      refine bodyPost_end (results_none rfl _ _ _) rfl ⟨rfl, ?_, HB1.out⟩
      rw [← e]; exact HM1.out
    · have hzb := ne_zero_b hz
      have HZ := Lib.hid hz
      have HT1 := Lib.hid (HT.out.below HB1.out.below hg)
      have hk : Lib.ctz 64 r < F.length := by
        have h1 := (Lib.lowest_bit 64 r hz hr).1
        have h2 : (r &&& (2 ^ 64 - r)).testBit (Lib.ctz 64 r) = true := by rw [h1]; simp
        rw [Nat.testBit_and] at h2
        have h3 := (Bool.and_eq_true_iff.1 h2).1
        rcases Nat.lt_or_ge (Lib.ctz 64 r) F.length with h4 | h4
        · exact h4
        · rw [bit_hi HR.out h4] at h3; cases h3
      have hsub := sub_one r hz hr
      have hand := bits_and_u64_nat r (r - 1) hr (by omega)
      have HStep := Lib.hid (orAt_step (x := x) hz hr (by rw [HL.out]; exact hk))
      have hlt : r &&& (r - 1) < r := by
        have := Nat.and_le_right (n := r) (m := r - 1)
        omega
      have HLt := Lib.hid hlt
      clear hz hlt
      obtain ⟨q, c, hfv⟩ : ∃ q c, fv = .slice (some ⟨q, 0, none⟩) D.length c := by
        rcases HM1.out.of.2 with ⟨h1, h2⟩ | ⟨g, cap, cur, h1, -⟩
        · have := HL.out; omega
        · exact ⟨g, cap, h1⟩
      subst hfv
      generalize hkk : Lib.ctz 64 r = k at *
      have HKK := Lib.hid hkk
      clear hkk
      have hkD : k < D.length := by rw [HL.out]; exact hk
      have hdk : decide ((k : Int) < (D.length : Int)) = true := decide_eq_true (by omega)
      have hdk2 : decide (k < D.length) = true := decide_eq_true hkD
      have hy := HD.out (D.getD k 0) (by rw [List.getD_eq_getElem?_getD, List.getElem?_eq_getElem hkD]; exact List.getElem_mem hkD)
      have hor := bits_or_u64_nat (D.getD k 0) x hy hx
      have hcell := fol_cell HM1.out.of hkD
      obtain ⟨c0, c1, c2⟩ := HM1.out.row.cells
      have hql := (HM1.out.of.lt q rfl).2
      have hBl := HM1.out.row.lt
      have HM2 := Lib.hid (HM1.out.set_fol k (D.getD k 0 ||| x))
      have hfr := World.ownsRow.frozenAt HM1.out.of k
      generalize D.getD k 0 = y at *
      go_upto_if 8 with fail
      refine region_mix [(false, 0), (false, 1), (false, 2), (false, 3), (false, 4), (false, 8), (true, 5), (false, 6), (false, 7), (false, 9), (false, 10)] (fun w' => Below w1.heap.size w1 w') (by kernel_rfl) (by kernel_rfl) ((Below.refl _ _).drew) ?_
      simp only [planOps, List.map_cons, List.map_nil, List.getD_cons_zero, List.getD_cons_succ, List.length_cons, List.length_nil, List.drop_succ_cons, List.drop_zero]
      refine mix_seg (seg := [_, _, _, _, _, _]) rfl ((Below.refl _ _).drew) ?_
      intro ι hι F' hF'
      have g2 := fun n => ((hF' n).cell (p := ⟨B, 2, none⟩) hBl).trans c2
      repeat (go_big_quiet_step (fail))
      refine wpQuiet_nil ?_
      clear g2 hF' hι F'
      refine mix_eff (fun K hK => ?_)
      have HTD := Lib.hid (HT1.out.below ((Below.refl w1.heap.size w1).drew) (by omega))
      go_wp2_with (go_at_call 55; refine (tz_any _ _ hr HZ.out HTD.out).mono ?_; rintro e w' ⟨rfl, rfl⟩; rw [HKK.out])
      refine mix_on hK ((Below.refl _ _).drew) ?_
      clear hK K
      refine mix_seg (seg := [_, _, _, _]) rfl ((Below.refl _ _).drew) ?_
      intro ι hι F' hF'
      have gq := fun n => ((hF' n).cell (p := ⟨q, k, none⟩) hql).trans hcell
      repeat (go_big_quiet_step (fail))
      refine wpQuiet_nil ?_
      clear gq hF' hι F'
      show wpList _ _ _ _ _ _
      go_wp2
      refine NoPanic.normal ?_
      have hpi : (w1.setCell ⟨q, k, none⟩ (.int .u64 ((y ||| x : Nat) : Int))).drew.cell? ⟨B, 2, none⟩ = some (.slice (some ⟨q, 0, none⟩) D.length c) := HM2.out.1.row.cells.2.2
      go_wp2
      go_roundw
      case rel =>
        refine ⟨_, D.set k (y ||| x), rfl, Nat.lt_trans HLt.out hr, Lib.hid (Nat.lt_trans HLt.out HR.out), Lib.hid (by rw [List.length_set]; exact HL.out), Lib.hid (fun z hz => ?_), Lib.hid (HStep.out.trans HO.out), Lib.hid HM2.out.1.drewn, Lib.hid (HB1.out.trans HM2.out.2).drew⟩
        rcases List.mem_or_eq_of_mem_set hz with h | h
        · exact HD.out z h
        · rw [h]; exact Nat.or_lt_two_pow (n := 64) hy hx
      case measure => simp only [intOf]; have := HLt.out; omega
end Go.Proofs.YtcgllipcnmlkbaaDoor
namespace Go.Proofs.YtcgllipcnmlkbaaDoor
open Go.RowKit Sets Tr Rx Sp
set_option maxHeartbeats 3200000 in
set_option maxRecDepth 100000 in
theorem join_any (B : Nat) (nv sv fv : Value) (S F : List Nat) (fa la fb lb : Nat) (ea eb : Bool) (w : World) (h : MkAt w B nv sv fv S F) (hF : F.length ≤ 63) (h2 : la < 2 ^ F.length) (h1 : fa < 18446744073709551616) (h3 : fb < 18446744073709551616) (h4 : lb < 18446744073709551616)
    (hf : ∀ y ∈ F, y < 18446744073709551616) (hT : Tab w) (hg : 0 < B) :
    Calls Tryd.prog 47 #[.pointer (some ⟨B, 0, none⟩), .agg (en3 fa la ea), .agg (en3 fb lb eb)] w fun e w' =>
      e = .returned (.agg (en3 (fa ||| if ea then fb else 0) (lb ||| if eb then la else 0) (ea && eb))) ∧ MkAt w' B nv sv fv S (orAt la fb F) ∧ Fr B w sv fv w' sv fv := by
  have hla : la < 18446744073709551616 := Nat.lt_of_lt_of_le h2 (Nat.le_trans (Nat.pow_le_pow_right (by decide) hF) (by decide))
  have hB := h.row.lt
  have hb1 := (Below.refl w.heap.size w).alloc (Nat.le_refl _) (.cells #[.int .u64 fa, .int .u64 la, .bool ea] 80)
  have hb2 := hb1.alloc (by simp) (.cells #[.int .u64 fb, .int .u64 lb, .bool eb] 80)
  have hb3 := hb2.alloc (by simp; omega) (.cells #[.int .u64 0, .int .u64 0, .bool false] 80)
  have HM := Lib.hid (h.below hb3)
  have HB3 := Lib.hid (Fr.of_below sv fv hb3 hB)
  have HT := Lib.hid (hT.below hb3 (by omega))
  have HE0 : Hid (ERow (((w.alloc (.cells #[.int .u64 fa, .int .u64 la, .bool ea] 80)).alloc (.cells #[.int .u64 fb, .int .u64 lb, .bool eb] 80)).alloc (.cells #[.int .u64 0, .int .u64 0, .bool false] 80)) w.heap.size fa la ea) := Lib.hid (((ERow.new w fa la ea).below ((Below.refl _ _).alloc (Nat.le_refl _) (.cells #[.int .u64 fb, .int .u64 lb, .bool eb] 80))).below ((Below.refl _ _).alloc (Nat.le_refl _) (.cells #[.int .u64 0, .int .u64 0, .bool false] 80)))
  have HE1 : Hid (ERow (((w.alloc (.cells #[.int .u64 fa, .int .u64 la, .bool ea] 80)).alloc (.cells #[.int .u64 fb, .int .u64 lb, .bool eb] 80)).alloc (.cells #[.int .u64 0, .int .u64 0, .bool false] 80)) (w.alloc (.cells #[.int .u64 fa, .int .u64 la, .bool ea] 80)).heap.size fb lb eb) := Lib.hid ((ERow.new (w.alloc (.cells #[.int .u64 fa, .int .u64 la, .bool ea] 80)) fb lb eb).below ((Below.refl _ _).alloc (Nat.le_refl _) (.cells #[.int .u64 0, .int .u64 0, .bool false] 80)))
  have HE2 : Hid (ERow (((w.alloc (.cells #[.int .u64 fa, .int .u64 la, .bool ea] 80)).alloc (.cells #[.int .u64 fb, .int .u64 lb, .bool eb] 80)).alloc (.cells #[.int .u64 0, .int .u64 0, .bool false] 80)) ((w.alloc (.cells #[.int .u64 fa, .int .u64 la, .bool ea] 80)).alloc (.cells #[.int .u64 fb, .int .u64 lb, .bool eb] 80)).heap.size 0 0 false) := Lib.hid (ERow.new ((w.alloc (.cells #[.int .u64 fa, .int .u64 la, .bool ea] 80)).alloc (.cells #[.int .u64 fb, .int .u64 lb, .bool eb] 80)) 0 0 false)
  have HS : Hid ((((w.alloc (.cells #[.int .u64 fa, .int .u64 la, .bool ea] 80)).alloc (.cells #[.int .u64 fb, .int .u64 lb, .bool eb] 80)).alloc (.cells #[.int .u64 0, .int .u64 0, .bool false] 80)).heap.size = w.heap.size + 3) := Lib.hid (by simp)
  have HBW := Lib.hid hB
  have HLA := Lib.hid h2
  have HFB := Lib.hid h3
  have HFl := Lib.hid hf
  have HFL := Lib.hid hF
  rw [show (w.alloc (.cells #[.int .u64 fa, .int .u64 la, .bool ea] 80)).heap.size = w.heap.size + 1 from by simp] at HE1
  rw [show ((w.alloc (.cells #[.int .u64 fa, .int .u64 la, .bool ea] 80)).alloc (.cells #[.int .u64 fb, .int .u64 lb, .bool eb] 80)).heap.size = w.heap.size + 1 + 1 from by simp] at HE2
  have hor1 := bits_or_u64_nat fa fb h1 h3
  have hor2 := bits_or_u64_nat lb la h4 hla
  clear h hf hT hb1 hb2 hb3 hF h2
  unfold en3
  go_enter Tryd.func47, Tryd.ntmps47
  go_wp2_with fail
  generalize (((w.alloc (.cells #[.int .u64 fa, .int .u64 la, .bool ea] 80)).alloc (.cells #[.int .u64 fb, .int .u64 lb, .bool eb] 80)).alloc (.cells #[.int .u64 0, .int .u64 0, .bool false] 80)) = w1 at *
  refine (link_any B nv sv fv S F la fb w1 HM.out HFL.out HLA.out HFB.out HFl.out HT.out hg).mono ?_
  rintro e w2 ⟨rfl, hM2, hF2⟩
  have HM2 := Lib.hid hM2
  have HE02 := Lib.hid (HE0.out.fr HM.out hF2)
  have HE12 := Lib.hid (HE1.out.fr HM.out hF2)
  have HE22 := Lib.hid (HE2.out.fr HM.out hF2)
  have HB2 := Lib.hid (HB3.out.trans hF2)
  have HS2 : Hid (w.heap.size + 3 ≤ w2.heap.size) := Lib.hid (by have := hF2.below.size; rw [HS.out] at this; exact this)
  clear hM2 hF2 HE0 HE1 HE2 HB3 HM HT HS
  clear w1
  generalize hgb : w.heap.size = b at *
  have HGB := Lib.hid hgb
  clear hgb
  obtain ⟨a0, a1, a2⟩ := HE02.out.cells
  obtain ⟨b0, b1, b2⟩ := HE12.out.cells
  have l0 : b < w2.heap.size := HE02.out.lt
  have l1 : b + 1 < w2.heap.size := HE12.out.lt
  have l2 : b + 1 + 1 < w2.heap.size := HE22.out.lt
  have HX : Hid (∀ cs : Array Value, ERow (w2.alloc (.cells cs 80)) (b + 1 + 1) 0 0 false ∧ MkAt (w2.alloc (.cells cs 80)) B nv sv fv S (orAt la fb F) ∧ Fr B w sv fv (w2.alloc (.cells cs 80)) sv fv) := Lib.hid fun cs => by
    have hal := (Below.refl w2.heap.size w2).alloc (Nat.le_refl _) (.cells cs 80)
    exact ⟨HE22.out.below hal, HM2.out.below hal, HB2.out.trans (Fr.of_below sv fv hal (by omega))⟩
  have HFin : Hid (∀ (cs : Array Value) (f l : Nat) (e : Bool), MkAt ((w2.alloc (.cells cs 80)).setRow (b + 1 + 1) (en3 f l e)) B nv sv fv S (orAt la fb F) ∧ Fr B w sv fv ((w2.alloc (.cells cs 80)).setRow (b + 1 + 1) (en3 f l e)) sv fv) := Lib.hid fun cs f l e => by
    obtain ⟨h5, h6, h7⟩ := HX.out cs
    have ho := h6.off h5 (by decide) (by decide)
    exact ⟨h6.other (b + 1 + 1) _ (by omega) ho.1 ho.2, h7.setRow _ (by have := HGB.out; omega) (by have := HGB.out; omega)⟩
  cases ea <;> cases eb
  · go_wp2_with (refine wpList_put_ends rfl _ _ rfl (b + 1 + 1) 0 0 false fa lb false rfl rfl (HX.out _).1 ?_; intro hE7; have HE7 := Lib.hid hE7; clear hE7)
    refine bodyPost_ret (v := .agg (en3 fa lb false)) (results_cell_row (p := 6) Tryd.results47 _ _ (b + 1 + 1) 80 _ (0, 0) _ rfl HE7.out Tryd.underlying80 rfl (sizeEnds _ _ _)) rfl ⟨?_, (HFin.out _ _ _ _).1, (HFin.out _ _ _ _).2⟩
    simp [en3]
  · go_wp2_with (refine wpList_put_ends rfl _ _ rfl (b + 1 + 1) 0 0 false fa (lb ||| la) false rfl rfl (HX.out _).1 ?_; intro hE7; have HE7 := Lib.hid hE7; clear hE7)
    refine bodyPost_ret (v := .agg (en3 fa (lb ||| la) false)) (results_cell_row (p := 6) Tryd.results47 _ _ (b + 1 + 1) 80 _ (0, 0) _ rfl HE7.out Tryd.underlying80 rfl (sizeEnds _ _ _)) rfl ⟨?_, (HFin.out _ _ _ _).1, (HFin.out _ _ _ _).2⟩
    simp [en3]
  · go_wp2_with (refine wpList_put_ends rfl _ _ rfl (b + 1 + 1) 0 0 false (fa ||| fb) lb false rfl rfl (HX.out _).1 ?_; intro hE7; have HE7 := Lib.hid hE7; clear hE7)
    refine bodyPost_ret (v := .agg (en3 (fa ||| fb) lb false)) (results_cell_row (p := 6) Tryd.results47 _ _ (b + 1 + 1) 80 _ (0, 0) _ rfl HE7.out Tryd.underlying80 rfl (sizeEnds _ _ _)) rfl ⟨?_, (HFin.out _ _ _ _).1, (HFin.out _ _ _ _).2⟩
    simp [en3]
  · go_wp2_with (refine wpList_put_ends rfl _ _ rfl (b + 1 + 1) 0 0 false (fa ||| fb) (lb ||| la) true rfl rfl (HX.out _).1 ?_; intro hE7; have HE7 := Lib.hid hE7; clear hE7)
    refine bodyPost_ret (v := .agg (en3 (fa ||| fb) (lb ||| la) true)) (results_cell_row (p := 6) Tryd.results47 _ _ (b + 1 + 1) 80 _ (0, 0) _ rfl HE7.out Tryd.underlying80 rfl (sizeEnds _ _ _)) rfl ⟨?_, (HFin.out _ _ _ _).1, (HFin.out _ _ _ _).2⟩
    simp [en3]
end Go.Proofs.YtcgllipcnmlkbaaDoor
