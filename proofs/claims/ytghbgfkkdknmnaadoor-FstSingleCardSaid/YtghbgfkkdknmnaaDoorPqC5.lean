/- fst's Single. -/
import Derived.Test.YtghbgfkkdknmnaaDoorPqC4
import Derived.Test.YtghbgfkkdknmnaaDoorPqB3
namespace Go.Proofs.YtghbgfkkdknmnaaDoor
open Go.RowKit Sets Nf Fs
namespace Ft
theorem sub_one {k : Nat} (h : k ≤ 100000) : wrap64 (((k + 1 : Nat) : Int) - 1) = (k : Int) := by unfold wrap64; omega
theorem wrap_id {k : Nat} (h : k ≤ 100000) : wrap64 (k : Int) = (k : Int) := by unfold wrap64; omega
theorem sv_trimmed {m : Mc} (h : Rt m) : Sv m ↔ ¬ Bad (trimM m (useN m)) := by
  rw [← sv_trim h (useN_us h), sv_q]
  exact ⟨fun h => h.2, fun h2 => ⟨trim_right h, h2⟩⟩
set_option maxHeartbeats 12800000 in
set_option maxRecDepth 100000 in
theorem fsingle_any (x : Ma) (m : Mc) (w : World) (h : MAt w x m) (hf : Fine m) (hn : m.sp.length ≤ 100) (hT : Tab w) :
    Calls Tryd.prog 17 #[.agg (mc x m)] w fun e w' => ∃ b : Bool, e = .returned (.bool b) ∧ (b = true ↔ Sv m) ∧ Below w.heap.size w w' := by
  have HM := Lib.hid h
  have HF := Lib.hid hf
  have HN := Lib.hid hn
  have HT := Lib.hid hT
  have HTG : Hid (0 < w.heap.size) := Lib.hid (World.block_lt_of_cell? _ _ (hT 0 (by decide)))
  clear h hf hn hT
  go_enter Tryd.func17, Tryd.ntmps17
  go_upto_region 1 with fail
  have HX := Lib.hid (BoxM.new w x m)
  have HB := Lib.hid ((Below.refl w.heap.size w).alloc (Nat.le_refl _) (.cells (mc x m) 27))
  obtain ⟨B, hB⟩ : ∃ B, Hid (w.heap.size = B) := ⟨_, Lib.hid rfl⟩
  rw [hB.out] at HX ⊢
  generalize w.alloc (.cells (mc x m) 27) = w1 at *
  have HT1 := Lib.hid (HT.out.below HB.out HTG.out)
  have HM1 := Lib.hid (HM.out.kept HB.out)
  cases hr : rightM m with
  | false =>
    have HR : Hid (¬ Sv m) := Lib.hid (fun h => by have := (right_iff m).2 h.right; rw [hr] at this; cases this)
    have HTR := Lib.hid (trim_wrong x m w1 HM1.out HF.out hr)
    clear hr
    go_wp2_with (first
      | (refine wpList_load_mach rfl (.tmp 1) rfl B x m rfl HX.out ?_)
      | (go_at_call 23; refine HTR.out.mono ?_; rintro e w2 ⟨rfl, hb2⟩; have HB2 := Lib.hid hb2; clear hb2)
      | (refine wpList_lay_mach rfl (.tmp 3) (.tmp 11) rfl ⟨none, 0, none, 0, none, 0, none, 0⟩ ⟨[], [], [], [], false⟩ _ rfl rfl rfl ?_))
    go_ret
    exact ⟨false, rfl, ⟨fun h => (by cases h), fun h => absurd h HR.out⟩, (HB.out.trans (HB2.out.mono HB.out.size)).alloc (by rw [← hB.out] at HX; exact Nat.le_trans (Nat.le_of_lt HX.out.lt) HB2.out.size) _⟩
  | true =>
    have HR := Lib.hid ((right_iff m).1 hr)
    have HTR := Lib.hid (trim_any x m w1 HM1.out HF.out HR.out HT1.out)
    have HSV := Lib.hid (sv_trimmed HR.out)
    have HTF := Lib.hid (trim_fine HF.out HR.out (useN m))
    have HRT := Lib.hid (trim_right (U := useN m) HR.out)
    have HTN : Hid ((trimM m (useN m)).sp.length ≤ 100) := Lib.hid (Nat.le_trans (trim_many m (useN m)) HN.out)
    clear hr
    obtain ⟨t, ht⟩ : ∃ t, Hid (trimM m (useN m) = t) := ⟨_, Lib.hid rfl⟩
    rw [ht.out] at HTR HSV HTF HRT HTN
    go_upto_region 2 with (first
      | (refine wpList_load_mach rfl (.tmp 1) rfl B x m rfl HX.out ?_)
      | (go_at_call 23; refine HTR.out.mono ?_; rintro e w2 ⟨y, rfl, hy, hb2⟩; have HY := Lib.hid hy; have HB2 := Lib.hid hb2; clear hy hb2)
      | (refine wpList_lay_mach rfl (.tmp 3) (.tmp 11) rfl y t _ rfl rfl rfl ?_))
    have HA2 : Hid (Below w2.heap.size w2 (w2.alloc (.cells (mc y t) 27))) := Lib.hid ((Below.refl _ _).alloc (Nat.le_refl _) _)
    have HY2 := Lib.hid ((HY.out.stay HA2.out).mat)
    have HX3 := Lib.hid (BoxM.new w2 y t)
    have HBW := Lib.hid ((HB.out.trans (HB2.out.mono HB.out.size)).trans (HA2.out.mono (Nat.le_trans HB.out.size HB2.out.size)))
    obtain ⟨B3, hB3⟩ : ∃ B, Hid (w2.heap.size = B) := ⟨_, Lib.hid rfl⟩
    rw [hB3.out] at HX3 ⊢
    clear HX HTR HA2 HY HB2 HB HM1 HT1 hB3
    generalize w2.alloc (.cells (mc y t) 27) = w3 at *
    clear w2 w1
    have HT3 := Lib.hid (HT.out.below HBW.out HTG.out)
    have HBE := Lib.hid (begin_any y t w3 HY2.out HRT.out HTF.out HTN.out HT3.out)
    go_upto_region 5 with (first
      | (refine wpList_load_mach rfl (.tmp 3) rfl B3 y t rfl HX3.out ?_)
      | (go_at_call 30; refine HBE.out.mono ?_; rintro e w4 ⟨mb, gF, gM, gB, gO, sv0, rfl, hq4, hb4⟩; have HQ4 := Lib.hid hq4; have HB4 := Lib.hid hb4; clear hq4 hb4))
    obtain ⟨s, hs⟩ : ∃ s, Hid (w3.heap.size = s) := ⟨_, Lib.hid rfl⟩
    have HX4 := Lib.hid (bxStay HX3.out HB4.out)
    have HB3 : Hid (B3 < s) := Lib.hid (by rw [← hs.out]; exact HX3.out.lt)
    have HML : Hid (∀ W, Below s w3 W → MLow s W y t) := Lib.hid (fun W hW => MLow.of HY2.out (Nat.le_of_eq hs.out) (by rw [hs.out]; exact hW))
    have HLA : Hid (∀ W, Below s w3 W → BoolsIn W y.la t.la) := Lib.hid (fun W hW => (HY2.out.kept (by rw [hs.out]; exact hW)).la)
    have HTB : Hid (∀ W, Below s w3 W → Tab W) := Lib.hid (fun W hW => HT3.out.below (B := s) hW (by rw [← hs.out]; exact Nat.lt_of_lt_of_le HTG.out HBW.out.size))
    have HGS : Hid (0 < s) := Lib.hid (by rw [← hs.out]; exact Nat.lt_of_lt_of_le HTG.out HBW.out.size)
    have HBS : Hid (∀ W, Below s w3 W → Below w.heap.size w W) := Lib.hid (fun W hW => HBW.out.trans (hW.mono (by rw [← hs.out]; exact HBW.out.size)))
    rw [hs.out] at HQ4 HB4
    have HSI : Hid (SInv t (begL t st0 (t.fi.map Int.toNat)) ∧ Fit t (begL t st0 (t.fi.map Int.toNat)) ∧ ∀ p ∈ (begL t st0 (t.fi.map Int.toNat)).op, p.1 < t.sp.length ∧ p.2 < t.sp.length) := Lib.hid (by
      have hmem : ∀ k, k ∈ t.fi.map Int.toNat ↔ (grp t.fi).testBit k = true := fun k => by
        unfold grp
        rw [ofN_testBit, List.contains_iff_mem]
      have h1 := beg_inv HRT.out hmem
      have h2 := begL_ln HTN.out (t.fi.map Int.toNat) st0 (fun k hk => grp_lt HRT.out.fiR ((hmem k).1 hk))
      have h3 := h2.len
      exact ⟨h1, ⟨h1.snd, by simpa [st0] using Nat.le_trans (Nat.le_add_right _ _) h3⟩, h2.sml (fun p hp => by cases hp)⟩)
    have HQ5 : Hid (∃ sv S, SeAt s mb gF gM gB gO y t sv S w4 ∧ SInv t S ∧ Fit t S ∧ ∀ p ∈ S.op, p.1 < t.sp.length ∧ p.2 < t.sp.length) := Lib.hid ⟨sv0, _, HQ4.out, HSI.out⟩
    clear HQ4 HSI HBE HX3 HBW HT3
    go_loopw [] (fun wr => Hid (∃ sv S, SeAt s mb gF gM gB gO y t sv S wr ∧ SInv t S ∧ Fit t S ∧ ∀ p ∈ S.op, p.1 < t.sp.length ∧ p.2 < t.sp.length) ∧ Hid (BoxM wr B3 y t) ∧ Hid (Below s w3 wr)) (fun wr => leftW s mb gF gM gB gO y t wr)
    case atStart => exact ⟨HQ5, HX4, HB4⟩
    case round =>
      obtain ⟨HQE, HX, HBL⟩ := hrel
      generalize hwr : wr = w5 at *
      clear hwr wr HQ5 HX4 HB4 w4
      obtain ⟨sv, S, hq, hi, hft, hsm⟩ := HQE.out
      have HQ := Lib.hid hq
      have HI := Lib.hid hi
      have HFT := Lib.hid hft
      have HSM := Lib.hid hsm
      clear hq hi hft hsm HQE
      rcases List.eq_nil_or_concat S.op with ho | ⟨op, p, ho⟩
      · have HSE : Hid (Sv m) := Lib.hid (HSV.out.2 (HI.out.fine HRT.out ho))
        have c9 : w5.cell? ⟨mb, 9, none⟩ = some sv := HQ.out.cell 9 _ rfl
        obtain ⟨a, c, hsv, -⟩ := own_slice HQ.out.own
        rw [hsv, ho] at c9
        clear ho hsv
        go_wp2_with fail
        go_ret
        exact ⟨true, rfl, ⟨fun _ => HSE.out, fun _ => rfl⟩, HBS.out _ HBL.out⟩
      · have HO : Hid (S.op = op ++ [p]) := Lib.hid (by rw [ho, List.concat_eq_append])
        clear ho
        obtain ⟨g, c, hsv, hg, hrange, hpop, hkc⟩ := HQ.out.top HO.out
        have HKL : Hid (op.length ≤ 51200) := Lib.hid (by have h1 := HFT.out.op; rw [HO.out, List.length_append] at h1; omega)
        have HPM : Hid (p.1 < t.sp.length ∧ p.2 < t.sp.length) := Lib.hid (HSM.out p (by rw [HO.out]; simp))
        obtain ⟨k, hk⟩ : ∃ k, Hid (op.length = k) := ⟨_, Lib.hid rfl⟩
        rw [hk.out] at hsv hrange hkc HKL
        have HRG := Lib.hid hrange
        have HPO := Lib.hid hpop
        have HGL := Lib.hid hg
        have hsub := sub_one (k := k) (by have := HKL.out; omega)
        have hwk := wrap_id (k := k) (by have := HKL.out; omega)
        have hgt : decide (0 < (k : Int) + 1) = true := decide_eq_true (by omega)
        have hkk : (k : Int) < (k : Int) + 1 := by omega
        have hk0 : 0 ≤ (k : Int) := by omega
        have c9 : w5.cell? ⟨mb, 9, none⟩ = some (.slice (some ⟨g, 0, none⟩) (k + 1) c) := by rw [← hsv]; exact HQ.out.cell 9 _ rfl
        have HSVE := Lib.hid hsv
        have HMB := Lib.hid HQ.out.lt
        have HSW5 : Hid (s ≤ w5.heap.size) := Lib.hid (by rw [← hs.out]; exact HBL.out.size)
        clear hrange hpop hg hsv
        go_upto_region 6 with fail
        refine region_mix [(false, 0), (false, 1), (false, 2), (false, 3), (false, 4), (false, 5), (false, 6), (false, 7), (false, 8), (false, 9), (false, 10), (false, 11), (true, 12)] (fun w' => Below w5.heap.size w5 w') (by kernel_rfl) (by kernel_rfl) ((Below.refl _ _).drew) ?_
        simp only [planOps, List.map_cons, List.map_nil, List.getD_cons_zero, List.getD_cons_succ, List.length_cons, List.length_nil, List.drop_succ_cons, List.drop_zero]
        refine mix_seg (seg := [_, _, _, _, _, _, _, _, _, _, _, _]) rfl ((Below.refl _ _).drew) ?_
        intro ι hι F hF
        have f1 := fun n => ((hF n).cell (p := ⟨mb, 9, none⟩) HMB.out).trans c9
        have f2 := Lib.hid (fun n => range_kept HRG.out (hF n) HGL.out)
        clear hF
        iterate 11 (go_big_quiet_step (fail))
        refine BigFrame.wpQuiet_want rfl (fun K hK => ?_); refine quiet_load_mid 62 _ rfl g (k * 2) (by first | rfl | (simp; done)) (prC p).toList _ (fun w' ⟨n, e⟩ => e ▸ f2.out n) Tryd.underlying62 rfl (sizePrL p) ?_; refine hK _ ?_; clear hK K; simp only [Act.put, List.setIfInBounds_toArray, List.set_cons_zero, List.set_cons_succ]
        rw [show (prC p).toList.toArray = prC p from rfl]
        refine wpQuiet_nil ?_
        clear f1 f2 hι F
        have HBD : Hid (Below w5.heap.size w5 w5.drew) := Lib.hid ((Below.refl _ _).drew)
        refine mix_eff (fun K hK => ?_)
        go_wp2_with fail
        refine mix_on hK (HBD.out.alloc (Nat.le_refl _) _) ?_
        clear hK K
        show wpList _ _ _ _ _ _
        have HBA : Hid (Below w5.heap.size w5 ((w5.alloc (.cells #[.int .i64 0, .int .i64 0] 62)).drew)) := Lib.hid (((Below.refl _ _).alloc (Nat.le_refl _) _).drew)
        have HZR : Hid (((w5.alloc (.cells #[.int .i64 0, .int .i64 0] 62)).drew).heap[w5.heap.size]? = some (.cells #[.int .i64 0, .int .i64 0] 62 (0, 0))) := Lib.hid (heap_alloc_new w5 _)
        have HZS : Hid (w5.heap.size < ((w5.alloc (.cells #[.int .i64 0, .int .i64 0] 62)).drew).heap.size) := Lib.hid (Array.getElem?_eq_some_iff.1 HZR.out).1
        generalize (w5.alloc (.cells #[.int .i64 0, .int .i64 0] 62)).drew = w6 at *
        go_wp2_with (refine wpList_store_row rfl 62 (.tmp 6) (.tmp 34) rfl w5.heap.size (prC p) rfl rfl 62 _ HZR.out (sizePr p) rfl (onePr p) ?_)
        refine NoPanic.normal ?_
        have HPB : Hid (PrB (w6.setRow w5.heap.size (prC p)) w5.heap.size p) := Lib.hid ⟨setRow_heap _ _ _ _ _ _ HZR.out⟩
        have HB6 : Hid (Below w5.heap.size w5 (w6.setRow w5.heap.size (prC p))) := Lib.hid (But.below HBA.out (But.setRow _ _ _) (Nat.le_refl _) (Nat.le_of_lt HZS.out))
        have HQ6 := Lib.hid (HQ.out.stay HB6.out HSW5.out)
        have HX6 := Lib.hid (bxStay HX.out HB6.out)
        have HBL6 := Lib.hid (HBL.out.trans (HB6.out.mono HSW5.out))
        have HPO6 := Lib.hid (own_stay HPO.out HB6.out)
        have HOB : Hid (∀ q, sv.ownBlock = some q → q < w5.heap.size) := Lib.hid (fun q hq => (HQ.out.own.lt q hq).2)
        have HLTS : Hid (mb < w5.heap.size ∧ gB < w5.heap.size ∧ gO < w5.heap.size) := Lib.hid ⟨HQ.out.lt, HQ.out.mapB.lt, HQ.out.mapO.lt⟩
        have HLE := Lib.hid (leftW_eq HQ.out)
        obtain ⟨b6, hb6⟩ : ∃ b, Hid (w5.heap.size = b) := ⟨_, Lib.hid rfl⟩
        have HB6S : Hid (s ≤ b6) := Lib.hid (by rw [← hb6.out]; exact HSW5.out)
        have HOF6 : Hid (Off mb gB gO sv b6) := Lib.hid (by
          rw [← hb6.out]
          have h := HLTS.out
          exact ⟨by omega, by omega, by omega, fun e => by have := HOB.out _ e; omega⟩)
        have HSW6 : Hid (s ≤ (w6.setRow w5.heap.size (prC p)).heap.size) := Lib.hid (Nat.le_trans HSW5.out HB6.out.size)
        rw [hb6.out] at HPB HSW6 HQ6 HX6 HBL6 HPO6 ⊢
        generalize w6.setRow b6 (prC p) = w7 at *
        clear HBA HZR HZS HB6 HQ HX HBL HPO HSW5 HMB HRG HGL HBD c9 hb6 HOB HLTS w6
        have c9 : w7.drew.cell? ⟨mb, 9, none⟩ = some (.slice (some ⟨g, 0, none⟩) (k + 1) c) := by rw [← HSVE.out]; exact HQ6.out.cell 9 _ rfl
        go_upto_region 7 with fail
        refine region_mix [(false, 0), (false, 1), (false, 2), (false, 3), (false, 4), (false, 5), (false, 6), (false, 7), (false, 8), (false, 9), (false, 10), (false, 11), (false, 12), (false, 13)] (fun w' => w' = w7.drew) (by kernel_rfl) (by kernel_rfl) rfl ?_
        simp only [planOps, List.map_cons, List.map_nil, List.getD_cons_zero, List.getD_cons_succ, List.length_cons, List.length_nil, List.drop_succ_cons, List.drop_zero]
        refine mix_seg (seg := [_, _, _, _, _, _, _, _, _, _, _, _, _, _]) (rest := []) rfl rfl ?_
        intro ι hι F hF
        have f1 : ∀ n, (F n).cell? ⟨mb, 9, none⟩ = some (.slice (some ⟨g, 0, none⟩) (k + 1) c) := fun n => by rw [hF n]; exact c9
        clear hF
        have hkc2 : (k : Int) ≤ (c : Int) := by omega
        have hkc3 : k ≤ c := by omega
        iterate 14 (go_big_quiet_step (fail))
        refine wpQuiet_nil ?_
        clear f1 hι F
        show wpList _ _ _ _ _ _
        have HD7 : Hid (Below w7.heap.size w7 w7.drew) := Lib.hid ((Below.refl _ _).drew)
        have HQ8 := Lib.hid (HQ6.out.stay HD7.out HSW6.out)
        have HX8 := Lib.hid (bxStay HX6.out HD7.out)
        have HPB8 := Lib.hid (HPB.out.stay HD7.out)
        have HPO8 := Lib.hid (own_stay HPO6.out HD7.out)
        have HBL8 := Lib.hid (HBL6.out.trans (HD7.out.mono HSW6.out))
        have HSW8 : Hid (s ≤ w7.drew.heap.size) := Lib.hid HSW6.out
        clear HD7 HQ6 HX6 HPB HPO6 HBL6 HSW6
        generalize w7.drew = w8 at *
        clear w7
        have z9 : w8.frozen? ⟨mb, 9, none⟩ = false := frozen_of_row w8 _ 9 _ _ HQ8.out.row
        rw [hk.out] at HPO8
        have HPP := Lib.hid (HQ8.out.pop (op := op) HSW8.out (sv2 := .slice (some ⟨g, 0, none⟩) k c) (by rw [hk.out]; exact HPO8.out) (by rw [HSVE.out]; rfl))
        have HPB9 : Hid (PrB (w8.setCell ⟨mb, 9, none⟩ (.slice (some ⟨g, 0, none⟩) k c)) b6 p) := Lib.hid (HPB8.out.of (HPP.out.2.keep HOF6.out HPB8.out.lt))
        have HX9 : Hid (BoxM (w8.setCell ⟨mb, 9, none⟩ (.slice (some ⟨g, 0, none⟩) k c)) B3 y t) := Lib.hid (HX8.out.kept (HPP.out.2.below HSW8.out HQ8.out.low.1 HQ8.out.low.2.2.2.1 HQ8.out.low.2.2.2.2 (fun q hq => (HQ8.out.own.lt q hq).1)) HB3.out)
        have HBL9 : Hid (Below s w3 (w8.setCell ⟨mb, 9, none⟩ (.slice (some ⟨g, 0, none⟩) k c))) := Lib.hid (HBL8.out.trans (HPP.out.2.below HSW8.out HQ8.out.low.1 HQ8.out.low.2.2.2.1 HQ8.out.low.2.2.2.2 (fun q hq => (HQ8.out.own.lt q hq).1)))
        have HOF9 := Lib.hid (HPP.out.2.off HOF6.out HPB8.out.lt)
        have HQ9 := Lib.hid HPP.out.1
        have HSW9 : Hid (s ≤ (w8.setCell ⟨mb, 9, none⟩ (.slice (some ⟨g, 0, none⟩) k c)).heap.size) := Lib.hid (Nat.le_trans HSW8.out HPP.out.2.size)
        go_wp2_with fail
        refine NoPanic.normal ?_
        clear HPP HQ8 HPB8 HX8 HBL8 HPO8 HSW8 HOF6 c9 z9
        generalize w8.setCell ⟨mb, 9, none⟩ (.slice (some ⟨g, 0, none⟩) k c) = w9 at *
        go_upto_region 8 with fail
        clear hsub hwk hgt hkk hk0 hkc2 hkc3 hkc w8
        have HD9 : Hid (Below w9.heap.size w9 w9.drew) := Lib.hid ((Below.refl _ _).drew)
        have HQA := Lib.hid (HQ9.out.stay HD9.out HSW9.out)
        have HXA := Lib.hid (bxStay HX9.out HD9.out)
        have HPA := Lib.hid (HPB9.out.stay HD9.out)
        have HBLA := Lib.hid (HBL9.out.trans (HD9.out.mono HSW9.out))
        have HSWA : Hid (s ≤ w9.drew.heap.size) := Lib.hid HSW9.out
        refine region_mix [(false, 0), (false, 1), (false, 2), (false, 3), (false, 4), (false, 5)] (fun w' => w' = w9.drew) (by kernel_rfl) (by kernel_rfl) rfl ?_
        clear HD9 HQ9 HX9 HPB9 HBL9 HSW9
        generalize w9.drew = wA at *
        clear w9
        simp only [planOps, List.map_cons, List.map_nil, List.getD_cons_zero, List.getD_cons_succ, List.length_cons, List.length_nil, List.drop_succ_cons, List.drop_zero]
        refine mix_seg (seg := [_, _, _, _, _, _]) (rest := []) rfl rfl ?_
        intro ι hι F hF
        have f1 : ∀ n, (F n).cell? ⟨mb, 7, none⟩ = some (.map (some gB)) := fun n => by rw [hF n]; exact HQA.out.cell 7 _ rfl
        have f2 := Lib.hid (fun n => (PrB.of HPA.out (by rw [hF n]) : PrB (F n) b6 p))
        have f3 : ∀ n, (Instr.lookup 57 (.map (some gB)) (.agg (prC p)) false).run Tryd.prog (F n) = .ok (.int .i64 (S.B p : Nat)) (F n) := fun n => by rw [hF n]; exact HQA.out.mapB.look p
        clear hF
        iterate 4 (go_big_quiet_step (fail))
        refine BigFrame.wpQuiet_want rfl (fun K hK => ?_); refine quiet_load_row 62 _ rfl b6 rfl 62 (prC p) (0, 0) _ (fun w' ⟨n, e⟩ => e ▸ (f2.out n).row) Tryd.underlying62 rfl (sizePr p) ?_; refine hK _ ?_; clear hK K; simp only [Act.put, List.setIfInBounds_toArray, List.set_cons_zero, List.set_cons_succ]
        iterate 1 (go_big_quiet_step (fail))
        refine wpQuiet_nil ?_
        clear f1 f2 f3 hι F
        show wpList _ _ _ _ _ _
        go_wp2_with fail
        refine NoPanic.normal ?_
        go_upto_region 9 with fail
        have HQ2 : Hid (Q2 t (S.B p) p.1 p.2) := Lib.hid (HI.out.snd.b p (HI.out.snd.o p (by rw [HO.out]; simp)))
        have HBD : Hid ((S.B p = 2 ∧ t.la.getD p.1 false = true ∧ t.la.getD p.2 false = true) → ¬ Sv m) := Lib.hid (fun h hs => HSV.out.1 hs (HI.out.bad (by rw [HO.out]; simp) h))
        have HST : Hid (¬ (S.B p = 2 ∧ t.la.getD p.1 false = true ∧ t.la.getD p.2 false = true) → SInv t (goP t p.2 (S.B p) ⟨S.B, S.O, op⟩ (lN t p.1))) := Lib.hid (fun h => HI.out.step HRT.out HO.out h (fun k => lN_mem t p.1 k))
        have HFT2 : Hid (Fit t ⟨S.B, S.O, op⟩) := Lib.hid ⟨⟨HI.out.snd.b, fun q hq => HI.out.snd.o q (by rw [HO.out]; exact List.mem_append_left _ hq)⟩, by
          have h1 := HFT.out.2
          rw [HO.out, List.length_append] at h1
          show op.length ≤ sumP S.B 25600
          have h2 : sumS S = sumP S.B 25600 := rfl
          omega⟩
        have HLNK : Hid (∀ k ∈ lN t p.1, (foN t p.1).testBit k = true ∧ k < t.sp.length) := Lib.hid (fun k hk => by
          have hk := (lN_mem t p.1 k).1 hk
          exact ⟨hk, fo_lt HRT.out hk⟩)
        have HLN := Lib.hid (goP_ln HTN.out (b := p.2) (how := S.B p) (lN t p.1) ⟨S.B, S.O, op⟩ (fun k hk => (HLNK.out k hk).2))
        have HFT3 : Hid (Fit t (goP t p.2 (S.B p) ⟨S.B, S.O, op⟩ (lN t p.1))) := Lib.hid (Fit.goP HTN.out HQ2.out (lN t p.1) ⟨S.B, S.O, op⟩ HFT2.out HLNK.out)
        have HSM3 : Hid (∀ q ∈ (goP t p.2 (S.B p) ⟨S.B, S.O, op⟩ (lN t p.1)).op, q.1 < t.sp.length ∧ q.2 < t.sp.length) := Lib.hid (HLN.out.sml (fun q hq => HSM.out q (by rw [HO.out]; exact List.mem_append_left _ hq)))
        have HMS : Hid (leftS (goP t p.2 (S.B p) ⟨S.B, S.O, op⟩ (lN t p.1)) < leftS S) := Lib.hid (left_lt HO.out HLN.out HFT3.out.1)
        have HGO := Lib.hid (goOn_any s mb gF gM gB gO y t (.slice (some ⟨g, 0, none⟩) k c) ⟨S.B, S.O, op⟩ p (S.B p) wA HQA.out HSWA.out HTN.out HRT.out HTF.out (HML.out _ HBLA.out) HPM.out.1 HPM.out.2 HFT2.out HQ2.out (HTB.out _ HBLA.out) HGS.out)
        obtain ⟨lb, lo, hla, l1⟩ := HLA.out wA HBLA.out p.1 (by rw [HRT.out.lal]; exact HPM.out.1)
        obtain ⟨lb', lo', hla', l2⟩ := HLA.out wA HBLA.out p.2 (by rw [HRT.out.lal]; exact HPM.out.2)
        rw [hla] at hla'
        injection hla' with hla'
        injection hla' with e1 e2
        subst e1; subst e2
        have cx := HXA.out.c3
        rw [hla] at cx
        have cp0 := HPA.out.c0
        have cp1 := HPA.out.c1
        have hp1 : ((p.1 : Nat) : Int) < (t.la.length : Int) := by rw [HRT.out.lal]; have := HPM.out.1; omega
        have hp2 : ((p.2 : Nat) : Int) < (t.la.length : Int) := by rw [HRT.out.lal]; have := HPM.out.2; omega
        obtain ⟨b1, hb1⟩ : ∃ b1 : Bool, Hid (decide (S.B p = 2) = b1) := ⟨_, Lib.hid rfl⟩
        have hbe : (((S.B p : Nat) : Int) == 2) = b1 := by
          rw [← hb1.out, Bool.eq_iff_iff, beq_iff_eq, decide_eq_true_eq]
          omega
        obtain ⟨b2, hb2⟩ : ∃ b2 : Bool, Hid (t.la.getD p.1 false = b2) := ⟨_, Lib.hid rfl⟩
        obtain ⟨b3, hb3⟩ : ∃ b3 : Bool, Hid (t.la.getD p.2 false = b3) := ⟨_, Lib.hid rfl⟩
        rw [hb2.out] at l1 HBD HST
        rw [hb3.out] at l2 HBD HST
        have HB2 : Hid (S.B p = 2 ↔ b1 = true) := Lib.hid (by rw [← hb1.out, decide_eq_true_eq])
        rw [HB2.out] at HBD HST
        clear hb1 hb2 hb3 HB2 HI HFT HSM HFT2 HLNK HLN HQ2 HO HPM HKL hla
        generalize goP t p.2 (S.B p) ⟨S.B, S.O, op⟩ (lN t p.1) = S2 at *
        generalize S.B p = how at *
        have h4 : (b1 = true ∧ b2 = true ∧ b3 = true) ∨ b1 = false ∨ (b1 = true ∧ b2 = false) ∨ (b1 = true ∧ b2 = true ∧ b3 = false) := by cases b1 <;> cases b2 <;> cases b3 <;> simp
        rcases h4 with ⟨rfl, rfl, rfl⟩ | rfl | ⟨rfl, rfl⟩ | ⟨rfl, rfl, rfl⟩
        · have HNS := Lib.hid (HBD.out ⟨rfl, rfl, rfl⟩)
          clear HBD HST
          go_wp2_with fail
          go_ret
          first
            | exact .inl ⟨rfl, HNS.out, HBS.out _ HBLA.out⟩
            | exact ⟨false, rfl, ⟨fun h => (by cases h), fun h => absurd h HNS.out⟩, HBS.out _ HBLA.out⟩
        all_goals
          have HSI2 := Lib.hid (HST.out (by simp))
          clear HBD HST
          go_wp2_with (first
            | (refine wpList_load_row rfl 62 (.tmp 6) rfl b6 rfl 62 (prC p) (0, 0) _ HPA.out.row Tryd.underlying62 rfl (sizePr p) ?_)
            | (go_at_call 31; refine HGO.out.mono ?_; rintro e w10 ⟨rfl, sv2, hq10, hf10⟩; have HQ10 := Lib.hid hq10; have HF10 := Lib.hid hf10; clear hq10 hf10))
          have HBLW : Hid (Below s wA w10) := Lib.hid (HF10.out.below HSWA.out HQA.out.low.1 HQA.out.low.2.2.2.1 HQA.out.low.2.2.2.2 (fun q hq => (HQA.out.own.lt q hq).1))
          go_roundw
          case rel => exact ⟨Lib.hid ⟨sv2, S2, HQ10.out, HSI2.out, HFT3.out, HSM3.out⟩, Lib.hid (HXA.out.kept HBLW.out HB3.out), Lib.hid (HBLA.out.trans HBLW.out)⟩
          case measure => rw [HLE.out, leftW_eq HQ10.out]; exact HMS.out
end Ft
end Go.Proofs.YtghbgfkkdknmnaaDoor
