/- The search's begin. (Written by tools/genFtN.py) -/
import Derived.Test.YtghbgfkkdknmnaaDoorPqC1
import Derived.Test.YtghbgfkkdknmnaaDoorPqC2
import Derived.Test.YtghbgfkkdknmnaaDoorPqA9
namespace Go.Proofs.YtghbgfkkdknmnaaDoor
open Go.RowKit Sets Nf Fs
namespace Ft
/-- What begin makes first. -/
structure Bg0 (s gF gM gB gO : Nat) (m : Mc) (w : World) : Prop where
  fol : GsB w gF (List.replicate m.sp.length 0)
  mee : GsB w gM (mtR m.sp m.sp.length 0)
  mapB : MapP w gB (fun _ => 0)
  mapO : MapP w gO (fun _ => 0)
  n1 : gF ≠ gM
  n2 : gB ≠ gO
  l1 : s ≤ gF
  l2 : s ≤ gM
  l3 : s ≤ gB
  l4 : s ≤ gO
theorem Bg0.stay {s gF gM gB gO : Nat} {m : Mc} {w w' : World} (h : Bg0 s gF gM gB gO m w) (hb : Below w.heap.size w w') : Bg0 s gF gM gB gO m w' :=
  ⟨h.fol.stay hb, h.mee.stay hb, h.mapB.stay hb, h.mapO.stay hb, h.n1, h.n2, h.l1, h.l2, h.l3, h.l4⟩
/-- The sets behind the spots, as far as they are made. -/
def fgR (m : Mc) (j : Nat) : List Nat := (List.range m.sp.length).map fun q => if q < j then foN m q else 0
theorem fgR_len (m : Mc) (j : Nat) : (fgR m j).length = m.sp.length := by unfold fgR; simp
theorem fgR_start (m : Mc) : fgR m 0 = List.replicate m.sp.length 0 := by
  unfold fgR
  refine List.ext_getElem (by simp) (fun q h1 h2 => ?_)
  simp
theorem fgR_end (m : Mc) : fgR m m.sp.length = foR m := by
  unfold fgR foR
  refine List.map_congr_left (fun q hq => ?_)
  rw [if_pos (List.mem_range.1 hq)]
theorem fgR_get (m : Mc) (j q : Nat) (h : q < m.sp.length) : (fgR m j).getD q 0 = if q < j then foN m q else 0 := by
  unfold fgR
  rw [List.getD_eq_getElem?_getD, List.getElem?_map, List.getElem?_range h]; rfl
theorem fgR_set (m : Mc) (j : Nat) : (fgR m j).set j (foN m j) = fgR m (j + 1) := by
  refine List.ext_getElem (by rw [List.length_set, fgR_len, fgR_len]) (fun q h1 h2 => ?_)
  rw [fgR_len] at h2
  have e := fgR_get m j q h2
  have e0 := fgR_get m (j + 1) q h2
  rw [List.getD_eq_getElem?_getD, List.getElem?_eq_getElem (by rw [fgR_len]; exact h2), Option.getD_some] at e e0
  rw [e0, List.getElem_set]
  by_cases hq : j = q
  · subst hq; rw [if_pos rfl, if_pos (Nat.lt_succ_self _)]
  · rw [if_neg hq, e]
    by_cases h3 : q < j
    · rw [if_pos h3, if_pos (by omega)]
    · rw [if_neg h3, if_neg (by omega)]
/-- The search in the making. -/
structure Bg1 (s B mb gF gM gB gO : Nat) (x : Ma) (m : Mc) (G : List Nat) (w : World) : Prop where
  row : w.heap[mb]? = some (.cells (seC x m gF gM gB gO (.slice none 0 0)) 60 (0, 0))
  fol : GsB w gF G
  mee : GsB w gM (mtR m.sp m.sp.length 0)
  mapB : MapP w gB (fun _ => 0)
  mapO : MapP w gO (fun _ => 0)
  box : BoxM w B x m
  n1 : gF ≠ gM
  n2 : gB ≠ gO
  l0 : s ≤ mb
  l1 : s ≤ gF
  l2 : s ≤ gM
  l3 : s ≤ gB
  l4 : s ≤ gO
theorem Bg1.stay {s B mb gF gM gB gO : Nat} {x : Ma} {m : Mc} {G : List Nat} {w w' : World} (h : Bg1 s B mb gF gM gB gO x m G w) (hb : Below w.heap.size w w') : Bg1 s B mb gF gM gB gO x m G w' :=
  ⟨(hb.block _ (Array.getElem?_eq_some_iff.1 h.row).1).trans h.row, h.fol.stay hb, h.mee.stay hb, h.mapB.stay hb, h.mapO.stay hb, bxStay h.box hb, h.n1, h.n2, h.l0, h.l1, h.l2, h.l3, h.l4⟩
theorem Bg1.set {s B mb gF gM gB gO : Nat} {x : Ma} {m : Mc} {G G' : List Nat} {w w' : World} (h : Bg1 s B mb gF gM gB gO x m G w) (hb : But gF w w') (hg : GsB w' gF G') : Bg1 s B mb gF gM gB gO x m G' w' := by
  obtain ⟨c1, h1⟩ := gs_row h.fol
  refine ⟨(hb.block _ (Array.getElem?_eq_some_iff.1 h.row).1 (fun e => ?_)).trans h.row, hg, h.mee.but hb h.n1.symm, h.mapB.of (hb.block _ h.mapB.lt (fun e => h.mapB.no_cells (by rw [e]; exact h1))), h.mapO.of (hb.block _ h.mapO.lt (fun e => h.mapO.no_cells (by rw [e]; exact h1))), bxBut h.box hb (fun e => ?_), h.n1, h.n2, h.l0, h.l1, h.l2, h.l3, h.l4⟩
  · rw [← e, h.row] at h1
    injection h1 with h1
    injection h1 with _ h2
    exact absurd h2 (by decide)
  · rw [← e, h.box.row] at h1
    injection h1 with h1
    injection h1 with _ h2
    exact absurd h2 (by decide)
theorem Bg1.cell {s B mb gF gM gB gO : Nat} {x : Ma} {m : Mc} {G : List Nat} {w : World} (h : Bg1 s B mb gF gM gB gO x m G w) (q : Nat) (u : Value) (hu : (seC x m gF gM gB gO (.slice none 0 0))[q]? = some u) : w.cell? ⟨mb, q, none⟩ = some u := by
  rw [cell_of_row w mb q _ _ _ h.row]; exact hu
theorem Bg1.lt {s B mb gF gM gB gO : Nat} {x : Ma} {m : Mc} {G : List Nat} {w : World} (h : Bg1 s B mb gF gM gB gO x m G w) : mb < w.heap.size := (Array.getElem?_eq_some_iff.1 h.row).1
def ap2 (i j : Nat) : Bool := (decide (i = 4 ∧ j = 7) || decide (i = 8 ∧ j = 9)) || (decide (j = 4 ∧ i = 7) || decide (j = 8 ∧ i = 9))
def RB (x : Ma) (m : Mc) (B s : Nat) : Nat → Value → World → Prop
  | 0, v, _ => v = .agg (mc x m)
  | 1, v, _ => v = .pointer (some ⟨B, 0, none⟩)
  | 2, v, _ => v = .slice x.sa m.sp.length x.sc
  | 3, v, _ => v = .int .i64 (m.sp.length : Nat)
  | 4, v, w => ∃ g, v = .slice (some ⟨g, 0, none⟩) m.sp.length m.sp.length ∧ s ≤ g ∧ GsB w g (List.replicate m.sp.length 0)
  | 5, v, _ => v = .pointer (some ⟨B, 0, none⟩)
  | 6, v, _ => v = .slice x.sa m.sp.length x.sc
  | 7, v, w => ∃ g, v = .slice (some ⟨g, 0, none⟩) m.sp.length m.sp.length ∧ s ≤ g ∧ GsB w g (mtR m.sp m.sp.length 0)
  | 8, v, w => ∃ g, v = .map (some g) ∧ s ≤ g ∧ MapP w g (fun _ => 0)
  | 9, v, w => ∃ g, v = .map (some g) ∧ s ≤ g ∧ MapP w g (fun _ => 0)
  | 10, v, w => ∃ gF gM gB gO, v = .agg (seC x m gF gM gB gO (.slice none 0 0)) ∧ Bg0 s gF gM gB gO m w
  | 11, v, w => ∃ mb gF gM gB gO, v = .pointer (some ⟨mb, 0, none⟩) ∧ s ≤ mb ∧ w.heap[mb]? = some (.cells (seC x m gF gM gB gO (.slice none 0 0)) 60 (0, 0)) ∧ Bg0 s gF gM gB gO m w
  | _, _, _ => True
theorem RB_mono (x : Ma) (m : Mc) (B s : Nat) (i : Nat) (v : Value) (w w' : World) (hb : Below w.heap.size w w') (h : RB x m B s i v w) : RB x m B s i v w' := by
  match i with
  | 0 => exact h
  | 1 => exact h
  | 2 => exact h
  | 3 => exact h
  | 4 => obtain ⟨g, e, h1, h2⟩ := h; exact ⟨g, e, h1, h2.stay hb⟩
  | 5 => exact h
  | 6 => exact h
  | 7 => obtain ⟨g, e, h1, h2⟩ := h; exact ⟨g, e, h1, h2.stay hb⟩
  | 8 => obtain ⟨g, e, h1, h2⟩ := h; exact ⟨g, e, h1, h2.stay hb⟩
  | 9 => obtain ⟨g, e, h1, h2⟩ := h; exact ⟨g, e, h1, h2.stay hb⟩
  | 10 => obtain ⟨gF, gM, gB, gO, e, h1⟩ := h; exact ⟨gF, gM, gB, gO, e, h1.stay hb⟩
  | 11 => obtain ⟨mb, gF, gM, gB, gO, e, h0, h1, h2⟩ := h; exact ⟨mb, gF, gM, gB, gO, e, h0, (hb.block _ (Array.getElem?_eq_some_iff.1 h1).1).trans h1, h2.stay hb⟩
  | n + 12 => exact h
def RBd (i : Nat) : Nat := i + 9
set_option maxHeartbeats 12800000 in
set_option maxRecDepth 100000 in
set_option linter.unusedSimpArgs false in
theorem begin_any (x : Ma) (m : Mc) (w : World) (h : MAt w x m) (hr : Rt m) (hf : Fine m) (hn : m.sp.length ≤ 100) (hT : Tab w) :
    Calls Tryd.prog 30 #[.agg (mc x m)] w fun e w' => ∃ mb gF gM gB gO sv, e = .returned (.pointer (some ⟨mb, 0, none⟩)) ∧ SeAt w.heap.size mb gF gM gB gO x m sv (begL m st0 (m.fi.map Int.toNat)) w' ∧ Below w.heap.size w w' := by
  have HM := Lib.hid h
  have HR := Lib.hid hr
  have HF := Lib.hid hf
  have HN := Lib.hid hn
  have HT := Lib.hid hT
  have HTG : Hid (0 < w.heap.size) := Lib.hid (World.block_lt_of_cell? _ _ (hT 0 (by decide)))
  have HNL : Hid (m.sp.length ≤ 250) := Lib.hid hr.many
  have HSS : Hid (∀ s ∈ m.sp, s.1 < 2 ^ 256) := Lib.hid (fun s hs => (hf.set s hs).1)
  clear h hr hf hn hT
  go_enter Tryd.func30, Tryd.ntmps30
  go_upto_region 1 with fail
  have HX := Lib.hid (BoxM.new w x m)
  have HB0 := Lib.hid ((Below.refl w.heap.size w).alloc (Nat.le_refl _) (.cells (mc x m) 27))
  obtain ⟨B, hB⟩ : ∃ B, Hid (w.heap.size = B) := ⟨_, Lib.hid rfl⟩
  rw [hB.out] at HX ⊢
  generalize w.alloc (.cells (mc x m) 27) = w1 at *
  obtain ⟨s, hs⟩ : ∃ s, Hid (B = s) := ⟨_, Lib.hid rfl⟩
  have HSB : Hid (s ≤ w1.heap.size) := Lib.hid (by rw [← hs.out]; exact Nat.le_of_lt HX.out.lt)
  have HMM : Hid (∀ W, Below w1.heap.size w1 W → MAt W x m) := Lib.hid (fun W hW => HM.out.kept (HB0.out.trans (hW.mono HB0.out.size)))
  refine Rinv.region_inv5 (RB x m B s) ap2 12 RBd (by intro i j; unfold ap2; rw [Bool.or_comm]) (by intro i; unfold ap2; simp; omega) (by kernel_rfl) (by kernel_rfl) ?_ (RB_mono x m B s) ?_ ?_
  · intro j hj
    have : j = 0 ∨ j = 1 ∨ j = 2 ∨ j = 3 ∨ j = 4 ∨ j = 5 ∨ j = 6 ∨ j = 7 ∨ j = 8 ∨ j = 9 ∨ j = 10 ∨ j = 11 := by omega
    rcases this with rfl | rfl | rfl | rfl | rfl | rfl | rfl | rfl | rfl | rfl | rfl | rfl <;> rfl
  · intro i hi D X w' hB hDw hDR hDN K hK
    have HK := Lib.hid hK
    have HBW := Lib.hid hB
    have HDW := Lib.hid hDw
    have HDR := Lib.hid hDR
    have HDN := Lib.hid hDN
    clear hK hB hDw hDR hDN
    have hi' : i = 0 ∨ i = 1 ∨ i = 2 ∨ i = 3 ∨ i = 4 ∨ i = 5 ∨ i = 6 ∨ i = 7 ∨ i = 8 ∨ i = 9 ∨ i = 10 ∨ i = 11 := by omega
    rcases hi' with rfl | rfl | rfl | rfl | rfl | rfl | rfl | rfl | rfl | rfl | rfl | rfl
    · simp only [List.getD_cons_zero]
      have HXX := Lib.hid (bxStay HX.out HBW.out)
      simp only [Rinv.putAll, RBd, Act.put, Nat.reduceEqDiff, Nat.reduceAdd, if_true, if_false, List.setIfInBounds_toArray, List.set_cons_zero, List.set_cons_succ]
      go_wp2_with (refine wpList_load_mach rfl (.tmp 1) rfl B x m rfl HXX.out ?_)
      exact HK.out _ _ (.agg (mc x m)) (by simp only [Rinv.putAll, RBd, Act.put, Nat.reduceEqDiff, Nat.reduceAdd, if_true, if_false, List.setIfInBounds_toArray, List.set_cons_zero, List.set_cons_succ]) (Below.refl _ _) (rfl) (fun j hj _ h => absurd h (by unfold ap2; simp))
    · simp only [List.getD_cons_zero, List.getD_cons_succ]
      simp only [Rinv.putAll, RBd, Act.put, Nat.reduceEqDiff, Nat.reduceAdd, if_true, if_false, List.setIfInBounds_toArray, List.set_cons_zero, List.set_cons_succ]
      go_wp2_with fail
      exact HK.out _ _ (.pointer (some ⟨B, 0, none⟩)) (by simp only [Rinv.putAll, RBd, Act.put, Nat.reduceEqDiff, Nat.reduceAdd, if_true, if_false, List.setIfInBounds_toArray, List.set_cons_zero, List.set_cons_succ]) (Below.refl _ _) (rfl) (fun j hj _ h => absurd h (by unfold ap2; simp))
    · simp only [List.getD_cons_zero, List.getD_cons_succ]
      have hd1 := HDW.out 1 (by decide) (by unfold Rinv.waits; kernel_rfl)
      have hr1 : RB x m B s 1 (X 1) w' := HDR.out 1 (by decide) hd1
      have e1 : X 1 = _ := hr1
      clear hr1
      clear hd1
      have c0 := (bxStay HX.out HBW.out).c0
      simp only [Rinv.putAll, RBd, Act.put, Nat.reduceEqDiff, Nat.reduceAdd, if_true, if_false, List.setIfInBounds_toArray, List.set_cons_zero, List.set_cons_succ, e1]
      go_wp2_with fail
      exact HK.out _ _ (.slice x.sa m.sp.length x.sc) (by simp only [Rinv.putAll, RBd, Act.put, Nat.reduceEqDiff, Nat.reduceAdd, if_true, if_false, List.setIfInBounds_toArray, List.set_cons_zero, List.set_cons_succ, e1]) (Below.refl _ _) (rfl) (fun j hj _ h => absurd h (by unfold ap2; simp))
    · simp only [List.getD_cons_zero, List.getD_cons_succ]
      have hd2 := HDW.out 2 (by decide) (by unfold Rinv.waits; kernel_rfl)
      have hr2 : RB x m B s 2 (X 2) w' := HDR.out 2 (by decide) hd2
      have e2 : X 2 = _ := hr2
      clear hr2
      clear hd2
      simp only [Rinv.putAll, RBd, Act.put, Nat.reduceEqDiff, Nat.reduceAdd, if_true, if_false, List.setIfInBounds_toArray, List.set_cons_zero, List.set_cons_succ, e2]
      go_wp2_with fail
      exact HK.out _ _ (.int .i64 (m.sp.length : Nat)) (by simp only [Rinv.putAll, RBd, Act.put, Nat.reduceEqDiff, Nat.reduceAdd, if_true, if_false, List.setIfInBounds_toArray, List.set_cons_zero, List.set_cons_succ, e2]) (Below.refl _ _) (rfl) (fun j hj _ h => absurd h (by unfold ap2; simp))
    · simp only [List.getD_cons_zero, List.getD_cons_succ]
      have hd3 := HDW.out 3 (by decide) (by unfold Rinv.waits; kernel_rfl)
      have hr3 : RB x m B s 3 (X 3) w' := HDR.out 3 (by decide) hd3
      have e3 : X 3 = _ := hr3
      clear hr3
      clear hd3
      simp only [Rinv.putAll, RBd, Act.put, Nat.reduceEqDiff, Nat.reduceAdd, if_true, if_false, List.setIfInBounds_toArray, List.set_cons_zero, List.set_cons_succ, e3]
      go_wp2_with (refine wpList_make_sets rfl (.tmp 12) (.tmp 12) rfl m.sp.length rfl rfl (by have := HNL.out; omega) ?_)
      exact HK.out _ _ (.slice (some ⟨w'.heap.size, 0, none⟩) m.sp.length m.sp.length) (by simp only [Rinv.putAll, RBd, Act.put, Nat.reduceEqDiff, Nat.reduceAdd, if_true, if_false, List.setIfInBounds_toArray, List.set_cons_zero, List.set_cons_succ, e3]) ((Below.refl _ _).alloc (Nat.le_refl _) _) (⟨_, rfl, Nat.le_trans HSB.out HBW.out.size, GsB.new _ _⟩) (fun j hj hD h => by
        have hj2 : j = 7 := by unfold ap2 at h; simp at h; omega
        subst hj2
        obtain ⟨g7, e7, -, h7⟩ : RB x m B s 7 (X 7) w' := HDR.out 7 (by decide) hD
        rw [e7]
        intro e
        injection e with e
        injection e with e
        injection e with e
        have := h7.lt
        omega)
    · simp only [List.getD_cons_zero, List.getD_cons_succ]
      simp only [Rinv.putAll, RBd, Act.put, Nat.reduceEqDiff, Nat.reduceAdd, if_true, if_false, List.setIfInBounds_toArray, List.set_cons_zero, List.set_cons_succ]
      go_wp2_with fail
      exact HK.out _ _ (.pointer (some ⟨B, 0, none⟩)) (by simp only [Rinv.putAll, RBd, Act.put, Nat.reduceEqDiff, Nat.reduceAdd, if_true, if_false, List.setIfInBounds_toArray, List.set_cons_zero, List.set_cons_succ]) (Below.refl _ _) (rfl) (fun j hj _ h => absurd h (by unfold ap2; simp))
    · simp only [List.getD_cons_zero, List.getD_cons_succ]
      have hd5 := HDW.out 5 (by decide) (by unfold Rinv.waits; kernel_rfl)
      have hr5 : RB x m B s 5 (X 5) w' := HDR.out 5 (by decide) hd5
      have e5 : X 5 = _ := hr5
      clear hr5
      clear hd5
      have c0 := (bxStay HX.out HBW.out).c0
      simp only [Rinv.putAll, RBd, Act.put, Nat.reduceEqDiff, Nat.reduceAdd, if_true, if_false, List.setIfInBounds_toArray, List.set_cons_zero, List.set_cons_succ, e5]
      go_wp2_with fail
      exact HK.out _ _ (.slice x.sa m.sp.length x.sc) (by simp only [Rinv.putAll, RBd, Act.put, Nat.reduceEqDiff, Nat.reduceAdd, if_true, if_false, List.setIfInBounds_toArray, List.set_cons_zero, List.set_cons_succ, e5]) (Below.refl _ _) (rfl) (fun j hj _ h => absurd h (by unfold ap2; simp))
    · simp only [List.getD_cons_zero, List.getD_cons_succ]
      have hd6 := HDW.out 6 (by decide) (by unfold Rinv.waits; kernel_rfl)
      have hr6 : RB x m B s 6 (X 6) w' := HDR.out 6 (by decide) hd6
      have e6 : X 6 = _ := hr6
      clear hr6
      clear hd6
      have HME := Lib.hid (fmeeting_any x.sa x.sc m.sp w' (HMM.out _ HBW.out).sp HNL.out HSS.out)
      simp only [Rinv.putAll, RBd, Act.put, Nat.reduceEqDiff, Nat.reduceAdd, if_true, if_false, List.setIfInBounds_toArray, List.set_cons_zero, List.set_cons_succ, e6]
      go_wp2_with (go_at_call 55; refine HME.out.mono ?_; rintro e w4 ⟨g4, rfl, hg4, hgl4, hb4⟩; have HG4 := Lib.hid hg4; have HGL4 := Lib.hid hgl4; have HB4 := Lib.hid hb4; clear hg4 hgl4 hb4)
      exact HK.out _ _ (.slice (some ⟨g4, 0, none⟩) m.sp.length m.sp.length) (by simp only [Rinv.putAll, RBd, Act.put, Nat.reduceEqDiff, Nat.reduceAdd, if_true, if_false, List.setIfInBounds_toArray, List.set_cons_zero, List.set_cons_succ, e6]) (HB4.out) (⟨_, rfl, Nat.le_trans (Nat.le_trans HSB.out HBW.out.size) HGL4.out, HG4.out⟩) (fun j hj hD h => by
        have hj2 : j = 4 := by unfold ap2 at h; simp at h; omega
        subst hj2
        obtain ⟨g7, e7, -, h7⟩ : RB x m B s 4 (X 4) w' := HDR.out 4 (by decide) hD
        rw [e7]
        intro e
        injection e with e
        injection e with e
        injection e with e
        have := h7.lt
        have := HGL4.out
        omega)
    · simp only [List.getD_cons_zero, List.getD_cons_succ]
      have hmm := @run_makeMap Tryd.prog
      simp only [Rinv.putAll, RBd, Act.put, Nat.reduceEqDiff, Nat.reduceAdd, if_true, if_false, List.setIfInBounds_toArray, List.set_cons_zero, List.set_cons_succ]
      go_wp2_with fail
      exact HK.out _ _ (.map (some w'.heap.size)) (by simp only [Rinv.putAll, RBd, Act.put, Nat.reduceEqDiff, Nat.reduceAdd, if_true, if_false, List.setIfInBounds_toArray, List.set_cons_zero, List.set_cons_succ]) ((Below.refl _ _).alloc (Nat.le_refl _) _) (⟨_, rfl, Nat.le_trans HSB.out HBW.out.size, MapP.made _⟩) (fun j hj hD h => by
        have hj2 : j = 9 := by unfold ap2 at h; simp at h; omega
        subst hj2
        obtain ⟨g7, e7, -, h7⟩ : RB x m B s 9 (X 9) w' := HDR.out 9 (by decide) hD
        rw [e7]
        intro e
        injection e with e
        injection e with e
        have := h7.lt
        omega)
    · simp only [List.getD_cons_zero, List.getD_cons_succ]
      have hmm := @run_makeMap Tryd.prog
      simp only [Rinv.putAll, RBd, Act.put, Nat.reduceEqDiff, Nat.reduceAdd, if_true, if_false, List.setIfInBounds_toArray, List.set_cons_zero, List.set_cons_succ]
      go_wp2_with fail
      exact HK.out _ _ (.map (some w'.heap.size)) (by simp only [Rinv.putAll, RBd, Act.put, Nat.reduceEqDiff, Nat.reduceAdd, if_true, if_false, List.setIfInBounds_toArray, List.set_cons_zero, List.set_cons_succ]) ((Below.refl _ _).alloc (Nat.le_refl _) _) (⟨_, rfl, Nat.le_trans HSB.out HBW.out.size, MapP.made _⟩) (fun j hj hD h => by
        have hj2 : j = 8 := by unfold ap2 at h; simp at h; omega
        subst hj2
        obtain ⟨g7, e7, -, h7⟩ : RB x m B s 8 (X 8) w' := HDR.out 8 (by decide) hD
        rw [e7]
        intro e
        injection e with e
        injection e with e
        have := h7.lt
        omega)
    · simp only [List.getD_cons_zero, List.getD_cons_succ]
      have hd0 := HDW.out 0 (by decide) (by unfold Rinv.waits; kernel_rfl)
      have hr0 : RB x m B s 0 (X 0) w' := HDR.out 0 (by decide) hd0
      have e0 : X 0 = _ := hr0
      clear hr0
      have hd4 := HDW.out 4 (by decide) (by unfold Rinv.waits; kernel_rfl)
      have hr4 : RB x m B s 4 (X 4) w' := HDR.out 4 (by decide) hd4
      obtain ⟨gF, e4, l4, h4⟩ := hr4
      have hd7 := HDW.out 7 (by decide) (by unfold Rinv.waits; kernel_rfl)
      have hr7 : RB x m B s 7 (X 7) w' := HDR.out 7 (by decide) hd7
      obtain ⟨gM, e7, l7, h7⟩ := hr7
      have hd8 := HDW.out 8 (by decide) (by unfold Rinv.waits; kernel_rfl)
      have hr8 : RB x m B s 8 (X 8) w' := HDR.out 8 (by decide) hd8
      obtain ⟨gB, e8, l8, h8⟩ := hr8
      have hd9 := HDW.out 9 (by decide) (by unfold Rinv.waits; kernel_rfl)
      have hr9 : RB x m B s 9 (X 9) w' := HDR.out 9 (by decide) hd9
      obtain ⟨gO, e9, l9, h9⟩ := hr9
      have n1 : gF ≠ gM := fun e => HDN.out 4 7 (by decide) (by decide) hd4 hd7 (by unfold ap2; simp) (by rw [e4, e7, e])
      have n2 : gB ≠ gO := fun e => HDN.out 8 9 (by decide) (by decide) hd8 hd9 (by unfold ap2; simp) (by rw [e8, e9, e])
      have HBG : Hid (Bg0 s gF gM gB gO m w') := Lib.hid ⟨h4, h7, h8, h9, n1, n2, l4, l7, l8, l9⟩
      clear h4 h7 h8 h9 n1 n2 l4 l7 l8 l9
      clear hd0
      clear hd4
      clear hd7
      clear hd8
      clear hd9
      unfold mc at e0
      simp only [Rinv.putAll, RBd, Act.put, Nat.reduceEqDiff, Nat.reduceAdd, if_true, if_false, List.setIfInBounds_toArray, List.set_cons_zero, List.set_cons_succ, e0, e4, e7, e8, e9]
      go_wp2_with fail
      exact HK.out _ _ (.agg #[.slice x.sa m.sp.length x.sc, .slice x.fa m.fi.length x.fc, .slice x.oa m.fo.length x.oc, .slice x.la m.la.length x.lc, .bool m.em, .slice (some ⟨gF, 0, none⟩) m.sp.length m.sp.length, .slice (some ⟨gM, 0, none⟩) m.sp.length m.sp.length, .map (some gB), .map (some gO), .slice none 0 0]) (by simp only [Rinv.putAll, RBd, Act.put, Nat.reduceEqDiff, Nat.reduceAdd, if_true, if_false, List.setIfInBounds_toArray, List.set_cons_zero, List.set_cons_succ, e0, e4, e7, e8, e9]) (Below.refl _ _) (⟨gF, gM, gB, gO, rfl, HBG.out⟩) (fun j hj _ h => absurd h (by unfold ap2; simp))
    · simp only [List.getD_cons_zero, List.getD_cons_succ]
      have hd10 := HDW.out 10 (by decide) (by unfold Rinv.waits; kernel_rfl)
      have hr10 : RB x m B s 10 (X 10) w' := HDR.out 10 (by decide) hd10
      obtain ⟨gF, gM, gB, gO, e10, h10⟩ := hr10
      have HBG := Lib.hid h10
      clear h10
      clear hd10
      simp only [Rinv.putAll, RBd, Act.put, Nat.reduceEqDiff, Nat.reduceAdd, if_true, if_false, List.setIfInBounds_toArray, List.set_cons_zero, List.set_cons_succ, e10]
      go_wp2_with fail
      exact HK.out _ _ (.pointer (some ⟨w'.heap.size, 0, none⟩)) (by simp only [Rinv.putAll, RBd, Act.put, Nat.reduceEqDiff, Nat.reduceAdd, if_true, if_false, List.setIfInBounds_toArray, List.set_cons_zero, List.set_cons_succ, e10]) ((Below.refl _ _).alloc (Nat.le_refl _) _) (⟨_, gF, gM, gB, gO, rfl, Nat.le_trans HSB.out HBW.out.size, heap_alloc_new w' _, HBG.out.stay ((Below.refl _ _).alloc (Nat.le_refl _) _)⟩) (fun j hj _ h => absurd h (by unfold ap2; simp))
  · intro X w' hB hR K hK
    have HK := Lib.hid hK
    have HBW := Lib.hid hB
    clear hK hB
    simp only [List.getD_cons_zero, List.getD_cons_succ]
    have hr11 : RB x m B s 11 (X 11) w' := hR 11 (by decide)
    obtain ⟨mb, gF, gM, gB, gO, e11, hl11, hr11', hb11⟩ := hr11
    have HROW := Lib.hid hr11'
    have HBG := Lib.hid hb11
    have HMBL := Lib.hid hl11
    clear hr11' hb11 hl11
    clear hR
    simp only [Rinv.putAll, RBd, Act.put, Nat.reduceEqDiff, Nat.reduceAdd, if_true, if_false, List.setIfInBounds_toArray, List.set_cons_zero, List.set_cons_succ, e11]
    go_wp2_with (fail)
    refine HK.out _ _ ?_
    clear HK
    have HG1 : Hid (Bg1 s B mb gF gM gB gO x m (fgR m 0) w') := Lib.hid ⟨HROW.out, by rw [fgR_start]; exact HBG.out.fol, HBG.out.mee, HBG.out.mapB, HBG.out.mapO, bxStay HX.out HBW.out, HBG.out.n1, HBG.out.n2, HMBL.out, HBG.out.l1, HBG.out.l2, HBG.out.l3, HBG.out.l4⟩
    have HBS : Hid (Below s w w') := Lib.hid (by rw [← hs.out, ← hB.out]; exact HB0.out.trans (HBW.out.mono HB0.out.size))
    have HFOL : Hid (m.fo.length = m.sp.length) := Lib.hid HR.out.fol
    clear HROW HBG HMBL e11 HBW HB0 HX HMM HSB w1
    obtain ⟨w2, hw2⟩ : ∃ w2, w2 = w' := ⟨_, rfl⟩
    rw [← hw2] at HG1 HBS ⊢
    clear hw2 w'
    have c2 := HG1.out.box.c2
    generalize X 0 = x0 at *
    generalize X 1 = x1 at *
    generalize X 2 = x2 at *
    generalize X 3 = x3 at *
    generalize X 4 = x4 at *
    generalize X 5 = x5 at *
    generalize X 6 = x6 at *
    generalize X 7 = x7 at *
    generalize X 8 = x8 at *
    generalize X 9 = x9 at *
    generalize X 10 = x10 at *
    clear X
    go_upto_region 3 with fail
    go_loopw [24] (fun i wr => ∃ j : Nat, i = .int .i64 j ∧ j ≤ m.fo.length ∧ Hid (Bg1 s B mb gF gM gB gO x m (fgR m j) wr) ∧ Hid (Below s w wr)) (fun i _ => ((m.fo.length : Int) - intOf i).toNat)
    case atStart => exact ⟨0, rfl, Nat.zero_le _, HG1, HBS⟩
    case round =>
      obtain ⟨j, rfl, hj, HG, HB⟩ := hrel
      generalize hwr : wr = w3 at *
      clear hwr wr HG1 HBS c2 w2
      by_cases hlt : j < m.fo.length
      · have hdd : decide ((j : Int) < (m.fo.length : Int)) = true := decide_eq_true (by omega)
        have hd2 : decide (j < m.fo.length) = true := decide_eq_true hlt
        have hji : (j : Int) < (m.fo.length : Int) := by omega
        have hjs : (j : Int) < (m.sp.length : Int) := by rw [← HFOL.out]; exact hji
        have HW1 : Hid (wrap64 ((j : Int) + 1) = ((j + 1 : Nat) : Int)) := Lib.hid (nat_wrap (by have h1 := HNL.out; have h2 := HFOL.out; omega))
        have HJ := Lib.hid hlt
        have HBK : Hid (Below w.heap.size w w3) := Lib.hid (by rw [hB.out, hs.out]; exact HB.out)
        obtain ⟨b, o, a, c, hoa, hcl, hnum⟩ := (HM.out.kept HBK.out).fo j hlt
        have HNU := Lib.hid hnum
        have HGR := Lib.hid (fgroup_any a c (m.fo.getD j []) w3.drew (HNU.out.kept ((Below.refl _ _).drew)) (HF.out.each _ (getD_mem (d := []) hlt)).1 (fun k hk => by
          have h1 := (rise_up (HR.out.foR _ (getD_mem (d := []) hlt))).2 k hk
          have h2 := HNL.out
          omega))
        have HST := Lib.hid (fgR_set m j)
        have HGE : Hid (grp (m.fo.getD j []) = foN m j) := Lib.hid rfl
        rw [HGE.out] at HGR
        generalize m.fo.getD j [] = l at *
        clear hnum hlt
        rw [hoa]
        go_upto_region 5 with fail
        have c5 : w3.cell? ⟨mb, 5, none⟩ = some (.slice (some ⟨gF, 0, none⟩) m.sp.length m.sp.length) := HG.out.cell 5 _ rfl
        have HML := Lib.hid HG.out.lt
        have HGL : Hid (j < (fgR m j).length) := Lib.hid (by rw [fgR_len, ← HFOL.out]; exact HJ.out)
        refine region_mix [(false, 0), (false, 1), (false, 2), (false, 3), (false, 4), (false, 5), (true, 6), (false, 7)] (fun w' => Below w3.heap.size w3 w') (by kernel_rfl) (by kernel_rfl) ((Below.refl _ _).drew) ?_
        simp only [planOps, List.map_cons, List.map_nil, List.getD_cons_zero, List.getD_cons_succ, List.length_cons, List.length_nil, List.drop_succ_cons, List.drop_zero]
        refine mix_seg (seg := [_, _, _, _, _, _]) rfl ((Below.refl _ _).drew) ?_
        intro ι hι F hF
        have f1 := fun n => ((hF n).cell (p := ⟨mb, 5, none⟩) HML.out).trans c5
        iterate 6 (go_big_quiet_step (fail))
        refine wpQuiet_nil ?_
        clear f1 hF hι F
        have HBD : Hid (Below w3.heap.size w3 w3.drew) := Lib.hid ((Below.refl _ _).drew)
        refine mix_eff (fun K hK => ?_)
        go_wp2_with (go_at_call 56; refine HGR.out.mono ?_; rintro e w4 ⟨rfl, hb4⟩; have HB4 := Lib.hid (HBD.out.trans (hb4.mono HBD.out.size)); clear hb4)
        refine mix_on hK HB4.out ?_
        clear hK K
        refine mix_seg (seg := [_]) (rest := []) rfl HB4.out ?_
        intro ι hι F hF
        clear hF
        iterate 1 (go_big_quiet_step (fail))
        refine wpQuiet_nil ?_
        clear hι F
        show wpList _ _ _ _ _ _
        have HG4 := Lib.hid (HG.out.stay HB4.out)
        go_wp2_with (refine wpList_store_at rfl (.tmp 36) (.tmp 35) rfl gF (j * 4) (foN m j) (by first | rfl | (simp; done)) rfl (HG4.out.fol.there HGL.out _) ?_)
        refine NoPanic.normal ?_
        have HBU : Hid (But gF w4 (w4.setCells gF (j * 4) (setC (foN m j)).toList)) := Lib.hid (But.cells4 _ _ _ _)
        have HG5 : Hid (Bg1 s B mb gF gM gB gO x m (fgR m (j + 1)) (w4.setCells gF (j * 4) (setC (foN m j)).toList)) := Lib.hid (HG4.out.set HBU.out (by rw [← HST.out]; exact HG4.out.fol.set HGL.out _))
        have HB5 : Hid (Below s w (w4.setCells gF (j * 4) (setC (foN m j)).toList)) := Lib.hid (by
          have h1 : s ≤ w3.heap.size := Nat.le_trans HG.out.l0 (Nat.le_of_lt HG.out.lt)
          exact But.below (HB.out.trans (HB4.out.mono h1)) HBU.out HG.out.l1 (Nat.le_trans h1 HB4.out.size))
        clear HG HB HB4 HG4 HBU c5 HML HBK HNU HGR
        generalize w4.setCells gF (j * 4) (setC (foN m j)).toList = w5 at *
        go_wp2_with fail
        go_roundw
        case rel => exact ⟨j + 1, by rw [HW1.out], HJ.out, HG5, HB5⟩
        case measure => rw [HW1.out]; exact meas9 HJ.out
      · have hdd : decide ((j : Int) < (m.fo.length : Int)) = false := decide_eq_false (by omega)
        have hd2 : decide (j < m.fo.length) = false := decide_eq_false hlt
        have HE : Hid (fgR m j = foR m) := Lib.hid (by rw [show j = m.sp.length by have := HFOL.out; omega]; exact fgR_end m)
        rw [HE.out] at HG
        clear hj hlt HE
        have c1 := HG.out.box.c1
        have HBK : Hid (Below w.heap.size w w3) := Lib.hid (by rw [hB.out, hs.out]; exact HB.out)
        have HNI : Hid (∀ W, Below w.heap.size w W → NumsIn W x.fa m.fi) := Lib.hid (fun W hW => (HM.out.kept hW).fi)
        have HFI : Hid (m.fi.length ≤ 1000 ∧ ∀ k ∈ m.fi, 0 ≤ k ∧ k < 256) := Lib.hid ⟨HF.out.fi, fun k hk => by
          have h1 := (rise_up HR.out.fiR).2 k hk
          have h2 := HNL.out
          omega⟩
        have HGR := Lib.hid (fgroup_any x.fa x.fc m.fi w3 (HNI.out _ HBK.out) HFI.out.1 HFI.out.2)
        have HQ0 : Hid (SeAt s mb gF gM gB gO x m (.slice none 0 0) st0 w3) := Lib.hid ⟨HG.out.row, HG.out.mapB, HG.out.mapO, World.ownsRow_nil _ _ _ _, HG.out.fol, HG.out.mee, fun W hW => HM.out.kept (by rw [hB.out, hs.out]; exact HB.out.trans hW), HG.out.n2, HG.out.l0, HG.out.l1, HG.out.l2, HG.out.l3, HG.out.l4⟩
        have HSW : Hid (s ≤ w3.heap.size) := Lib.hid (Nat.le_trans HG.out.l0 (Nat.le_of_lt HG.out.lt))
        go_upto_region 8 with (first
          | (go_at_call 56; refine HGR.out.mono ?_; rintro e w4 ⟨rfl, hb4⟩; have HB4 := Lib.hid hb4; clear hb4)
          | (refine wpList_lay_set rfl (.tmp 6) (.tmp 40) rfl (grp m.fi) _ rfl rfl rfl ?_))
        rw [hput]
        have HA4 : Hid (Below w4.heap.size w4 (w4.alloc (.cells (setC (grp m.fi)) 41))) := Lib.hid ((Below.refl _ _).alloc (Nat.le_refl _) _)
        have H34 := Lib.hid (HB4.out.trans (HA4.out.mono HB4.out.size))
        have HS6 := Lib.hid (SetB.new w4 (grp m.fi))
        have HX5 := Lib.hid (bxStay HG.out.box H34.out)
        have HQ5 := Lib.hid (HQ0.out.stay H34.out HSW.out)
        have HLT : Hid (mb < w4.heap.size ∧ gB < w4.heap.size ∧ gO < w4.heap.size ∧ B < w4.heap.size) := Lib.hid ⟨Nat.lt_of_lt_of_le HG.out.lt HB4.out.size, Nat.lt_of_lt_of_le HG.out.mapB.lt HB4.out.size, Nat.lt_of_lt_of_le HG.out.mapO.lt HB4.out.size, Nat.lt_of_lt_of_le HG.out.box.lt HB4.out.size⟩
        have HBW5 := Lib.hid (HBK.out.trans (H34.out.mono (by rw [hB.out, hs.out]; exact HSW.out)))
        obtain ⟨b6, hb6⟩ : ∃ b, Hid (w4.heap.size = b) := ⟨_, Lib.hid rfl⟩
        have HOFF : Hid (Off mb gB gO (.slice none 0 0) b6) := Lib.hid (by
          rw [← hb6.out]
          have h := HLT.out
          exact ⟨by omega, by omega, by omega, fun e => by cases e⟩)
        rw [hb6.out] at HS6 ⊢
        have HSW5 : Hid (s ≤ (w4.alloc (.cells (setC (grp m.fi)) 41)).heap.size) := Lib.hid (Nat.le_trans HSW.out H34.out.size)
        generalize w4.alloc (.cells (setC (grp m.fi)) 41) = w5 at *
        clear HA4 H34 HQ0 HGR HBK HG HB HB4 HLT hb6 HSW c1 w3 w4
        have HFT : Hid (∀ j, Fit m (begL m st0 ((m.fi.map Int.toNat).take j))) := Lib.hid (fun j => by
          have : ∀ (l : List Nat) (S : St), Fit m S → (∀ k ∈ l, (grp m.fi).testBit k = true) → Fit m (begL m S l) := by
            intro l
            induction l with
            | nil => intro S h _; exact h
            | cons k l ih =>
              intro S h hl
              have hk := hl k (List.mem_cons_self ..)
              exact ih _ (h.entP HN.out (grp_lt HR.out.fiR hk) (ok_first hk)) (fun i hi => hl i (List.mem_cons_of_mem _ hi))
          refine this _ _ ⟨st0_snd m, Nat.zero_le _⟩ (fun k hk => ?_)
          have hk := List.mem_of_mem_take hk
          unfold grp
          rw [ofN_testBit, List.contains_iff_mem]
          exact hk)
        have c1 := HX5.out.c1
        obtain ⟨l, hl⟩ : ∃ l, m.fi = l := ⟨_, rfl⟩
        have HLR : Hid (∀ i, i < l.length → ∃ k : Nat, l.getD i 0 = k ∧ k < m.sp.length ∧ (grp m.fi).testBit k = true ∧ (m.fi.map Int.toNat).getD i 0 = k) := Lib.hid (fun i hi => by
          rw [← hl] at hi ⊢
          have hm := getD_mem (d := (0 : Int)) hi
          have h1 := (rise_up HR.out.fiR).2 _ hm
          refine ⟨(m.fi.getD i 0).toNat, by omega, by omega, ?_, ?_⟩
          · unfold grp
            rw [ofN_testBit, List.contains_iff_mem]
            exact List.mem_map.2 ⟨_, hm, rfl⟩
          · generalize m.fi = L at *
            rw [List.getD_eq_getElem?_getD, List.getElem?_map, List.getElem?_eq_getElem hi, List.getD_eq_getElem?_getD, List.getElem?_eq_getElem hi]; rfl)
        have HSNC : Hid (∀ i, i < l.length → begL m st0 ((m.fi.map Int.toNat).take (i + 1)) = entP m ((m.fi.map Int.toNat).getD i 0) 1 (grp m.fi) (begL m st0 ((m.fi.map Int.toNat).take i))) := Lib.hid (fun i hi => begL_snoc m st0 _ i (by rw [List.length_map, hl]; exact hi))
        have HEND : Hid (begL m st0 ((m.fi.map Int.toNat).take l.length) = begL m st0 (m.fi.map Int.toNat)) := Lib.hid (by rw [List.take_of_length_le (by rw [List.length_map, hl]; exact Nat.le_refl _)])
        obtain ⟨L, hL⟩ : ∃ L, Hid (m.fi.map Int.toNat = L) := ⟨_, Lib.hid rfl⟩
        rw [hL.out] at HLR HSNC HEND HFT
        obtain ⟨f0, hf0⟩ : ∃ f0, Hid (grp m.fi = f0) := ⟨_, Lib.hid rfl⟩
        have HOKF : Hid (∀ k, f0.testBit k = true → Ok2 m k 1 f0) := Lib.hid (fun k hk => by rw [← hf0.out] at hk ⊢; exact ok_first hk)
        rw [hf0.out] at HLR HSNC HS6 ⊢
        rw [hl] at HNI HFI c1 ⊢
        have HLL : Hid (l.length ≤ 1000) := Lib.hid HFI.out.1
        go_upto_region 9 with fail
        go_loopw [44] (fun i wr => ∃ (j : Nat) (svj : Value), i = .int .i64 j ∧ j ≤ l.length ∧ Hid (SeAt s mb gF gM gB gO x m svj (begL m st0 (L.take j)) wr) ∧ Hid (Fz mb gB gO w5 (.slice none 0 0) wr svj) ∧ Hid (SetB wr b6 f0) ∧ Hid (Off mb gB gO svj b6)) (fun i _ => ((l.length : Int) - intOf i).toNat)
        case atStart => exact ⟨0, _, rfl, Nat.zero_le _, HQ5, Lib.hid (Fz.refl _ _ _ _ _), HS6, HOFF⟩
        case round =>
          obtain ⟨i, svj, rfl, hi, HQ, HFZ, HS, HO⟩ := hrel
          generalize hwr : wr = w6 at *
          clear hwr wr HS6 HOFF c1
          have HBW6 : Hid (Below w.heap.size w w6) := Lib.hid (HBW5.out.trans (HFZ.out.below (by rw [hB.out, hs.out]; exact HSW5.out) (by rw [hB.out, hs.out]; exact HQ5.out.low.1) (by rw [hB.out, hs.out]; exact HQ5.out.low.2.2.2.1) (by rw [hB.out, hs.out]; exact HQ5.out.low.2.2.2.2) (fun g hg => by cases hg)))
          by_cases hlt : i < l.length
          · have he1 : decide ((i : Int) < (l.length : Int)) = true := decide_eq_true (by omega)
            have he2 : decide (i < l.length) = true := decide_eq_true hlt
            have hii : (i : Int) < (l.length : Int) := by omega
            have HW1 : Hid (wrap64 ((i : Int) + 1) = ((i + 1 : Nat) : Int)) := Lib.hid (nat_wrap (by have := HLL.out; omega))
            have HI := Lib.hid hlt
            obtain ⟨b, o, hfa, hcl⟩ := HNI.out w6 HBW6.out i hlt
            obtain ⟨k, hk, hkl, hkb, hkg⟩ := HLR.out i hlt
            rw [hk] at hcl
            have HSJ := Lib.hid (HSNC.out i hlt)
            rw [hkg] at HSJ
            have HSW6 : Hid (s ≤ w6.heap.size) := Lib.hid (Nat.le_trans HSW5.out HFZ.out.size)
            have HEN := Lib.hid (enter_any s mb gF gM gB gO x m svj (begL m st0 (L.take i)) k f0 1 w6 HQ.out HSW6.out HN.out hkl (HFT.out i) (HOKF.out k hkb) (HT.out.below HBW6.out HTG.out))
            rw [hfa]
            clear hlt hk hkl hkb hkg
            go_wp2_with (first
              | (refine wpList_load_set rfl (.tmp 6) rfl b6 f0 rfl HS.out ?_)
              | (go_at_call 57; refine HEN.out.mono ?_; rintro e w7 ⟨rfl, sv2, hq7, hf7⟩; have HQ7 := Lib.hid hq7; have HF7 := Lib.hid hf7; clear hq7 hf7))
            go_roundw
            case rel => exact ⟨i + 1, sv2, by rw [HW1.out], HI.out, Lib.hid (by rw [HSJ.out]; exact HQ7.out), Lib.hid (HFZ.out.trans HF7.out), Lib.hid (HS.out.of (HF7.out.keep HO.out HS.out.lt)), Lib.hid (HF7.out.off HO.out HS.out.lt)⟩
            case measure => rw [HW1.out]; exact meas9 HI.out
          · have he1 : decide ((i : Int) < (l.length : Int)) = false := decide_eq_false (by omega)
            have he2 : decide (i < l.length) = false := decide_eq_false hlt
            have HE : Hid (begL m st0 (L.take i) = begL m st0 L) := Lib.hid (by rw [show i = l.length by omega]; exact HEND.out)
            rw [HE.out] at HQ
            go_wp2_with fail
            go_ret
            exact ⟨mb, gF, gM, gB, gO, svj, rfl, by rw [hB.out, hs.out, hL.out]; exact HQ.out, HBW6.out⟩
end Ft
end Go.Proofs.YtghbgfkkdknmnaaDoor
