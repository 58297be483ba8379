/- Copy. -/
import Derived.Test.YtlbaecjmfgahgaaDoorNfT
import Derived.Test.YtlbaecjmfgahgaaDoorNfC
import Derived.Test.YtlbaecjmfgahgaaDoorNfG
import Derived.Test.YtlbaecjmfgahgaaDoorInv
namespace Go.Proofs.YtlbaecjmfgahgaaDoor
open Go.RowKit Sets Nf
namespace Nf
def RC (x : Ma) (m : Mc) (s : Nat) : Nat → Value → World → Prop
  | 0, v, _ => v = .pointer (some ⟨s, 0, none⟩)
  | 1, v, _ => v = .slice x.sa m.sp.length x.sc
  | 2, v, w => ∃ a c, v = .slice a m.sp.length c ∧ w.ownsRow s 41 5 (v) m.sp.length (spL m.sp)
  | 3, v, _ => v = .pointer (some ⟨s, 1, none⟩)
  | 4, v, _ => v = .slice x.fa m.fi.length x.fc
  | 5, v, w => ∃ a c, v = .slice a m.fi.length c ∧ OwnN s w (v) m.fi
  | 6, v, _ => v = .pointer (some ⟨s, 2, none⟩)
  | 7, v, _ => v = .slice x.oa m.fo.length x.oc
  | 8, v, _ => v = .int .i64 (m.fo.length : Nat)
  | 9, v, w => ∃ g, v = .slice (some ⟨g, 0, none⟩) m.fo.length m.fo.length ∧ s < g ∧ w.rowIs g 23 m.fo.length (fun _ => .slice none 0 0)
  | 10, v, _ => v = .pointer (some ⟨s, 3, none⟩)
  | 11, v, _ => v = .slice x.la m.la.length x.lc
  | 12, v, w => ∃ a c, v = .slice a m.la.length c ∧ w.ownsRow s 4 1 (v) m.la.length (bL m.la)
  | 13, v, _ => v = .pointer (some ⟨s, 4, none⟩)
  | 14, v, _ => v = .bool m.em
  | 15, v, w => ∃ a0 c0 a1 c1 g a3 c3, v = .agg #[.slice a0 m.sp.length c0, .slice a1 m.fi.length c1, .slice (some ⟨g, 0, none⟩) m.fo.length m.fo.length, .slice a3 m.la.length c3, .bool m.em] ∧ w.ownsRow s 41 5 (.slice a0 m.sp.length c0) m.sp.length (spL m.sp) ∧ OwnN s w (.slice a1 m.fi.length c1) m.fi ∧ w.ownsRow s 4 1 (.slice a3 m.la.length c3) m.la.length (bL m.la) ∧ (s < g ∧ w.rowIs g 23 m.fo.length (fun _ => .slice none 0 0))
  | 16, v, w => ∃ q, v = .pointer (some ⟨q, 0, none⟩) ∧ s + 1 < q ∧ w.heap[q]? = some (.cells #[.slice none 0 0, .slice none 0 0, .slice none 0 0, .slice none 0 0, .bool false] 27 (0, 0))
  | _, _, _ => True
theorem RC_mono (x : Ma) (m : Mc) (s : Nat) (i : Nat) (v : Value) (w w' : World) (hb : Below w.heap.size w w') (h : RC x m s i v w) : RC x m s i v w' := by
  match i with
  | 0 => exact h
  | 1 => exact h
  | 2 => obtain ⟨a, c, e, h1⟩ := h; exact ⟨a, c, e, own_stay h1 hb⟩
  | 3 => exact h
  | 4 => exact h
  | 5 => obtain ⟨a, c, e, h1⟩ := h; exact ⟨a, c, e, own_stay h1 hb⟩
  | 6 => exact h
  | 7 => exact h
  | 8 => exact h
  | 9 => obtain ⟨g, e, h0, h1⟩ := h; exact ⟨g, e, h0, World.rowIs.of_block h1 (hb.block g (World.rowIs.lt h1))⟩
  | 10 => exact h
  | 11 => exact h
  | 12 => obtain ⟨a, c, e, h1⟩ := h; exact ⟨a, c, e, own_stay h1 hb⟩
  | 13 => exact h
  | 14 => exact h
  | 15 => obtain ⟨a0, c0, a1, c1, g, a3, c3, e, h1, h2, h3, h4, h5⟩ := h; exact ⟨a0, c0, a1, c1, g, a3, c3, e, own_stay h1 hb, own_stay h2 hb, own_stay h3 hb, h4, World.rowIs.of_block h5 (hb.block g (World.rowIs.lt h5))⟩
  | 16 => obtain ⟨q, e, h0, h2⟩ := h; exact ⟨q, e, h0, (hb.block q (Array.getElem?_eq_some_iff.1 h2).1).trans h2⟩
  | n + 17 => exact h
def RCd (i : Nat) : Nat := if i = 16 then 3 else i + 6
/-- A copy in the making in block q: j lists are copied. -/
structure CpI (w0 : World) (s g q : Nat) (x : Ma) (m : Mc) (sv fv lv : Value) (vs : Nat → Value) (j : Nat) (W : World) : Prop where
  box : BoxM W s x m
  ret : W.heap[s + 1]? = some (.cells #[.slice none 0 0, .slice none 0 0, .slice none 0 0, .slice none 0 0, .bool false] 27 (0, 0))
  row : W.heap[q]? = some (.cells #[sv, fv, .slice (some ⟨g, 0, none⟩) m.fo.length m.fo.length, lv, .bool m.em] 27 (0, 0))
  sp : W.ownsRow s 41 5 sv m.sp.length (spL m.sp)
  fi : OwnN s W fv m.fi
  la : W.ownsRow s 4 1 lv m.la.length (bL m.la)
  fo : W.rowIs g 23 m.fo.length vs
  each : ∀ i, i < j → OwnN s W (vs i) (m.fo.getD i [])
  lg : s < g
  lq : s + 1 < q
  below : Below s w0 W
theorem CpI.stay {w0 : World} {s g q : Nat} {x : Ma} {m : Mc} {sv fv lv : Value} {vs : Nat → Value} {j : Nat} {W W' : World} (h : CpI w0 s g q x m sv fv lv vs j W) (hb : Below W.heap.size W W') : CpI w0 s g q x m sv fv lv vs j W' :=
  ⟨h.box.kept hb h.box.lt, (hb.block _ (Array.getElem?_eq_some_iff.1 h.ret).1).trans h.ret, (hb.block _ (Array.getElem?_eq_some_iff.1 h.row).1).trans h.row, own_stay h.sp hb, own_stay h.fi hb, own_stay h.la hb,
    World.rowIs.of_block h.fo (hb.block g (World.rowIs.lt h.fo)), fun i hi => own_stay (h.each i hi) hb, h.lg, h.lq, h.below.trans (hb.mono (Nat.le_of_lt h.box.lt))⟩
theorem CpI.put {w0 : World} {s g q : Nat} {x : Ma} {m : Mc} {sv fv lv : Value} {vs : Nat → Value} {j : Nat} {W : World} (h : CpI w0 s g q x m sv fv lv vs j W) {v : Value} (hv : OwnN s W v (m.fo.getD j [])) :
    CpI w0 s g q x m sv fv lv (fun k => if k = j then v else vs k) (j + 1) (W.setCell ⟨g, j, none⟩ v) := by
  obtain ⟨c, hc, -⟩ := h.fo
  have hset : ∀ k, k ≠ g → (W.setCell ⟨g, j, none⟩ v).heap[k]? = W.heap[k]? := fun k hk => Below.heap_setCell W ⟨g, j, none⟩ v k hk
  have hne : ∀ k cs t, W.heap[k]? = some (.cells cs t (0, 0)) → t ≠ 23 → k ≠ g := fun k cs t hk ht e => by
    rw [e, hc] at hk
    injection hk with hk
    injection hk with _ h2
    exact ht h2.symm
  have how : ∀ {B size n : Nat} {e : TypeId} {v2 : Value} {xs : List Value}, W.ownsRow B e size v2 n xs → e ≠ 23 → (W.setCell ⟨g, j, none⟩ v).ownsRow B e size v2 n xs := fun {B size n e v2 xs} hh he => own_kept hh fun k hk => by
    obtain ⟨cs, hcs⟩ := own_type hh hk
    exact hset k (hne k cs e hcs he)
  refine ⟨⟨(hset s (hne _ _ _ h.box.row (by decide))).trans h.box.row⟩, (hset _ (hne _ _ _ h.ret (by decide))).trans h.ret, (hset _ (hne _ _ _ h.row (by decide))).trans h.row, how h.sp (by decide), how h.fi (by decide), how h.la (by decide), World.rowIs.set h.fo j v, fun i hi => ?_, h.lg, h.lq, h.below.setCell (by have := h.lg; show s ≤ g; omega) _⟩
  show OwnN s _ (if i = j then v else vs i) _
  by_cases e : i = j
  · rw [if_pos e, e]; exact how hv (by decide)
  · rw [if_neg e]; exact how (h.each i (by omega)) (by decide)
theorem CpI.own {w0 : World} {s g q : Nat} {x : Ma} {m : Mc} {a0 a1 a3 : Option Addr} {c0 c1 c3 : Nat} {vs : Nat → Value} {W : World} (h : CpI w0 s g q x m (.slice a0 m.sp.length c0) (.slice a1 m.fi.length c1) (.slice a3 m.la.length c3) vs m.fo.length W) (hn : m.fo.length ≤ 1000) :
    OwnM s W ⟨a0, c0, a1, c1, some ⟨g, 0, none⟩, m.fo.length, a3, c3⟩ m := by
  refine ⟨h.sp, h.fi, ⟨(List.range m.fo.length).map vs, by simp, ?_, fun i hi => ?_⟩, h.la⟩
  · obtain ⟨c, hc, hsz, hget⟩ := h.fo
    refine ⟨by simp, .inr ⟨g, m.fo.length, c, rfl, Nat.le_of_lt h.lg, hc, Nat.le_refl _, by unfold maxLen; omega, by omega, ?_⟩⟩
    apply List.ext_getElem?
    intro i
    rw [List.getElem?_take, List.getElem?_map]
    by_cases hi : i < m.fo.length
    · rw [if_pos (by omega), Array.getElem?_toList, hget i hi, List.getElem?_range hi]; rfl
    · rw [if_neg (by omega), List.getElem?_eq_none (by simp; omega)]; rfl
  · have : ((List.range m.fo.length).map vs).getD i (.slice none 0 0) = vs i := by rw [List.getD_eq_getElem?_getD, List.getElem?_map, List.getElem?_range hi]; rfl
    rw [this]; exact h.each i hi
theorem CpI.start {w0 W : World} {s g q : Nat} {x : Ma} {m : Mc} {sv fv lv : Value} (hx : BoxM W s x m) (hr : W.heap[s + 1]? = some (.cells #[.slice none 0 0, .slice none 0 0, .slice none 0 0, .slice none 0 0, .bool false] 27 (0, 0)))
    (hq : W.heap[q]? = some (.cells #[.slice none 0 0, .slice none 0 0, .slice none 0 0, .slice none 0 0, .bool false] 27 (0, 0))) (h1 : W.ownsRow s 41 5 sv m.sp.length (spL m.sp)) (h2 : OwnN s W fv m.fi) (h3 : W.ownsRow s 4 1 lv m.la.length (bL m.la))
    (hg : W.rowIs g 23 m.fo.length (fun _ => .slice none 0 0)) (lg : s < g) (lq : s + 1 < q) (hb : Below s w0 W) (hsz : s ≤ W.heap.size) :
    CpI w0 s g q x m sv fv lv (fun _ => .slice none 0 0) 0 (W.setRow q #[sv, fv, .slice (some ⟨g, 0, none⟩) m.fo.length m.fo.length, lv, .bool m.em]) := by
  have hset : ∀ (cs : Array Value) k, k ≠ q → (W.setRow q cs).heap[k]? = W.heap[k]? := fun cs k hk => setRow_other _ _ _ _ hk
  have hne : ∀ k cs t, W.heap[k]? = some (.cells cs t (0, 0)) → t ≠ 27 → k ≠ q := fun k cs t hk ht e => by
    rw [e, hq] at hk
    injection hk with hk
    injection hk with _ h2
    exact ht h2.symm
  have how : ∀ {B size n : Nat} {e : TypeId} {v2 : Value} {xs : List Value} (cs : Array Value), W.ownsRow B e size v2 n xs → e ≠ 27 → (W.setRow q cs).ownsRow B e size v2 n xs := fun {B size n e v2 xs} cs hh he => own_kept hh fun k hk => by
    obtain ⟨c2, hcs⟩ := own_type hh hk
    exact hset cs k (hne k c2 e hcs he)
  have hgg := hg
  obtain ⟨c, hc, -⟩ := hg
  exact ⟨⟨(hset _ s (by omega)).trans hx.row⟩, (hset _ _ (by omega)).trans hr, setRow_heap W _ _ _ _ _ hq, how _ h1 (by decide), how _ h2 (by decide), how _ h3 (by decide), World.rowIs.of_block hgg (hset _ g (hne g c _ hc (by decide))), fun i hi => by omega, lg, lq,
    But.below hb (But.setRow _ _ _) (by omega) hsz⟩
set_option maxHeartbeats 12800000 in
set_option maxRecDepth 100000 in
theorem copy_any (x : Ma) (m : Mc) (w : World) (h : MAt w x m) (hf : Fine m) :
    Calls Tryd.prog 7 #[.agg (mc x m)] w fun e w' => ∃ y, e = .returned (.agg (mc y m)) ∧ OwnM w.heap.size w' y m ∧ Below w.heap.size w w' := by
  have HF := Lib.hid hf
  have HM0 := Lib.hid h
  clear h hf
  obtain ⟨i0, hi0, hz0⟩ := Option.map_eq_some_iff.1 infoIs
  simp only [Prod.mk.injEq] at hz0
  have HI0 := Lib.hid hi0
  have HZ0 := Lib.hid hz0
  clear hi0 hz0
  go_enter Tryd.func7, Tryd.ntmps7
  go_upto_region 1 with fail
  have hz : (w.alloc (.cells (mc x m) 27)).heap.size = w.heap.size + 1 := by simp
  have hal := (Below.refl (w.heap.size + 1) (w.alloc (.cells (mc x m) 27))).alloc (by simp) (.cells #[.slice none 0 0, .slice none 0 0, .slice none 0 0, .slice none 0 0, .bool false] 27)
  have HX := Lib.hid ((BoxM.new w x m).kept hal (by omega))
  have HR := Lib.hid (heap_alloc_new (w.alloc (.cells (mc x m) 27)) (.cells #[.slice none 0 0, .slice none 0 0, .slice none 0 0, .slice none 0 0, .bool false] 27))
  have HB1 := Lib.hid (((Below.refl w.heap.size w).alloc (Nat.le_refl _) (.cells (mc x m) 27)).trans (hal.mono (Nat.le_succ _)))
  rw [hz] at HR
  clear hal hz
  generalize (w.alloc (.cells (mc x m) 27)).alloc (.cells #[.slice none 0 0, .slice none 0 0, .slice none 0 0, .slice none 0 0, .bool false] 27) = w1 at *
  have HM := Lib.hid (HM0.out.kept HB1.out)
  obtain ⟨s, hs⟩ : ∃ s, Hid (w.heap.size = s) := ⟨_, Lib.hid rfl⟩
  have HBs : Hid (Below s w w1) := Lib.hid (by rw [← hs.out]; exact HB1.out)
  rw [hs.out] at HX HR ⊢
  clear HB1
  refine Rinv.region_inv' (RC x m s) 17 RCd (by kernel_rfl) (by kernel_rfl) ?_ (RC_mono x m s) ?_ ?_
  · intro j hj
    have : j = 0 ∨ j = 1 ∨ j = 2 ∨ j = 3 ∨ j = 4 ∨ j = 5 ∨ j = 6 ∨ j = 7 ∨ j = 8 ∨ j = 9 ∨ j = 10 ∨ j = 11 ∨ j = 12 ∨ j = 13 ∨ j = 14 ∨ j = 15 ∨ j = 16 := by omega
    rcases this with rfl | rfl | rfl | rfl | rfl | rfl | rfl | rfl | rfl | rfl | rfl | rfl | rfl | rfl | rfl | rfl | rfl <;> rfl
  · intro i hi X w' hB hR K hK
    have HK := Lib.hid hK
    have HBW := Lib.hid hB
    clear hK hB
    have hi' : i = 0 ∨ i = 1 ∨ i = 2 ∨ i = 3 ∨ i = 4 ∨ i = 5 ∨ i = 6 ∨ i = 7 ∨ i = 8 ∨ i = 9 ∨ i = 10 ∨ i = 11 ∨ i = 12 ∨ i = 13 ∨ i = 14 ∨ i = 15 ∨ i = 16 := by omega
    rcases hi' with rfl | rfl | rfl | rfl | rfl | rfl | rfl | rfl | rfl | rfl | rfl | rfl | rfl | rfl | rfl | rfl | rfl
    · simp only [List.getD_cons_zero]
      clear hR
      simp only [Rinv.putAll, RCd, Act.put, Nat.reduceEqDiff, Nat.reduceAdd, if_true, if_false, List.setIfInBounds_toArray, List.set_cons_zero, List.set_cons_succ]
      go_wp2_with fail
      exact HK.out _ _ (.pointer (some ⟨s, 0, none⟩)) (by simp only [Rinv.putAll, RCd, Act.put, Nat.reduceEqDiff, Nat.reduceAdd, if_true, if_false, List.setIfInBounds_toArray, List.set_cons_zero, List.set_cons_succ]) (Below.refl _ _) (rfl)
    · simp only [List.getD_cons_zero, List.getD_cons_succ]
      have hr0 : RC x m s 0 (X 0) w' := hR 0 (by decide) (by unfold Rinv.waits; kernel_rfl)
      have e0 : X 0 = _ := hr0
      clear hr0
      clear hR
      have c0 := (HX.out.kept HBW.out HX.out.lt).c0
      simp only [Rinv.putAll, RCd, Act.put, Nat.reduceEqDiff, Nat.reduceAdd, if_true, if_false, List.setIfInBounds_toArray, List.set_cons_zero, List.set_cons_succ, e0]
      go_wp2_with fail
      exact HK.out _ _ (.slice x.sa m.sp.length x.sc) (by simp only [Rinv.putAll, RCd, Act.put, Nat.reduceEqDiff, Nat.reduceAdd, if_true, if_false, List.setIfInBounds_toArray, List.set_cons_zero, List.set_cons_succ, e0]) (Below.refl _ _) (rfl)
    · simp only [List.getD_cons_zero, List.getD_cons_succ]
      have hr1 : RC x m s 1 (X 1) w' := hR 1 (by decide) (by unfold Rinv.waits; kernel_rfl)
      have e1 : X 1 = _ := hr1
      clear hr1
      clear hR
      have HCL := Lib.hid (cloneS_any x.sa x.sc m.sp w' (HM.out.kept HBW.out).sp HF.out.sp)
      have HSL : Hid (s ≤ w'.heap.size) := Lib.hid (Nat.le_trans (Nat.le_of_lt HX.out.lt) HBW.out.size)
      simp only [Rinv.putAll, RCd, Act.put, Nat.reduceEqDiff, Nat.reduceAdd, if_true, if_false, List.setIfInBounds_toArray, List.set_cons_zero, List.set_cons_succ, e1]
      go_wp2_with (go_at_call 18; refine HCL.out.mono ?_; rintro e w4 ⟨v4, rfl, ho4, hb⟩; obtain ⟨a4, c4, rfl, -⟩ := own_slice ho4; have HO4 := Lib.hid ho4; clear ho4)
      exact HK.out _ _ (.slice a4 m.sp.length c4) (by simp only [Rinv.putAll, RCd, Act.put, Nat.reduceEqDiff, Nat.reduceAdd, if_true, if_false, List.setIfInBounds_toArray, List.set_cons_zero, List.set_cons_succ, e1]) (hb) (⟨a4, c4, rfl, own_mono HO4.out HSL.out⟩)
    · simp only [List.getD_cons_zero, List.getD_cons_succ]
      clear hR
      simp only [Rinv.putAll, RCd, Act.put, Nat.reduceEqDiff, Nat.reduceAdd, if_true, if_false, List.setIfInBounds_toArray, List.set_cons_zero, List.set_cons_succ]
      go_wp2_with fail
      exact HK.out _ _ (.pointer (some ⟨s, 1, none⟩)) (by simp only [Rinv.putAll, RCd, Act.put, Nat.reduceEqDiff, Nat.reduceAdd, if_true, if_false, List.setIfInBounds_toArray, List.set_cons_zero, List.set_cons_succ]) (Below.refl _ _) (rfl)
    · simp only [List.getD_cons_zero, List.getD_cons_succ]
      have hr3 : RC x m s 3 (X 3) w' := hR 3 (by decide) (by unfold Rinv.waits; kernel_rfl)
      have e3 : X 3 = _ := hr3
      clear hr3
      clear hR
      have c1 := (HX.out.kept HBW.out HX.out.lt).c1
      simp only [Rinv.putAll, RCd, Act.put, Nat.reduceEqDiff, Nat.reduceAdd, if_true, if_false, List.setIfInBounds_toArray, List.set_cons_zero, List.set_cons_succ, e3]
      go_wp2_with fail
      exact HK.out _ _ (.slice x.fa m.fi.length x.fc) (by simp only [Rinv.putAll, RCd, Act.put, Nat.reduceEqDiff, Nat.reduceAdd, if_true, if_false, List.setIfInBounds_toArray, List.set_cons_zero, List.set_cons_succ, e3]) (Below.refl _ _) (rfl)
    · simp only [List.getD_cons_zero, List.getD_cons_succ]
      have hr4 : RC x m s 4 (X 4) w' := hR 4 (by decide) (by unfold Rinv.waits; kernel_rfl)
      have e4 : X 4 = _ := hr4
      clear hr4
      clear hR
      have HCL := Lib.hid (cloneN_any x.fa x.fc m.fi w' (HM.out.kept HBW.out).fi HF.out.fi)
      have HSL : Hid (s ≤ w'.heap.size) := Lib.hid (Nat.le_trans (Nat.le_of_lt HX.out.lt) HBW.out.size)
      simp only [Rinv.putAll, RCd, Act.put, Nat.reduceEqDiff, Nat.reduceAdd, if_true, if_false, List.setIfInBounds_toArray, List.set_cons_zero, List.set_cons_succ, e4]
      go_wp2_with (go_at_call 19; refine HCL.out.mono ?_; rintro e w4 ⟨v4, rfl, ho4, hb⟩; obtain ⟨a4, c4, rfl, -⟩ := own_slice ho4; have HO4 := Lib.hid ho4; clear ho4)
      exact HK.out _ _ (.slice a4 m.fi.length c4) (by simp only [Rinv.putAll, RCd, Act.put, Nat.reduceEqDiff, Nat.reduceAdd, if_true, if_false, List.setIfInBounds_toArray, List.set_cons_zero, List.set_cons_succ, e4]) (hb) (⟨a4, c4, rfl, own_mono HO4.out HSL.out⟩)
    · simp only [List.getD_cons_zero, List.getD_cons_succ]
      clear hR
      simp only [Rinv.putAll, RCd, Act.put, Nat.reduceEqDiff, Nat.reduceAdd, if_true, if_false, List.setIfInBounds_toArray, List.set_cons_zero, List.set_cons_succ]
      go_wp2_with fail
      exact HK.out _ _ (.pointer (some ⟨s, 2, none⟩)) (by simp only [Rinv.putAll, RCd, Act.put, Nat.reduceEqDiff, Nat.reduceAdd, if_true, if_false, List.setIfInBounds_toArray, List.set_cons_zero, List.set_cons_succ]) (Below.refl _ _) (rfl)
    · simp only [List.getD_cons_zero, List.getD_cons_succ]
      have hr6 : RC x m s 6 (X 6) w' := hR 6 (by decide) (by unfold Rinv.waits; kernel_rfl)
      have e6 : X 6 = _ := hr6
      clear hr6
      clear hR
      have c2 := (HX.out.kept HBW.out HX.out.lt).c2
      simp only [Rinv.putAll, RCd, Act.put, Nat.reduceEqDiff, Nat.reduceAdd, if_true, if_false, List.setIfInBounds_toArray, List.set_cons_zero, List.set_cons_succ, e6]
      go_wp2_with fail
      exact HK.out _ _ (.slice x.oa m.fo.length x.oc) (by simp only [Rinv.putAll, RCd, Act.put, Nat.reduceEqDiff, Nat.reduceAdd, if_true, if_false, List.setIfInBounds_toArray, List.set_cons_zero, List.set_cons_succ, e6]) (Below.refl _ _) (rfl)
    · simp only [List.getD_cons_zero, List.getD_cons_succ]
      have hr7 : RC x m s 7 (X 7) w' := hR 7 (by decide) (by unfold Rinv.waits; kernel_rfl)
      have e7 : X 7 = _ := hr7
      clear hr7
      clear hR
      simp only [Rinv.putAll, RCd, Act.put, Nat.reduceEqDiff, Nat.reduceAdd, if_true, if_false, List.setIfInBounds_toArray, List.set_cons_zero, List.set_cons_succ, e7]
      go_wp2_with fail
      exact HK.out _ _ (.int .i64 (m.fo.length : Nat)) (by simp only [Rinv.putAll, RCd, Act.put, Nat.reduceEqDiff, Nat.reduceAdd, if_true, if_false, List.setIfInBounds_toArray, List.set_cons_zero, List.set_cons_succ, e7]) (Below.refl _ _) (rfl)
    · simp only [List.getD_cons_zero, List.getD_cons_succ]
      have hr8 : RC x m s 8 (X 8) w' := hR 8 (by decide) (by unfold Rinv.waits; kernel_rfl)
      have e8 : X 8 = _ := hr8
      clear hr8
      clear hR
      have HSL : Hid (s < w'.heap.size) := Lib.hid (Nat.lt_of_lt_of_le HX.out.lt HBW.out.size)
      simp only [Rinv.putAll, RCd, Act.put, Nat.reduceEqDiff, Nat.reduceAdd, if_true, if_false, List.setIfInBounds_toArray, List.set_cons_zero, List.set_cons_succ, e8]
      go_wp2_with (refine wpList_make_row _ rfl (.tmp 14) (.tmp 14) 24 rfl 23 i0 (.slice none 0 0) Tryd.underlying24 HI0.out HZ0.out.1 HZ0.out.2.1 rfl .i64 .i64 m.fo.length rfl rfl (by rw [HZ0.out.2.2]; have := HF.out.fo; omega) (by have := HF.out.fo; omega) ?_)
      exact HK.out _ _ (.slice (some ⟨w'.heap.size, 0, none⟩) m.fo.length m.fo.length) (by simp only [Rinv.putAll, RCd, Act.put, Nat.reduceEqDiff, Nat.reduceAdd, if_true, if_false, List.setIfInBounds_toArray, List.set_cons_zero, List.set_cons_succ, e8]) ((Below.refl _ _).alloc (Nat.le_refl _) _) (⟨_, rfl, HSL.out, World.rowIs_made w' _ _ _⟩)
    · simp only [List.getD_cons_zero, List.getD_cons_succ]
      clear hR
      simp only [Rinv.putAll, RCd, Act.put, Nat.reduceEqDiff, Nat.reduceAdd, if_true, if_false, List.setIfInBounds_toArray, List.set_cons_zero, List.set_cons_succ]
      go_wp2_with fail
      exact HK.out _ _ (.pointer (some ⟨s, 3, none⟩)) (by simp only [Rinv.putAll, RCd, Act.put, Nat.reduceEqDiff, Nat.reduceAdd, if_true, if_false, List.setIfInBounds_toArray, List.set_cons_zero, List.set_cons_succ]) (Below.refl _ _) (rfl)
    · simp only [List.getD_cons_zero, List.getD_cons_succ]
      have hr10 : RC x m s 10 (X 10) w' := hR 10 (by decide) (by unfold Rinv.waits; kernel_rfl)
      have e10 : X 10 = _ := hr10
      clear hr10
      clear hR
      have c3 := (HX.out.kept HBW.out HX.out.lt).c3
      simp only [Rinv.putAll, RCd, Act.put, Nat.reduceEqDiff, Nat.reduceAdd, if_true, if_false, List.setIfInBounds_toArray, List.set_cons_zero, List.set_cons_succ, e10]
      go_wp2_with fail
      exact HK.out _ _ (.slice x.la m.la.length x.lc) (by simp only [Rinv.putAll, RCd, Act.put, Nat.reduceEqDiff, Nat.reduceAdd, if_true, if_false, List.setIfInBounds_toArray, List.set_cons_zero, List.set_cons_succ, e10]) (Below.refl _ _) (rfl)
    · simp only [List.getD_cons_zero, List.getD_cons_succ]
      have hr11 : RC x m s 11 (X 11) w' := hR 11 (by decide) (by unfold Rinv.waits; kernel_rfl)
      have e11 : X 11 = _ := hr11
      clear hr11
      clear hR
      have HCL := Lib.hid (cloneB_any x.la x.lc m.la w' (HM.out.kept HBW.out).la HF.out.la)
      have HSL : Hid (s ≤ w'.heap.size) := Lib.hid (Nat.le_trans (Nat.le_of_lt HX.out.lt) HBW.out.size)
      simp only [Rinv.putAll, RCd, Act.put, Nat.reduceEqDiff, Nat.reduceAdd, if_true, if_false, List.setIfInBounds_toArray, List.set_cons_zero, List.set_cons_succ, e11]
      go_wp2_with (go_at_call 20; refine HCL.out.mono ?_; rintro e w4 ⟨v4, rfl, ho4, hb⟩; obtain ⟨a4, c4, rfl, -⟩ := own_slice ho4; have HO4 := Lib.hid ho4; clear ho4)
      exact HK.out _ _ (.slice a4 m.la.length c4) (by simp only [Rinv.putAll, RCd, Act.put, Nat.reduceEqDiff, Nat.reduceAdd, if_true, if_false, List.setIfInBounds_toArray, List.set_cons_zero, List.set_cons_succ, e11]) (hb) (⟨a4, c4, rfl, own_mono HO4.out HSL.out⟩)
    · simp only [List.getD_cons_zero, List.getD_cons_succ]
      clear hR
      simp only [Rinv.putAll, RCd, Act.put, Nat.reduceEqDiff, Nat.reduceAdd, if_true, if_false, List.setIfInBounds_toArray, List.set_cons_zero, List.set_cons_succ]
      go_wp2_with fail
      exact HK.out _ _ (.pointer (some ⟨s, 4, none⟩)) (by simp only [Rinv.putAll, RCd, Act.put, Nat.reduceEqDiff, Nat.reduceAdd, if_true, if_false, List.setIfInBounds_toArray, List.set_cons_zero, List.set_cons_succ]) (Below.refl _ _) (rfl)
    · simp only [List.getD_cons_zero, List.getD_cons_succ]
      have hr13 : RC x m s 13 (X 13) w' := hR 13 (by decide) (by unfold Rinv.waits; kernel_rfl)
      have e13 : X 13 = _ := hr13
      clear hr13
      clear hR
      have c4 := (HX.out.kept HBW.out HX.out.lt).c4
      simp only [Rinv.putAll, RCd, Act.put, Nat.reduceEqDiff, Nat.reduceAdd, if_true, if_false, List.setIfInBounds_toArray, List.set_cons_zero, List.set_cons_succ, e13]
      go_wp2_with fail
      exact HK.out _ _ (.bool m.em) (by simp only [Rinv.putAll, RCd, Act.put, Nat.reduceEqDiff, Nat.reduceAdd, if_true, if_false, List.setIfInBounds_toArray, List.set_cons_zero, List.set_cons_succ, e13]) (Below.refl _ _) (rfl)
    · simp only [List.getD_cons_zero, List.getD_cons_succ]
      have hr2 : RC x m s 2 (X 2) w' := hR 2 (by decide) (by unfold Rinv.waits; kernel_rfl)
      obtain ⟨a0, c0, e2, h2⟩ := hr2
      rw [e2] at h2
      have H2 := Lib.hid h2
      clear h2
      have hr5 : RC x m s 5 (X 5) w' := hR 5 (by decide) (by unfold Rinv.waits; kernel_rfl)
      obtain ⟨a1, c1, e5, h5⟩ := hr5
      rw [e5] at h5
      have H5 := Lib.hid h5
      clear h5
      have hr9 : RC x m s 9 (X 9) w' := hR 9 (by decide) (by unfold Rinv.waits; kernel_rfl)
      obtain ⟨g, e9, h9, h10⟩ := hr9
      have H9 := Lib.hid h9
      have H10 := Lib.hid h10
      clear h9 h10
      have hr12 : RC x m s 12 (X 12) w' := hR 12 (by decide) (by unfold Rinv.waits; kernel_rfl)
      obtain ⟨a3, c3, e12, h12⟩ := hr12
      rw [e12] at h12
      have H12 := Lib.hid h12
      clear h12
      have hr14 : RC x m s 14 (X 14) w' := hR 14 (by decide) (by unfold Rinv.waits; kernel_rfl)
      have e14 : X 14 = _ := hr14
      clear hr14
      clear hR
      simp only [Rinv.putAll, RCd, Act.put, Nat.reduceEqDiff, Nat.reduceAdd, if_true, if_false, List.setIfInBounds_toArray, List.set_cons_zero, List.set_cons_succ, e2, e5, e9, e12, e14]
      go_wp2_with fail
      exact HK.out _ _ (.agg #[.slice a0 m.sp.length c0, .slice a1 m.fi.length c1, .slice (some ⟨g, 0, none⟩) m.fo.length m.fo.length, .slice a3 m.la.length c3, .bool m.em]) (by simp only [Rinv.putAll, RCd, Act.put, Nat.reduceEqDiff, Nat.reduceAdd, if_true, if_false, List.setIfInBounds_toArray, List.set_cons_zero, List.set_cons_succ, e2, e5, e9, e12, e14]) (Below.refl _ _) (⟨a0, c0, a1, c1, g, a3, c3, rfl, H2.out, H5.out, H12.out, H9.out, H10.out⟩)
    · simp only [List.getD_cons_zero, List.getD_cons_succ]
      clear hR
      simp only [Rinv.putAll, RCd, Act.put, Nat.reduceEqDiff, Nat.reduceAdd, if_true, if_false, List.setIfInBounds_toArray, List.set_cons_zero, List.set_cons_succ]
      go_wp2_with fail
      exact HK.out _ _ (.pointer (some ⟨w'.heap.size, 0, none⟩)) (by simp only [Rinv.putAll, RCd, Act.put, Nat.reduceEqDiff, Nat.reduceAdd, if_true, if_false, List.setIfInBounds_toArray, List.set_cons_zero, List.set_cons_succ]) ((Below.refl _ _).alloc (Nat.le_refl _) _) (⟨_, rfl, Nat.lt_of_lt_of_le (Array.getElem?_eq_some_iff.1 HR.out).1 HBW.out.size, heap_alloc_new w' _⟩)
  · intro X w' hB hR K hK
    have HK := Lib.hid hK
    have HBW := Lib.hid hB
    clear hK hB
    simp only [List.getD_cons_zero, List.getD_cons_succ]
    have hr15 : RC x m s 15 (X 15) w' := hR 15 (by decide)
    obtain ⟨a0, c0, a1, c1, g, a3, c3, e15, h1, h2, h3, h4, h5⟩ := hr15
    have H1 := Lib.hid h1
    have H2 := Lib.hid h2
    have H3 := Lib.hid h3
    have H4 := Lib.hid h4
    have H5 := Lib.hid h5
    clear h1 h2 h3 h4 h5
    have hr16 : RC x m s 16 (X 16) w' := hR 16 (by decide)
    obtain ⟨q, e16, hs6, h7⟩ := hr16
    have H7 := Lib.hid h7
    have HS6 := Lib.hid hs6
    clear h7 hs6
    clear hR
    simp only [Rinv.putAll, RCd, Act.put, Nat.reduceEqDiff, Nat.reduceAdd, if_true, if_false, List.setIfInBounds_toArray, List.set_cons_zero, List.set_cons_succ, e15, e16]
    go_wp2_with (refine wpList_store_row rfl 27 (.tmp 3) (.tmp 21) rfl q #[.slice a0 m.sp.length c0, .slice a1 m.fi.length c1, .slice (some ⟨g, 0, none⟩) m.fo.length m.fo.length, .slice a3 m.la.length c3, .bool m.em] rfl rfl 27 _ H7.out (by kernel_rfl) rfl (by simp [Value.oneCell']) ?_)
    refine HK.out _ _ ?_
    clear HK
    have HI := Lib.hid (CpI.start (x := x) ((HX.out.kept HBW.out HX.out.lt)) ((HBW.out.block _ (Array.getElem?_eq_some_iff.1 HR.out).1).trans HR.out) H7.out H1.out H2.out H3.out H5.out H4.out HS6.out (HBs.out.trans (HBW.out.mono (Nat.le_of_lt HX.out.lt))) (Nat.le_trans (Nat.le_of_lt HX.out.lt) HBW.out.size))
    generalize w'.setRow q #[.slice a0 m.sp.length c0, .slice a1 m.fi.length c1, .slice (some ⟨g, 0, none⟩) m.fo.length m.fo.length, .slice a3 m.la.length c3, .bool m.em] = w2 at *
    generalize X 0 = y0 at *
    generalize X 1 = y1 at *
    generalize X 2 = y2 at *
    generalize X 3 = y3 at *
    generalize X 4 = y4 at *
    generalize X 5 = y5 at *
    generalize X 6 = y6 at *
    generalize X 7 = y7 at *
    generalize X 8 = y8 at *
    generalize X 9 = y9 at *
    generalize X 10 = y10 at *
    generalize X 11 = y11 at *
    generalize X 12 = y12 at *
    generalize X 13 = y13 at *
    generalize X 14 = y14 at *
    clear e15 e16 H1 H2 H3 H4 H5 H7 HS6 HBW HX HR HBs HM w' w1 HI0 HZ0
    have HFO := Lib.hid (HM0.out.fo)
    have c2 := HI.out.box.c2
    go_wp2_with fail
    go_loopw [4, 5, 25] (fun _ _ i wr => ∃ (j : Nat) (vs : Nat → Value), i = .int .i64 j ∧ j ≤ m.fo.length ∧ Hid (CpI w s g q x m (.slice a0 m.sp.length c0) (.slice a1 m.fi.length c1) (.slice a3 m.la.length c3) vs j wr)) (fun _ _ i _ => ((m.fo.length : Int) - intOf i).toNat)
    case atStart => exact ⟨0, _, rfl, Nat.zero_le _, HI⟩
    case round =>
      clear HI c2
      obtain ⟨j, vs, rfl, hj, HI⟩ := hrel
      generalize hwr : wr = w3 at *
      clear hwr wr
      by_cases hlt : j < m.fo.length
      · have hdd : decide ((j : Int) < (m.fo.length : Int)) = true := decide_eq_true (by omega)
        have hd2 : decide (j < m.fo.length) = true := decide_eq_true hlt
        obtain ⟨b, o, x5, c5, hoa, hc0, hn⟩ := (HFO.out.kept (hs.out ▸ HI.out.below)) j hlt
        rw [hoa]
        have HW1 : Hid (wrap64 ((j : Int) + 1) = ((j + 1 : Nat) : Int)) := Lib.hid (nat_wrap (by have := HF.out.fo; omega))
        have HJ := Lib.hid hlt
        have hjl : (j : Int) < (m.fo.length : Int) := by omega
        have HCL := Lib.hid (cloneN_any x5 c5 (m.fo.getD j []) w3.drew (hn.kept ((Below.refl _ _).drew)) (HF.out.each _ (getD_mem hlt)).1)
        clear hlt hoa hn
        generalize hlq : m.fo.getD j [] = l at *
        have HLQ := Lib.hid hlq
        clear hlq
        have cq : w3.cell? ⟨q, 2, none⟩ = some (.slice (some ⟨g, 0, none⟩) m.fo.length m.fo.length) := by rw [cell_of_row w3 q 2 _ _ _ HI.out.row]; rfl
        have HQL := Lib.hid (Array.getElem?_eq_some_iff.1 HI.out.row).1
        go_upto_region 5 with fail
        refine region_mix [(false, 0), (false, 1), (false, 2), (false, 3), (true, 4), (false, 5)] (fun w' => Below w3.heap.size w3 w') (by kernel_rfl) (by kernel_rfl) ((Below.refl _ _).drew) ?_
        simp only [planOps, List.map_cons, List.map_nil, List.getD_cons_zero, List.getD_cons_succ, List.length_cons, List.length_nil, List.drop_succ_cons, List.drop_zero]
        refine mix_seg (seg := [_, _, _, _]) rfl ((Below.refl _ _).drew) ?_
        intro ι hι F hF
        have f1 := fun n => ((hF n).cell (p := ⟨q, 2, none⟩) HQL.out).trans cq
        iterate 4 (go_big_quiet_step (fail))
        refine wpQuiet_nil ?_
        clear f1 hF hι F
        refine mix_eff (fun K hK => ?_)
        go_wp2_with (go_at_call 19; refine HCL.out.mono ?_; rintro e w4 ⟨v, rfl, ho4, hb4⟩; obtain ⟨a4, c4, rfl, -⟩ := own_slice ho4; have HO4 := Lib.hid ho4; have HB4 := Lib.hid (((Below.refl w3.heap.size w3).drew).trans hb4); clear ho4 hb4)
        refine mix_on hK HB4.out ?_
        clear hK K HCL
        refine mix_seg (seg := [_]) (rest := []) rfl HB4.out ?_
        intro ι hι F hF
        iterate 1 (go_big_quiet_step (fail))
        refine wpQuiet_nil ?_
        clear hF hι F
        show wpList _ _ _ _ _ _
        have HI4 := Lib.hid (HI.out.stay HB4.out)
        have hca := World.rowIs.cell HI4.out.fo HJ.out
        have hfr := World.rowIs.frozen HI4.out.fo j
        have HON : Hid (OwnN s w4 (.slice a4 l.length c4) (m.fo.getD j [])) := Lib.hid (by
          rw [HLQ.out]
          have h := HO4.out
          rw [World.size_drew] at h
          exact own_mono h (Nat.le_of_lt HI.out.box.lt))
        have HPUT := Lib.hid (HI4.out.put HON.out)
        clear HO4 cq hc0
        go_wp2_with fail
        refine NoPanic.normal ?_
        go_wp2_with fail
        go_roundw
        case rel => exact ⟨j + 1, _, by rw [HW1.out], HJ.out, HPUT⟩
        case measure => rw [HW1.out]; have := HJ.out; simp only [intOf]; omega
      · have hdd : decide ((j : Int) < (m.fo.length : Int)) = false := decide_eq_false (by omega)
        have hd2 : decide (j < m.fo.length) = false := decide_eq_false hlt
        have HE : Hid (j = m.fo.length) := Lib.hid (by omega)
        rw [HE.out] at HI
        clear hlt
        have HOW := Lib.hid (HI.out.own HF.out.fo)
        have HROW := Lib.hid HI.out.row
        have HRET := Lib.hid HI.out.ret
        have HLQ := Lib.hid HI.out.lq
        have HBE := Lib.hid HI.out.below
        have HSL := Lib.hid HI.out.box.lt
        clear HI
        go_wp2_with (first
          | (refine wpList_load_row rfl 27 (.tmp 3) rfl q rfl 27 (mc ⟨a0, c0, a1, c1, some ⟨g, 0, none⟩, m.fo.length, a3, c3⟩ m) (0, 0) _ HROW.out Tryd.underlying27 rfl (sizeMach _ _) ?_)
          | (refine wpList_store_row rfl 27 (.tmp 2) (.tmp 37) rfl (s + 1) (mc ⟨a0, c0, a1, c1, some ⟨g, 0, none⟩, m.fo.length, a3, c3⟩ m) rfl rfl 27 _ HRET.out (by kernel_rfl) rfl (oneMach _ _) ?_))
        refine bodyPost_ret (v := .agg (mc ⟨a0, c0, a1, c1, some ⟨g, 0, none⟩, m.fo.length, a3, c3⟩ m)) (results_cell_row (p := 2) Tryd.results7 _ _ (s + 1) 27 _ (0, 0) _ rfl (setRow_heap w3 _ _ _ _ _ HRET.out) Tryd.underlying27 rfl (sizeMach _ _)) rfl ⟨_, rfl, ?_, ?_⟩
        · rw [hs.out]
          refine HOW.out.move (fun k cs t hk ht => setRow_other _ _ _ _ (fun e => ?_))
          have h1 := HRET.out
          rw [← e, hk] at h1
          injection h1 with h1
          injection h1 with _ h2
          exact ht h2
        · rw [hs.out]
          exact But.below HBE.out (But.setRow _ _ _) (by omega) (Nat.le_of_lt HSL.out)
end Nf
end Go.Proofs.YtlbaecjmfgahgaaDoor
