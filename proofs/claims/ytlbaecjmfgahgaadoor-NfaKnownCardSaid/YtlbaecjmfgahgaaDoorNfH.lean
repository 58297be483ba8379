/- Trim. -/
import Derived.Test.YtlbaecjmfgahgaaDoorNfG
import Derived.Test.YtlbaecjmfgahgaaDoorInv
namespace Go.Proofs.YtlbaecjmfgahgaaDoor
open Go.RowKit Go.Shelf Sets Nf
attribute [local go_sem] Oper.semAt_some
namespace Nf
def RT (x : Ma) (m : Mc) (s b5 g n U : Nat) : Nat → Value → World → Prop
  | 0, v, _ => v = .pointer (some ⟨s, 1, none⟩)
  | 1, v, _ => v = .slice x.fa m.fi.length x.fc
  | 2, v, _ => v = .slice (some ⟨g, 0, none⟩) n n
  | 3, v, w => ∃ a c, v = .slice a (leftL U m.fi).length c ∧ OwnN s w v (leftL U m.fi)
  | 4, v, _ => v = .pointer (some ⟨s, 4, none⟩)
  | 5, v, _ => v = .bool m.em
  | 6, v, w => ∃ a c, v = .agg #[.slice none 0 0, .slice a (leftL U m.fi).length c, .slice none 0 0, .slice none 0 0, .bool m.em] ∧ OwnN s w (.slice a (leftL U m.fi).length c) (leftL U m.fi)
  | 7, v, w => ∃ q, v = .pointer (some ⟨q, 0, none⟩) ∧ s + 1 < q ∧ b5 < q ∧ w.heap[q]? = some (.cells #[.slice none 0 0, .slice none 0 0, .slice none 0 0, .slice none 0 0, .bool false] 27 (0, 0))
  | _, _, _ => True
theorem RT_mono (x : Ma) (m : Mc) (s b5 g n U : Nat) (i : Nat) (v : Value) (w w' : World) (hb : Below w.heap.size w w') (h : RT x m s b5 g n U i v w) : RT x m s b5 g n U i v w' := by
  match i with
  | 0 => exact h
  | 1 => exact h
  | 2 => exact h
  | 3 => obtain ⟨a, c, e, h1⟩ := h; exact ⟨a, c, e, own_stay h1 hb⟩
  | 4 => exact h
  | 5 => exact h
  | 6 => obtain ⟨a, c, e, h1⟩ := h; exact ⟨a, c, e, own_stay h1 hb⟩
  | 7 => obtain ⟨q, e, h0, h1, h2⟩ := h; exact ⟨q, e, h0, h1, (hb.block q (Array.getElem?_eq_some_iff.1 h2).1).trans h2⟩
  | n + 8 => exact h
def RTd (i : Nat) : Nat := if i = 7 then 6 else i + 19
theorem nums_row {w w' : World} {g : Nat} {l : List Int} (h : NumsIn w (some ⟨g, 0, none⟩) l) (e : w'.heap[g]? = w.heap[g]?) : NumsIn w' (some ⟨g, 0, none⟩) l := fun i hi => by
  obtain ⟨b, o, eq, hc⟩ := h i hi
  injection eq with eq
  injection eq with e1 e2
  subst e1 e2
  exact ⟨g, 0, rfl, (World.cell?_of_block (w := w) e).trans hc⟩
theorem keeps_ap {w w' : World} {v v' : Value} {B size n : Nat} {e : TypeId} {xs : List Value} (ha : Ap w v w' v') (ho : w.ownsRow B e size v n xs) : KeepsOthers w w' :=
  ⟨ha.size, fun k o hk hc => by
    rw [ha.block k (Array.getElem?_eq_some_iff.1 hk).1 (fun hv => ?_)]
    · exact hk
    · obtain ⟨cs, h2⟩ := own_type ho hv
      rw [hk] at h2
      injection h2 with h2
      rw [h2] at hc
      cases hc⟩
theorem listN_kept {m : Mc} {U : Nat} (h : Us m U) (hn : m.sp.length ≤ 256) : listN U = kept U m.sp.length := by
  unfold listN kept
  obtain ⟨d, hd⟩ : ∃ d, 256 = m.sp.length + d := ⟨256 - m.sp.length, by omega⟩
  rw [hd, List.range_add, List.filter_append]
  have : ((List.range d).map (m.sp.length + ·)).filter U.testBit = [] := by
    rw [List.filter_eq_nil_iff]
    intro k hk hb
    obtain ⟨j, -, rfl⟩ := List.mem_map.1 hk
    have := h.lt hb
    omega
  rw [this, List.append_nil]
theorem OwnM.move {B : Nat} {w w' : World} {x : Ma} {m : Mc} (h : OwnM B w x m) (hk : ∀ (k : Nat) (cs : Array Value) (t : TypeId), w.heap[k]? = some (.cells cs t (0, 0)) → t ≠ 27 → w'.heap[k]? = w.heap[k]?) : OwnM B w' x m := by
  have ho : ∀ {B size n : Nat} {e : TypeId} {v : Value} {xs : List Value}, w.ownsRow B e size v n xs → e ≠ 27 → w'.ownsRow B e size v n xs := fun {B size n e v xs} h he => own_kept h fun q hq => by
    obtain ⟨cs, hc⟩ := own_type h hq
    exact hk q cs e hc he
  obtain ⟨vs, h1, h2, h3⟩ := h.fo
  exact ⟨ho h.sp (by decide), ho h.fi (by decide), ⟨vs, h1, ho h2 (by decide), fun i hi => ho (h3 i hi) (by decide)⟩, ho h.la (by decide)⟩
theorem results_cell_tmp {P : Program} {fn : Func} {p q : Tmp} {ty : TypeId} (h : fn.results = #[.cell p ty, .tmp q]) (tmps : Array Value) (w : World) (g : Nat) (t : TypeId) (cs : Array Value) (fr : Nat × Nat) (d : TypeDesc) (v : Value)
    (hp : tmps.getD p undef = .pointer (some ⟨g, 0, none⟩)) (hq : tmps.getD q undef = v) (hg : w.heap[g]? = some (.cells cs t fr))
    (hu : P.underlying ty = some d) (hd : (match d with | .struct _ | .array _ _ => true | _ => false) = true) (hi : (P.info? ty).map (·.size) = some cs.size) :
    (results fn tmps).run P w = .ok (.tuple #[.agg cs, v]) w := by
  have hp' : tmps[p]?.getD undef = .pointer (some ⟨g, 0, none⟩) := by simpa using hp
  have hq' : tmps[q]?.getD undef = v := by simpa using hq
  simp [results, h, hp', hq', asAddr, run_loadVar_row w g t ty cs fr d hg hu hd hi]
theorem infoBool : (Tryd.prog.info? 4).map (fun i => (i.zero, i.size, i.bytes)) = some (some (.bool false), 1, 1) := by kernel_rfl
theorem infoSpot : (Tryd.prog.info? 41).map (fun i => (i.zero, i.size, i.bytes)) = some (some (.agg zero5), 5, 40) := by kernel_rfl
/-- What the rounds of Trim keep. -/
structure TmI (s b5 b6 g n n9 U : Nat) (x : Ma) (m : Mc) (w0 : World) (csN : Array Value) (ps po pl : List Nat) (sv fv ov lv : Value) (vs : List Value) (W : World) : Prop where
  tr : TrI s b6 m U w0 ps po pl sv fv ov lv vs W
  box : BoxM W s x m
  c5 : W.heap[b5]? = some (.cells #[.slice (some ⟨g, 0, none⟩) n n] 23 (0, 0))
  nums : W.heap[g]? = some (.cells csN 3 (0, 0))
  ret : W.heap[s + 1]? = some (.cells #[.slice none 0 0, .slice none 0 0, .slice none 0 0, .slice none 0 0, .bool false] 27 (0, 0))
  no5 : ∀ q, ov.ownBlock = some q → q ≠ b5
  s1 : s + 1 < b6
  l5 : b5 < b6
  size : n9 ≤ W.heap.size
theorem TmI.fr {s b5 b6 g n n9 U : Nat} {x : Ma} {m : Mc} {w0 : World} {csN : Array Value} {ps po pl ps' po' pl' : List Nat} {sv fv ov lv sv' ov' lv' : Value} {vs vs' : List Value} {W W2 : World} {i : Nat} {v : Value} {T : TypeId}
    (h : TmI s b5 b6 g n n9 U x m w0 csN ps po pl sv fv ov lv vs W) (hf : Fr b6 T W W2) (hT1 : T ≠ 27) (hT2 : T ≠ 3) (h5 : W2.heap[b5]? = W.heap[b5]?) (hs : W.heap.size ≤ W2.heap.size)
    (hn5 : ∀ q, ov'.ownBlock = some q → q ≠ b5) (ht : TrI s b6 m U w0 ps' po' pl' sv' fv ov' lv' vs' (W2.setCell ⟨b6, i, none⟩ v)) :
    TmI s b5 b6 g n n9 U x m w0 csN ps' po' pl' sv' fv ov' lv' vs' (W2.setCell ⟨b6, i, none⟩ v) := by
  have hf2 := hf.set (i := i) v
  have hgb : g ≠ b6 := fun e => by
    have h1 := h.nums
    rw [e, h.tr.row] at h1
    injection h1 with h1
    injection h1 with _ h2
    exact absurd h2 (by decide)
  refine ⟨ht, ⟨hf2 _ _ _ _ h.box.row hT1.symm (by have := h.s1; omega)⟩, ?_, hf2 _ _ _ _ h.nums hT2.symm hgb, hf2 _ _ _ _ h.ret hT1.symm (by have := h.s1; omega), hn5, h.s1, h.l5, ?_⟩
  · rw [Below.heap_setCell _ _ _ _ (by have := h.l5; show b5 ≠ b6; omega), h5]; exact h.c5
  · rw [World.size_setCell]; exact Nat.le_trans h.size hs
theorem TmI.stay {s b5 b6 g n n9 U : Nat} {x : Ma} {m : Mc} {w0 : World} {csN : Array Value} {ps po pl : List Nat} {sv fv ov lv : Value} {vs : List Value} {W W2 : World}
    (h : TmI s b5 b6 g n n9 U x m w0 csN ps po pl sv fv ov lv vs W) (hb : Below W.heap.size W W2) : TmI s b5 b6 g n n9 U x m w0 csN ps po pl sv fv ov lv vs W2 :=
  ⟨h.tr.stay hb (Nat.le_of_lt h.box.lt), h.box.kept hb h.box.lt, (hb.block _ (Array.getElem?_eq_some_iff.1 h.c5).1).trans h.c5, (hb.block _ (Array.getElem?_eq_some_iff.1 h.nums).1).trans h.nums, (hb.block _ (Array.getElem?_eq_some_iff.1 h.ret).1).trans h.ret, h.no5, h.s1, h.l5, Nat.le_trans h.size hb.size⟩
theorem TmI.grown {s b5 b6 g n n9 U : Nat} {x : Ma} {m : Mc} {w0 : World} {csN : Array Value} {ps po pl : List Nat} {sv fv ov lv : Value} {vs : List Value} {W W2 : World} {row : Option Nat}
    (h : TmI s b5 b6 g n n9 U x m w0 csN ps po pl sv fv ov lv vs W) (hg : W.grownBy W2 row) (hne : ∀ (k : Nat) (cs : Array Value) (t : TypeId) (fr : Nat × Nat), W.heap[k]? = some (.cells cs t fr) → some k ≠ row) (hbl : ∀ k, row = some k → s ≤ k) : TmI s b5 b6 g n n9 U x m w0 csN ps po pl sv fv ov lv vs W2 := by
  have hk : ∀ (k : Nat) (cs : Array Value) (t : TypeId) (fr : Nat × Nat), W.heap[k]? = some (.cells cs t fr) → W2.heap[k]? = some (.cells cs t fr) := fun k cs t fr h => (hg.block k (Array.getElem?_eq_some_iff.1 h).1 (hne k cs t fr h)).trans h
  have ho : ∀ {B size n : Nat} {e : TypeId} {v : Value} {xs : List Value}, W.ownsRow B e size v n xs → W2.ownsRow B e size v n xs := fun {B size n e v xs} h => own_kept h fun q hq => by
    obtain ⟨cs, hc⟩ := own_type h hq
    rw [hk q cs e _ hc, hc]
  exact ⟨⟨hk _ _ _ _ h.tr.row, ho h.tr.sp, ho h.tr.fi, ho h.tr.fo, h.tr.len, fun i hi => ho (h.tr.each i hi), ho h.tr.la, h.tr.low, h.tr.below.grown hg (Nat.le_of_lt h.box.lt) hbl⟩, ⟨hk _ _ _ _ h.box.row⟩, hk _ _ _ _ h.c5, hk _ _ _ _ h.nums, hk _ _ _ _ h.ret, h.no5, h.s1, h.l5, Nat.le_trans h.size hg.size⟩
def TmP (s b5 b6 g n n9 U : Nat) (x : Ma) (m : Mc) (w0 : World) (csN : Array Value) (pre : List (In U)) (W : World) : Prop :=
  ∃ sv fv ov lv vs, TmI s b5 b6 g n n9 U x m w0 csN (pre.map Subtype.val) (pre.map Subtype.val) (pre.map Subtype.val) sv fv ov lv vs W
/-- a store into the machine in the making behind an append -/
theorem TmI.put {s b5 b6 g n n9 U : Nat} {x : Ma} {m : Mc} {w0 : World} {csN : Array Value} {ps po pl : List Nat} {sv fv ov lv : Value} {vs : List Value} {W W2 : World} {v v' : Value} {size q : Nat} {e : TypeId} {xs : List Value}
    (h : TmI s b5 b6 g n n9 U x m w0 csN ps po pl sv fv ov lv vs W) (ha : Ap W v W2 v') (ho : W.ownsRow s e size v q xs) (he : e ≠ 27) :
    W2.heap[b6]? = W.heap[b6]? ∧ Fr b6 e W W2 ∧ KeepsOthers W W2 ∧ (∀ i u, W2.heap[b6]? = some (.cells #[sv, fv, ov, lv, .bool m.em] 27 (0, 0)) → KeepsOthers W (W2.setCell ⟨b6, i, none⟩ u)) := by
  have hk := keeps_ap ha ho
  refine ⟨ha.block b6 (Array.getElem?_eq_some_iff.1 h.tr.row).1 (fun e2 => h.tr.notB ho he b6 e2 rfl), ha.fr ho b6, hk, fun i u hr => hk.trans (keeps_cell hr u)⟩
set_option maxHeartbeats 12800000 in
set_option maxRecDepth 100000 in
theorem trim_any (x : Ma) (m : Mc) (w : World) (h : MAt w x m) (hf : Fine m) (hr : Rt m) (hT : Tab w) :
    Calls Tryd.prog 8 #[.agg (mc x m)] w fun e w' => ∃ y, e = .returned (.tuple #[.agg (mc y (trimM m (useN m))), .int .i64 0]) ∧ OwnM w.heap.size w' y (trimM m (useN m)) ∧ Below w.heap.size w w' := by
  have HG : Hid (0 < w.heap.size) := Lib.hid (World.block_lt_of_cell? _ _ (hT 0 (by decide)))
  have HF := Lib.hid hf
  have HRT := Lib.hid hr
  have HT0 := Lib.hid hT
  have HM0 := Lib.hid h
  obtain ⟨n, hn⟩ : ∃ n, Hid (m.sp.length = n) := ⟨_, Lib.hid rfl⟩
  obtain ⟨U, hU⟩ : ∃ U, Hid (useN m = U) := ⟨_, Lib.hid rfl⟩
  have HUS : Hid (Us m U) := Lib.hid (by rw [← hU.out]; exact useN_us hr)
  have HN : Hid (n ≤ 250) := Lib.hid (by rw [← hn.out]; exact hr.many)
  have HFI : Hid (∀ k ∈ m.fi, 0 ≤ k ∧ k < (numsU U n).length) := Lib.hid (fun k hk => by
    rw [numsU_len, ← hn.out]
    exact ((rise_iff _ _).1 hr.fiR).1 k hk)
  have HFN : Hid (∀ k ∈ m.fi, 0 ≤ k ∧ k < (n : Int)) := Lib.hid (fun k hk => by
    rw [← hn.out]
    exact ((rise_iff _ _).1 hr.fiR).1 k hk)
  have HRI := Lib.hid ((right_iff m).2 hr)
  clear h hf hr hT
  rw [hU.out]
  refine (callsIn_wide (n := 9)).1 ?_
  refine callsIn_of_wp_marks Tryd.func8 rfl trivial ?_ rfl
  simp only [Tryd.ntmps8, List.size_toArray, List.length_cons, List.length_nil, Nat.reduceAdd, Nat.reduceSub, Array.replicate_succ, Array.replicate_zero, List.push_toArray, List.append_toArray, List.nil_append, List.cons_append]
  refine wpIn_wide.2 ?_
  go_upto_region 1 with fail
  have hz : (w.alloc (.cells (mc x m) 27)).heap.size = w.heap.size + 1 := by simp
  have hal := (Below.refl (w.heap.size + 1) (w.alloc (.cells (mc x m) 27))).alloc (by simp) (.cells #[.slice none 0 0, .slice none 0 0, .slice none 0 0, .slice none 0 0, .bool false] 27)
  have HX1 := Lib.hid ((BoxM.new w x m).kept hal (by omega))
  have HR1 := Lib.hid (heap_alloc_new (w.alloc (.cells (mc x m) 27)) (.cells #[.slice none 0 0, .slice none 0 0, .slice none 0 0, .slice none 0 0, .bool false] 27))
  have HB1 := Lib.hid (((Below.refl w.heap.size w).alloc (Nat.le_refl _) (.cells (mc x m) 27)).trans (hal.mono (Nat.le_succ _)))
  rw [hz] at HR1
  clear hal hz
  generalize (w.alloc (.cells (mc x m) 27)).alloc (.cells #[.slice none 0 0, .slice none 0 0, .slice none 0 0, .slice none 0 0, .bool false] 27) = w1 at *
  obtain ⟨s, hs⟩ : ∃ s, Hid (w.heap.size = s) := ⟨_, Lib.hid rfl⟩
  have HBs : Hid (Below s w w1) := Lib.hid (by rw [← hs.out]; exact HB1.out)
  rw [hs.out] at HX1 HR1 HG ⊢
  have HRG := Lib.hid (nright_any x m w1 (HM0.out.kept HB1.out) HF.out)
  rw [mv_eq, HRI.out] at HRG
  have HUF := fun w2 (hb : Below s w w2) => useful_any x m w2 (HM0.out.kept (hs.out ▸ hb)) HF.out HRT.out (HT0.out.below (hs.out ▸ hb) (by rw [hs.out]; exact HG.out))
  rw [hU.out] at HUF
  have HUU := Lib.hid HUF
  clear HUF HB1
  go_upto_region 4 with (first
    | (refine wpList_load_mach rfl (.tmp 1) rfl s x m rfl HX1.out ?_)
    | (go_at_call 15; refine HRG.out.mono ?_; rintro e w2 ⟨rfl, hb2⟩; have HB2 := Lib.hid hb2; have HX2 := Lib.hid (HX1.out.kept hb2 HX1.out.lt); have HBs2 := Lib.hid (HBs.out.trans (hb2.mono (Nat.le_of_lt HX1.out.lt))); clear hb2)
    | (refine wpList_load_mach rfl (.tmp 1) rfl s x m rfl HX2.out ?_)
    | (go_at_call 21; refine (HUU.out _ HBs2.out).mono ?_; rintro e w3 ⟨rfl, hb3⟩; have HB3 := Lib.hid hb3; clear hb3)
    | (refine wpList_lay_set rfl (.tmp 4) (.tmp 13) rfl U _ rfl rfl rfl ?_))
  rw [show ∀ a : Act, a.put none undef = a from fun _ => rfl]
  have hal := (Below.refl w3.heap.size w3).alloc (Nat.le_refl _) (.cells (setC U) 39)
  have h3 := HB3.out.trans (hal.mono HB3.out.size)
  have HX4 := Lib.hid (HX2.out.kept h3 HX2.out.lt)
  have HR4 := Lib.hid ((h3.block (s + 1) (Nat.lt_of_lt_of_le (Array.getElem?_eq_some_iff.1 HR1.out).1 HB2.out.size)).trans ((HB2.out.block (s + 1) (Array.getElem?_eq_some_iff.1 HR1.out).1).trans HR1.out))
  have HS4 := Lib.hid (SetB.new w3 U)
  have HB4 := Lib.hid (HBs2.out.trans (h3.mono (Nat.le_of_lt HX2.out.lt)))
  obtain ⟨b4, hb4⟩ : ∃ b, Hid (w3.heap.size = b) := ⟨_, Lib.hid rfl⟩
  rw [hb4.out] at HS4 ⊢
  clear hal h3 HX2 HR1 HBs2 HB3 HB2 HX1 HBs HRG HUU
  generalize w3.alloc (.cells (setC U) 39) = w4 at *
  clear hb4
  have c0 := HX4.out.c0
  have HNB := Lib.hid (numbered_any U n w4 (fun k hk => by rw [← hn.out]; exact HUS.out.lt hk) HN.out (HT0.out.below (hs.out ▸ HB4.out) (by rw [hs.out]; exact HG.out)))
  rw [hn.out] at c0
  go_upto_region 5 with (first
    | (refine wpList_load_set rfl (.tmp 4) rfl b4 U rfl HS4.out ?_)
    | (go_at_call 22; refine HNB.out.mono ?_; rintro e w5 ⟨g, rfl, hg5, hgt, hgl, hb5⟩; have HG5 := Lib.hid hg5; have HGT5 := Lib.hid hgt; have HGL5 := Lib.hid hgl; have HB5 := Lib.hid hb5; clear hg5 hgt hgl hb5 c0))
  obtain ⟨b5, hb5⟩ : ∃ b, Hid (w5.heap.size = b) := ⟨_, Lib.hid rfl⟩
  obtain ⟨csN, hcsN⟩ := HGT5.out
  have hal := (Below.refl w5.heap.size w5).alloc (Nat.le_refl _) (.cells #[.slice (some ⟨g, 0, none⟩) n n] 23)
  have h46 := HB5.out.trans (hal.mono HB5.out.size)
  have HX := Lib.hid (HX4.out.kept h46 HX4.out.lt)
  have HR := Lib.hid ((h46.block (s + 1) (Array.getElem?_eq_some_iff.1 HR4.out).1).trans HR4.out)
  have HS := Lib.hid (HS4.out.stay h46)
  have HB := Lib.hid (HB4.out.trans (h46.mono (Nat.le_of_lt HX4.out.lt)))
  have HNU := Lib.hid (HG5.out.kept hal)
  have HCN := Lib.hid ((hal.block g (Array.getElem?_eq_some_iff.1 hcsN).1).trans hcsN)
  have HC5 := Lib.hid (heap_alloc_new w5 (.cells #[.slice (some ⟨g, 0, none⟩) n n] 23))
  have HL5 : Hid (w5.heap.size < (w5.alloc (.cells #[.slice (some ⟨g, 0, none⟩) n n] 23)).heap.size) := Lib.hid (by simp)
  rw [hb5.out] at HC5 HL5 ⊢
  clear hal h46 HX4 HR4 HS4 HB4 HG5 HGT5 HGL5 HB5 HNB hcsN
  generalize w5.alloc (.cells #[.slice (some ⟨g, 0, none⟩) n n] 23) = w6 at *
  clear hb5 w1 w2 w3 w4 w5
  have HM := Lib.hid (HM0.out.kept (hs.out ▸ HB.out))
  refine Rinv.region_inv' (RT x m s b5 g n U) 8 RTd (by kernel_rfl) (by kernel_rfl) ?_ (RT_mono x m s b5 g n U) ?_ ?_
  · intro j hj
    have : j = 0 ∨ j = 1 ∨ j = 2 ∨ j = 3 ∨ j = 4 ∨ j = 5 ∨ j = 6 ∨ j = 7 := by omega
    rcases this with rfl | rfl | rfl | rfl | rfl | rfl | rfl | rfl <;> rfl
  · intro i hi X w' hB hR K hK
    have HK := Lib.hid hK
    have HBW := Lib.hid hB
    clear hK hB
    have hi' : i = 0 ∨ i = 1 ∨ i = 2 ∨ i = 3 ∨ i = 4 ∨ i = 5 ∨ i = 6 ∨ i = 7 := by omega
    rcases hi' with rfl | rfl | rfl | rfl | rfl | rfl | rfl | rfl
    · simp only [List.getD_cons_zero]
      clear hR
      simp only [Rinv.putAll, RTd, Act.put, Nat.reduceEqDiff, Nat.reduceAdd, if_true, if_false, List.setIfInBounds_toArray, List.set_cons_zero, List.set_cons_succ]
      go_wp2_with fail
      exact HK.out _ _ (.pointer (some ⟨s, 1, none⟩)) (by simp only [Rinv.putAll, RTd, Act.put, Nat.reduceEqDiff, Nat.reduceAdd, if_true, if_false, List.setIfInBounds_toArray, List.set_cons_zero, List.set_cons_succ]) (Below.refl _ _) (rfl)
    · simp only [List.getD_cons_zero, List.getD_cons_succ]
      have hr0 : RT x m s b5 g n U 0 (X 0) w' := hR 0 (by decide) (by unfold Rinv.waits; kernel_rfl)
      have e0 : X 0 = _ := hr0
      clear hr0
      clear hR
      have c1 := (HX.out.kept HBW.out HX.out.lt).c1
      simp only [Rinv.putAll, RTd, Act.put, Nat.reduceEqDiff, Nat.reduceAdd, if_true, if_false, List.setIfInBounds_toArray, List.set_cons_zero, List.set_cons_succ, e0]
      go_wp2_with fail
      exact HK.out _ _ (.slice x.fa m.fi.length x.fc) (by simp only [Rinv.putAll, RTd, Act.put, Nat.reduceEqDiff, Nat.reduceAdd, if_true, if_false, List.setIfInBounds_toArray, List.set_cons_zero, List.set_cons_succ, e0]) (Below.refl _ _) (rfl)
    · simp only [List.getD_cons_zero, List.getD_cons_succ]
      clear hR
      have c5 : w'.cell? ⟨b5, 0, none⟩ = some (.slice (some ⟨g, 0, none⟩) n n) := by rw [cell_of_row w' b5 0 _ _ _ ((HBW.out.block b5 HL5.out).trans HC5.out)]; rfl
      simp only [Rinv.putAll, RTd, Act.put, Nat.reduceEqDiff, Nat.reduceAdd, if_true, if_false, List.setIfInBounds_toArray, List.set_cons_zero, List.set_cons_succ]
      go_wp2_with fail
      exact HK.out _ _ (.slice (some ⟨g, 0, none⟩) n n) (by simp only [Rinv.putAll, RTd, Act.put, Nat.reduceEqDiff, Nat.reduceAdd, if_true, if_false, List.setIfInBounds_toArray, List.set_cons_zero, List.set_cons_succ]) (Below.refl _ _) (rfl)
    · simp only [List.getD_cons_zero, List.getD_cons_succ]
      have hr1 : RT x m s b5 g n U 1 (X 1) w' := hR 1 (by decide) (by unfold Rinv.waits; kernel_rfl)
      have e1 : X 1 = _ := hr1
      clear hr1
      have hr2 : RT x m s b5 g n U 2 (X 2) w' := hR 2 (by decide) (by unfold Rinv.waits; kernel_rfl)
      have e2 : X 2 = _ := hr2
      clear hr2
      clear hR
      have HLF := Lib.hid (left_any x.fa (some ⟨g, 0, none⟩) x.fc n m.fi (numsU U n) w' (HM.out.kept HBW.out).fi (HNU.out.kept HBW.out) HF.out.fi HFI.out)
      rw [numsU_len] at HLF
      have HSL : Hid (s ≤ w'.heap.size) := Lib.hid (Nat.le_trans (Nat.le_of_lt HX.out.lt) HBW.out.size)
      simp only [Rinv.putAll, RTd, Act.put, Nat.reduceEqDiff, Nat.reduceAdd, if_true, if_false, List.setIfInBounds_toArray, List.set_cons_zero, List.set_cons_succ, e1, e2]
      go_wp2_with (go_at_call 23; refine HLF.out.mono ?_; rintro e w4 ⟨v4, rfl, ho4, hb⟩; rw [leftN_U U m.fi HFN.out] at ho4; obtain ⟨a4, c4, rfl, -⟩ := own_slice ho4; have HO4 := Lib.hid ho4; clear ho4)
      exact HK.out _ _ (.slice a4 (leftL U m.fi).length c4) (by simp only [Rinv.putAll, RTd, Act.put, Nat.reduceEqDiff, Nat.reduceAdd, if_true, if_false, List.setIfInBounds_toArray, List.set_cons_zero, List.set_cons_succ, e1, e2]) (hb) (⟨a4, c4, rfl, own_mono HO4.out HSL.out⟩)
    · simp only [List.getD_cons_zero, List.getD_cons_succ]
      clear hR
      simp only [Rinv.putAll, RTd, Act.put, Nat.reduceEqDiff, Nat.reduceAdd, if_true, if_false, List.setIfInBounds_toArray, List.set_cons_zero, List.set_cons_succ]
      go_wp2_with fail
      exact HK.out _ _ (.pointer (some ⟨s, 4, none⟩)) (by simp only [Rinv.putAll, RTd, Act.put, Nat.reduceEqDiff, Nat.reduceAdd, if_true, if_false, List.setIfInBounds_toArray, List.set_cons_zero, List.set_cons_succ]) (Below.refl _ _) (rfl)
    · simp only [List.getD_cons_zero, List.getD_cons_succ]
      have hr4 : RT x m s b5 g n U 4 (X 4) w' := hR 4 (by decide) (by unfold Rinv.waits; kernel_rfl)
      have e4 : X 4 = _ := hr4
      clear hr4
      clear hR
      have c4 := (HX.out.kept HBW.out HX.out.lt).c4
      simp only [Rinv.putAll, RTd, Act.put, Nat.reduceEqDiff, Nat.reduceAdd, if_true, if_false, List.setIfInBounds_toArray, List.set_cons_zero, List.set_cons_succ, e4]
      go_wp2_with fail
      exact HK.out _ _ (.bool m.em) (by simp only [Rinv.putAll, RTd, Act.put, Nat.reduceEqDiff, Nat.reduceAdd, if_true, if_false, List.setIfInBounds_toArray, List.set_cons_zero, List.set_cons_succ, e4]) (Below.refl _ _) (rfl)
    · simp only [List.getD_cons_zero, List.getD_cons_succ]
      have hr3 : RT x m s b5 g n U 3 (X 3) w' := hR 3 (by decide) (by unfold Rinv.waits; kernel_rfl)
      obtain ⟨a3, c3, e3, h3⟩ := hr3
      have H3 := Lib.hid h3
      clear h3
      have hr5 : RT x m s b5 g n U 5 (X 5) w' := hR 5 (by decide) (by unfold Rinv.waits; kernel_rfl)
      have e5 : X 5 = _ := hr5
      clear hr5
      clear hR
      simp only [Rinv.putAll, RTd, Act.put, Nat.reduceEqDiff, Nat.reduceAdd, if_true, if_false, List.setIfInBounds_toArray, List.set_cons_zero, List.set_cons_succ, e3, e5]
      go_wp2_with fail
      exact HK.out _ _ (.agg #[.slice none 0 0, .slice a3 (leftL U m.fi).length c3, .slice none 0 0, .slice none 0 0, .bool m.em]) (by simp only [Rinv.putAll, RTd, Act.put, Nat.reduceEqDiff, Nat.reduceAdd, if_true, if_false, List.setIfInBounds_toArray, List.set_cons_zero, List.set_cons_succ, e3, e5]) (Below.refl _ _) (⟨a3, c3, rfl, by have h := H3.out; rw [e3] at h; exact h⟩)
    · simp only [List.getD_cons_zero, List.getD_cons_succ]
      clear hR
      simp only [Rinv.putAll, RTd, Act.put, Nat.reduceEqDiff, Nat.reduceAdd, if_true, if_false, List.setIfInBounds_toArray, List.set_cons_zero, List.set_cons_succ]
      go_wp2_with fail
      exact HK.out _ _ (.pointer (some ⟨w'.heap.size, 0, none⟩)) (by simp only [Rinv.putAll, RTd, Act.put, Nat.reduceEqDiff, Nat.reduceAdd, if_true, if_false, List.setIfInBounds_toArray, List.set_cons_zero, List.set_cons_succ]) ((Below.refl _ _).alloc (Nat.le_refl _) _) (⟨_, rfl, Nat.lt_of_lt_of_le (Array.getElem?_eq_some_iff.1 HR.out).1 HBW.out.size, Nat.lt_of_lt_of_le HL5.out HBW.out.size, heap_alloc_new w' _⟩)
  · intro X w' hB hR K hK
    have HK := Lib.hid hK
    have HBW := Lib.hid hB
    clear hK hB
    simp only [List.getD_cons_zero, List.getD_cons_succ]
    have hr6 : RT x m s b5 g n U 6 (X 6) w' := hR 6 (by decide)
    obtain ⟨a6, c6, e6, h6⟩ := hr6
    have H6 := Lib.hid h6
    clear h6
    have hr7 : RT x m s b5 g n U 7 (X 7) w' := hR 7 (by decide)
    obtain ⟨b6, e7, hs6, h56, h7⟩ := hr7
    have H7 := Lib.hid h7
    have HS6 := Lib.hid hs6
    have H56 := Lib.hid h56
    clear h7 hs6 h56
    clear hR
    simp only [Rinv.putAll, RTd, Act.put, Nat.reduceEqDiff, Nat.reduceAdd, if_true, if_false, List.setIfInBounds_toArray, List.set_cons_zero, List.set_cons_succ, e6, e7]
    go_wp2_with (refine wpList_store_row rfl 27 (.tmp 6) (.tmp 25) rfl b6 #[.slice none 0 0, .slice a6 (leftL U m.fi).length c6, .slice none 0 0, .slice none 0 0, .bool m.em] rfl rfl 27 _ H7.out (by kernel_rfl) rfl (by simp [Value.oneCell']) ?_)
    refine HK.out _ _ ?_
    clear HK
    have hfi := H6.out
    have hr6 : (w'.setRow b6 #[.slice none 0 0, .slice a6 (leftL U m.fi).length c6, .slice none 0 0, .slice none 0 0, .bool m.em]).heap[b6]? = some (.cells #[.slice none 0 0, .slice a6 (leftL U m.fi).length c6, .slice none 0 0, .slice none 0 0, .bool m.em] 27 (0, 0)) := setRow_heap w' b6 _ _ _ _ H7.out
    have hbut := But.setRow b6 w' #[.slice none 0 0, .slice a6 (leftL U m.fi).length c6, .slice none 0 0, .slice none 0 0, .bool m.em]
    have hs6 : s < b6 := Nat.lt_of_succ_lt HS6.out
    have h56 := H56.out
    have hb6l : b6 < w'.heap.size := (Array.getElem?_eq_some_iff.1 H7.out).1
    have hsw : s < w'.heap.size := by omega
    have hbo : ∀ q, (Value.slice a6 (leftL U m.fi).length c6).ownBlock = some q → q ≠ b6 := fun q hq e => by
      obtain ⟨cs, hc⟩ := own_type H6.out hq
      rw [e, H7.out] at hc
      injection hc with hc
      injection hc with _ h2
      exact absurd h2 (by decide)
    have hgb : g ≠ b6 := fun e => by
      have h1 := (HBW.out.block g (Array.getElem?_eq_some_iff.1 HCN.out).1).trans HCN.out
      rw [e, H7.out] at h1
      injection h1 with h1
      injection h1 with _ h2
      exact absurd h2 (by decide)
    have hs1 : s + 1 < b6 := HS6.out
    have b8 : Below s w (w'.setRow b6 #[.slice none 0 0, .slice a6 (leftL U m.fi).length c6, .slice none 0 0, .slice none 0 0, .bool m.em]) := But.below (HB.out.trans (HBW.out.mono (Nat.le_of_lt HX.out.lt))) hbut (by omega) (by omega)
    have TM : Hid (TmI s b5 b6 g n (w'.setRow b6 #[.slice none 0 0, .slice a6 (leftL U m.fi).length c6, .slice none 0 0, .slice none 0 0, .bool m.em]).heap.size U x m w csN [] [] [] (.slice none 0 0) (.slice a6 (leftL U m.fi).length c6) (.slice none 0 0) (.slice none 0 0) [] (w'.setRow b6 #[.slice none 0 0, .slice a6 (leftL U m.fi).length c6, .slice none 0 0, .slice none 0 0, .bool m.em])) := Lib.hid
      ⟨⟨hr6, World.ownsRow_nil _ _ _ _, own_kept hfi fun q hq => setRow_other _ _ _ _ (hbo q hq), World.ownsRow_nil _ _ _ _, rfl, fun i hi => by simp at hi, World.ownsRow_nil _ _ _ _, hs6, b8⟩,
        ⟨(setRow_other _ _ _ _ (by omega)).trans ((HBW.out.block s HX.out.lt).trans HX.out.row)⟩, (setRow_other _ _ _ _ (by omega)).trans ((HBW.out.block b5 HL5.out).trans HC5.out), (setRow_other _ _ _ _ hgb).trans ((HBW.out.block g (Array.getElem?_eq_some_iff.1 HCN.out).1).trans HCN.out),
        (setRow_other _ _ _ _ (by omega)).trans ((HBW.out.block (s + 1) (Array.getElem?_eq_some_iff.1 HR.out).1).trans HR.out), (fun q hq => by cases hq), hs1, h56, Nat.le_refl _⟩
    have HS8 := Lib.hid ((HS.out.stay HBW.out).but hbut (fun e => by
      have h1 := (HS.out.stay HBW.out).row
      rw [e, H7.out] at h1
      injection h1 with h1
      injection h1 with _ h2
      exact absurd h2 (by decide)))
    have HNUM : Hid (∀ W : World, W.heap[g]? = some (.cells csN 3 (0, 0)) → NumsIn W (some ⟨g, 0, none⟩) (numsU U n)) := Lib.hid (fun W hW => nums_row HNU.out (hW.trans HCN.out.symm))
    have HS6 := HS6
    clear hfi hr6 hbut hbo hgb b8 HX HR HS HB HNU HCN HC5 HL5 HM H6 H7 HBW e6 e7
    generalize w'.setRow b6 #[.slice none 0 0, .slice a6 (leftL U m.fi).length c6, .slice none 0 0, .slice none 0 0, .bool m.em] = w8 at *
    clear hb6l hsw hs6 h56 hs1 w' w6
    go_upto_region 6 with fail
    go_wp2_with (first
      | (refine wpList_load_set rfl (.tmp 4) rfl b4 U rfl HS8.out ?_)
      | (go_at_call 24; refine (each_any U w8).mono ?_; rintro e w9 ⟨rfl, rfl⟩))
    obtain ⟨bs, hbs⟩ : ∃ b, Hid (w8.heap.size = b) := ⟨_, Lib.hid rfl⟩
    have hal := (Below.refl w8.heap.size w8).alloc (Nat.le_refl _) (.cells (setC U) 39)
    have TM9 := Lib.hid (TM.out.stay hal)
    have HS9 := Lib.hid (SetB.new w8 U)
    have HZ9 : Hid ((w8.alloc (.cells (setC U) 39)).heap.size = bs + 1) := Lib.hid (by simp [hbs.out])
    rw [hbs.out] at HS9 TM9 ⊢
    clear hal TM HS8
    generalize w8.alloc (.cells (setC U) 39) = w9 at *
    clear hbs w8
    have HT9 := Lib.hid (HT0.out.below (hs.out ▸ TM9.out.tr.below) (by rw [hs.out]; exact HG.out))
    refine (wpIn_wide (n := 9)).1 ?_
    refine wpIn_rangeFunc_ownF rfl (by decide) (gf := 44) (lb := #[.pointer (some ⟨bs, 0, none⟩)]) rfl trivial (enters_of Tryd.func44 (by kernel_rfl) rfl)
      (each_stops 8 (by decide) s bs U w9 HS9.out HT9.out HG.out (Nat.le_of_lt TM9.out.box.lt)) belowK_t ?hkb (Below.refl _ _) (fun _ => rfl)
      (fun pre W => TmP s b5 b6 g n bs U x m w csN pre W)
      (fun _ _ _ => False) ?hI (fun _ _ _ _ _ hs _ _ => hs) ?h0
      (fun k => { tmps := #[.agg (mc x m), .pointer (some ⟨s, 0, none⟩), .pointer (some ⟨s + 1, 0, none⟩), .int .i64 0, .pointer (some ⟨b4, 0, none⟩), .pointer (some ⟨b5, 0, none⟩), .pointer (some ⟨b6, 0, none⟩), .int .i64 (k.1 : Nat), .agg (mc x m), .bool true, .bool false, undef, .agg (mc x m), .agg (setC U), .agg (setC U), .pointer (some ⟨s, 0, none⟩), .slice x.sa n x.sc, .int .i64 (n : Int), .slice (some ⟨g, 0, none⟩) n n, X 0, X 1, X 2, X 3, X 4, X 5, .agg #[.slice none 0 0, .slice a6 (leftL U m.fi).length c6, .slice none 0 0, .slice none 0 0, .bool m.em], .agg (setC U), .func (.func 44) #[] #[.pointer (some ⟨bs, 0, none⟩)], .int .i64 (k.1 : Nat), undef, undef, undef, undef, undef, undef, undef, undef, undef, undef, undef, undef, undef, undef, undef, undef, undef, undef, undef, undef, undef, undef, undef, undef, undef, undef, undef, undef, undef, undef, undef, undef, undef], defers := [] }) ?assign ?body ?done ?stop
    case hkb =>
      intro W l o o' hl hh h1 h2
      exact belowK_b (w := w9) (Nat.le_of_lt TM9.out.box.lt) W l o o' hl hh h1 h2
    case hI =>
      rintro p W W' row ⟨sv, fv, ov, lv, vs, ht⟩ hg hr
      refine ⟨sv, fv, ov, lv, vs, ht.grown hg (fun k cs t fr hk e => ?_) (fun k e => ?_)⟩
      · obtain ⟨-, o, ho, hc⟩ := hr _ e.symm
        rw [hk] at ho
        injection ho with ho
        rw [← ho] at hc
        cases hc
      · have h1 := (hr k e).1
        have h2 := TM9.out.box.lt
        omega
    case h0 => exact ⟨_, _, _, _, _, TM9.out⟩
    case assign =>
      intro l x W K hK
      gi_wp2
      exact hK
    case body =>
      rintro l pre ⟨k, hk1, hk2⟩ W ⟨sv, fv, ov, lv, vs, hTM⟩ hpl
      have HTM := Lib.hid hTM
      have HPN : Hid ((pre.map Subtype.val).length ≤ 100000) := Lib.hid (by rw [List.length_map]; omega)
      have HPE : Hid ((pre ++ [(⟨k, hk1, hk2⟩ : In U)]).map Subtype.val = pre.map Subtype.val ++ [k]) := Lib.hid (by rw [List.map_append]; rfl)
      clear hTM hpl
      generalize pre.map Subtype.val = P at *
      have hkn : k < n := by rw [← hn.out]; exact HUS.out.lt hk1
      have HKN := Lib.hid hkn
      have hki : (k : Int) < (n : Int) := by omega
      have HKS : Hid (k < m.sp.length) := Lib.hid (by rw [hn.out]; exact hkn)
      have HKO : Hid (k < m.fo.length) := Lib.hid (by rw [HRT.out.fol]; exact HKS.out)
      have HKL : Hid (k < m.la.length) := Lib.hid (by rw [HRT.out.lal]; exact HKS.out)
      clear hkn
      obtain ⟨sb, so, hsa, hsr⟩ := HM0.out.sp k HKS.out
      obtain ⟨lb, lo, hla, hlr⟩ := HM0.out.la k HKL.out
      obtain ⟨ob, oo, oa, oc, hoa, hor, hon⟩ := HM0.out.fo k HKO.out
      have HSR := Lib.hid hsr
      have HLR := Lib.hid hlr
      have HOR := Lib.hid hor
      have HON := Lib.hid hon
      have HSA := Lib.hid hsa
      have HLA := Lib.hid hla
      have HOA := Lib.hid hoa
      clear hsr hlr hor hon hsa hla hoa
      gi_wp2
      have hg0 : W.drew.cell? ⟨b6, 0, none⟩ = some sv := by rw [cell_of_row W.drew b6 0 _ _ _ HTM.out.tr.row]; rfl
      have hg1 : W.drew.cell? ⟨s, 0, none⟩ = some (.slice (some ⟨sb, so, none⟩) n x.sc) := by
        have := HTM.out.box.c0
        rw [hn.out, HSA.out] at this
        exact this
      have hg2 : W.drew.rangeAt sb (so + k * 5) (sp5 (m.sp.getD k (0, 0))) := range_below HSR.out ((hs.out ▸ HTM.out.tr.below : Below w.heap.size w W).drew)
      refine region_mix_round [(false, 0), (false, 1), (false, 2), (false, 3), (false, 4), (false, 5), (false, 6), (true, 7), (true, 8), (false, 9)] (fun w' => w'.cell? ⟨b6, 0, none⟩ = some sv ∧ w'.cell? ⟨s, 0, none⟩ = some (.slice (some ⟨sb, so, none⟩) n x.sc) ∧ w'.rangeAt sb (so + k * 5) (sp5 (m.sp.getD k (0, 0)))) (by kernel_rfl) (by kernel_rfl) (by kernel_rfl) ?hq ⟨hg0, hg1, hg2⟩ ?_
      case hq =>
        rintro ⟨a, w, h⟩
        exact h
      simp only [planOps, List.map_cons, List.map_nil, List.getD_cons_zero, List.getD_cons_succ, List.length_cons, List.length_nil, List.drop_succ_cons, List.drop_zero]
      refine mix_seg (seg := [_, _, _, _, _, _, _]) rfl ⟨hg0, hg1, hg2⟩ ?_
      intro ι hι F hF
      have f1 := fun n => (hF n).1
      have f2 := fun n => (hF n).2.1
      have Q1 := Lib.hid (fun n => (hF n).2.2)
      have HG012 := Lib.hid (And.intro hg0 (And.intro hg1 hg2))
      clear hg0 hg1 hg2
      generalize hYq : m.sp.getD k (0, 0) = Y at *
      have HY := Lib.hid hYq
      clear hYq
      iterate 6 (go_big_quiet_step (fail))
      refine BigFrame.wpQuiet_want rfl (fun K hK => ?_); refine quiet_load_mid 41 _ rfl sb (so + k * 5) rfl (sp5 Y) _ (fun w' ⟨n, e⟩ => e ▸ Q1.out n) Tryd.underlying41 rfl (sizeSpot Y) ?_; refine hK _ ?_; clear hK K; simp only [Act.put, List.setIfInBounds_toArray, List.set_cons_zero, List.set_cons_succ]
      refine wpQuiet_nil ?_
      clear f1 f2 Q1 hF hι F
      rw [show (sp5 Y).toArray = row5 Y from rfl]
      unfold row5
      have HBD : Hid (Below W.heap.size W W.drew) := Lib.hid ((Below.refl _ W).drew)
      have HTD := Lib.hid (HTM.out.stay HBD.out)
      generalize W.drew = Wd at *
      refine mix_eff (fun K hK => ?_)
      go_wp2_with fail
      refine mix_on hK ⟨by rw [World.cell?_alloc_past _ _ _ (World.block_lt_of_cell? _ _ HG012.out.1)]; exact HG012.out.1, by rw [World.cell?_alloc_past _ _ _ (World.block_lt_of_cell? _ _ HG012.out.2.1)]; exact HG012.out.2.1, World.rangeAt_alloc HG012.out.2.2 _⟩ ?_
      clear hK K
      refine mix_eff (fun K hK => ?_)
      have HSW : Hid (s ≤ Wd.heap.size) := Lib.hid (Nat.le_of_lt HTD.out.box.lt)
      refine wpList_push 22 41 (.agg zero5) 5 40 Tryd.underlying22 infoSpot rfl (by decide) rfl (.tmp 30) (.tmp 36) rfl s sv P.length _ rfl HTD.out.tr.sp (sp5 Y) _ rfl rfl (fun u hu => by simp [sp5] at hu; rcases hu with rfl | rfl | rfl | rfl | rfl <;> rfl) rfl HPN.out (by decide) HSW.out ?_
      intro sv2 w2 ho2 hb2 ha2
      obtain ⟨a9, c9, rfl, -⟩ := own_slice ho2
      obtain ⟨hrow2, hf2, hk2, hk3⟩ := HTD.out.put ha2 HTD.out.tr.sp (by decide)
      have hr2 := hrow2.trans HTD.out.tr.row
      have hno5 : ∀ q, sv.ownBlock = some q → q ≠ b5 := fun q hq e => by
        obtain ⟨cs, hc⟩ := own_type HTD.out.tr.sp hq
        rw [e, HTD.out.c5] at hc
        injection hc with hc
        injection hc with _ h2
        exact absurd h2 (by decide)
      have HT3 := Lib.hid (HTD.out.fr (i := 0) (v := .slice a9 (P.length + 1) c9) hf2 (by decide) (by decide) (ha2.block b5 (Array.getElem?_eq_some_iff.1 HTD.out.c5).1 (fun e => hno5 b5 e rfl)) ha2.size HTD.out.no5 (HTD.out.tr.pushS (by rw [HY.out]; exact ho2) hb2 hf2 hrow2))
      have HK3 : Hid (KeepsOthers W (w2.setCell ⟨b6, 0, none⟩ (.slice a9 (P.length + 1) c9))) := Lib.hid ((keeps_below HBD.out).trans (hk3 0 _ hr2))
      have HB3 : Hid (Below s W (w2.setCell ⟨b6, 0, none⟩ (.slice a9 (P.length + 1) c9))) := Lib.hid (((HBD.out.mono (Nat.le_of_lt HTM.out.box.lt)).trans hb2).setCell (by have := HS6.out; show s ≤ b6; omega) _)
      have hc2 : w2.cell? ⟨b6, 0, none⟩ = some sv := by rw [cell_of_row w2 b6 0 _ _ _ hr2]; rfl
      have hfz : w2.frozen? ⟨b6, 0, none⟩ = false := frozen_of_row w2 _ 0 _ _ hr2
      refine wpList_nil ?_
      refine mix_on hK ⟨hc2, by have h1 := hf2 _ _ _ _ HTD.out.box.row (by decide) (by have := HS6.out; omega); rw [← HG012.out.2.1]; exact World.cell?_of_block (w := Wd) (h1.trans HTD.out.box.row.symm), fun j v hj => (hb2.cell (by rw [← hs.out]; exact World.block_lt_of_cell? _ _ (HSR.out j v hj))).trans (HG012.out.2.2 j v hj)⟩ ?_
      clear hK K
      refine mix_seg (seg := [_]) (rest := []) rfl ⟨hc2, by have h1 := hf2 _ _ _ _ HTD.out.box.row (by decide) (by have := HS6.out; omega); rw [← HG012.out.2.1]; exact World.cell?_of_block (w := Wd) (h1.trans HTD.out.box.row.symm), fun j v hj => (hb2.cell (by rw [← hs.out]; exact World.block_lt_of_cell? _ _ (HSR.out j v hj))).trans (HG012.out.2.2 j v hj)⟩ ?_
      intro ι hι F hF
      simp only [Act.put, List.setIfInBounds_toArray, List.set_cons_zero, List.set_cons_succ]
      go_big_quiet_step (fail)
      refine wpQuiet_nil ?_
      clear hF hι F
      show wpList _ _ _ _ _ _
      clear HTM HTD ho2 hb2 ha2 hrow2 hf2 hk2 hk3 hr2 hno5 HG012 HBD HSW
      go_wp2_with fail
      generalize w2.setCell ⟨b6, 0, none⟩ (.slice a9 (P.length + 1) c9) = W3 at *
      refine NoPanic.normal ?_
      clear hc2 hfz w2
      have HW3 := Lib.hid HT3.out.box.lt
      gi_wp2
      have HBD : Hid (Below W3.heap.size W3 W3.drew) := Lib.hid ((Below.refl _ W3).drew)
      have HTD := Lib.hid (HT3.out.stay HBD.out)
      have HKD : Hid (KeepsOthers W W3.drew) := Lib.hid (HK3.out.trans (keeps_below HBD.out))
      have HBB : Hid (Below s W W3.drew) := Lib.hid (HB3.out.trans (HBD.out.mono (Nat.le_of_lt HT3.out.box.lt)))
      obtain ⟨CC, hCC⟩ : ∃ CC : World → Prop, CC = fun w' => w'.cell? ⟨b6, 2, none⟩ = some ov ∧ w'.cell? ⟨s, 2, none⟩ = some (.slice (some ⟨ob, oo, none⟩) m.fo.length x.oc) ∧ w'.cell? ⟨ob, oo + k, none⟩ = some (.slice oa (m.fo.getD k []).length oc) ∧ w'.cell? ⟨b5, 0, none⟩ = some (.slice (some ⟨g, 0, none⟩) n n) := ⟨_, rfl⟩
      have HCC : Hid (∀ (ps po pl : List Nat) (sv fv lv : Value) (vs : List Value) (w' : World), TmI s b5 b6 g n bs U x m w csN ps po pl sv fv ov lv vs w' → CC w') := Lib.hid (fun ps po pl sv fv lv vs w' h => by
        rw [hCC]
        refine ⟨by rw [cell_of_row w' b6 2 _ _ _ h.tr.row]; rfl, by have := h.box.c2; rw [HOA.out] at this; exact this, (((hs.out ▸ h.tr.below : Below w.heap.size w w').cell (World.block_lt_of_cell? _ _ HOR.out))).trans HOR.out, by rw [cell_of_row w' b5 0 _ _ _ h.c5]; rfl⟩)
      have HC2 : Hid (∀ w', CC w' → w'.cell? ⟨b6, 2, none⟩ = some ov ∧ w'.cell? ⟨s, 2, none⟩ = some (.slice (some ⟨ob, oo, none⟩) m.fo.length x.oc) ∧ w'.cell? ⟨ob, oo + k, none⟩ = some (.slice oa (m.fo.getD k []).length oc) ∧ w'.cell? ⟨b5, 0, none⟩ = some (.slice (some ⟨g, 0, none⟩) n n)) := Lib.hid (fun w' h => by rw [hCC] at h; exact h)
      have HCX : Hid (∀ w' : World, (w'.cell? ⟨b6, 2, none⟩ = some ov ∧ w'.cell? ⟨s, 2, none⟩ = some (.slice (some ⟨ob, oo, none⟩) m.fo.length x.oc) ∧ w'.cell? ⟨ob, oo + k, none⟩ = some (.slice oa (m.fo.getD k []).length oc) ∧ w'.cell? ⟨b5, 0, none⟩ = some (.slice (some ⟨g, 0, none⟩) n n)) → CC w') := Lib.hid (fun w' h => by rw [hCC]; exact h)
      clear hCC
      refine region_mix_round [(false, 0), (false, 1), (false, 2), (false, 3), (false, 4), (false, 5), (false, 6), (false, 7), (true, 8), (true, 9), (true, 10), (false, 11)] CC (by kernel_rfl) (by kernel_rfl) (by kernel_rfl) ?hq2 (HCC.out _ _ _ _ _ _ _ _ HTD.out) ?_
      case hq2 =>
        rintro ⟨a, w, h⟩
        exact h
      simp only [planOps, List.map_cons, List.map_nil, List.getD_cons_zero, List.getD_cons_succ, List.length_cons, List.length_nil, List.drop_succ_cons, List.drop_zero]
      refine mix_seg (seg := [_, _, _, _, _, _, _, _]) rfl (HCC.out _ _ _ _ _ _ _ _ HTD.out) ?_
      intro ι2 hι F hF
      have f1 := fun n => (HC2.out _ (hF n)).1
      have f2 := fun n => (HC2.out _ (hF n)).2.1
      have f3 := fun n => (HC2.out _ (hF n)).2.2.1
      have f4 := fun n => (HC2.out _ (hF n)).2.2.2
      have hko : (k : Int) < (m.fo.length : Int) := by have := HKO.out; omega
      generalize hOl : m.fo.getD k [] = OL at *
      have HOl := Lib.hid hOl
      clear hOl
      iterate 8 (go_big_quiet_step (fail))
      refine wpQuiet_nil ?_
      clear f1 f2 f3 f4 hF hι F
      generalize W3.drew = Wd at *
      have HOE : Hid (OL.length ≤ 1000 ∧ (∀ q ∈ OL, 0 ≤ q ∧ q < (n : Int))) := Lib.hid (by
        rw [← HOl.out]
        refine ⟨(HF.out.each _ (getD_mem HKO.out)).1, fun q hq => ?_⟩
        rw [← hn.out]
        exact ((rise_iff _ _).1 (HRT.out.foR _ (getD_mem HKO.out))).1 q hq)
      have HLF := Lib.hid (left_any oa (some ⟨g, 0, none⟩) oc n OL (numsU U n) Wd (HON.out.kept (hs.out ▸ HTD.out.tr.below)) (HNUM.out Wd HTD.out.nums) HOE.out.1 (by rw [numsU_len]; exact HOE.out.2))
      rw [numsU_len, leftN_U U OL HOE.out.2] at HLF
      refine mix_eff (fun K hK => ?_)
      go_wp2_with (go_at_call 23; refine HLF.out.mono ?_; rintro e w4 ⟨v4, rfl, ho4, hb4⟩; obtain ⟨a4, c4, rfl, -⟩ := own_slice ho4; have HO4 := Lib.hid ho4; have HB4 := Lib.hid hb4; clear ho4 hb4)
      have HT4 := Lib.hid (HTD.out.stay HB4.out)
      have HO5 := Lib.hid (own_mono HO4.out (Nat.le_of_lt HTD.out.box.lt))
      refine mix_on hK (HCC.out _ _ _ _ _ _ _ _ HT4.out) ?_
      clear hK K
      refine mix_eff (fun K hK => ?_)
      go_wp2_with fail
      have hal := (Below.refl w4.heap.size w4).alloc (Nat.le_refl _) (.cells #[.slice a4 (leftL U OL).length c4] 23)
      refine mix_on hK (HCC.out _ _ _ _ _ _ _ _ (HT4.out.stay hal)) ?_
      clear hK K hal
      refine mix_eff (fun K hK => ?_)
      have HSW : Hid (s ≤ w4.heap.size) := Lib.hid (Nat.le_of_lt HT4.out.box.lt)
      refine wpList_push 24 23 (.slice none 0 0) 1 24 Tryd.underlying24 infoIs rfl (by decide) rfl (.tmp 40) (.tmp 48) rfl s ov P.length _ rfl HT4.out.tr.fo [.slice a4 (leftL U OL).length c4] _ rfl rfl (fun u hu => by rw [List.mem_singleton.1 hu]; rfl) rfl HPN.out (by decide) HSW.out ?_
      intro ov2 w5 ho2 hb2 ha2
      obtain ⟨a7, c7, rfl, -⟩ := own_slice ho2
      obtain ⟨hrow2, hf2, hk2, hk3⟩ := HT4.out.put ha2 HT4.out.tr.fo (by decide)
      have hr2 := hrow2.trans HT4.out.tr.row
      have hl5 := (Array.getElem?_eq_some_iff.1 HT4.out.c5).1
      have HT5 := Lib.hid (HT4.out.fr (i := 2) (v := .slice a7 (P.length + 1) c7) (ov' := .slice a7 (P.length + 1) c7) hf2 (by decide) (by decide) (ha2.block b5 hl5 (fun e => HT4.out.no5 b5 e rfl)) ha2.size (fun q hq e => by
          rcases ha2.own q hq with h1 | h1
          · exact HT4.out.no5 q h1 e
          · omega) (HT4.out.tr.pushO ho2 (by rw [HOl.out]; exact hf2.own HO5.out (by decide) (HT4.out.tr.notB HO5.out (by decide))) hb2 hf2 hrow2))
      have HK5 : Hid (KeepsOthers W (w5.setCell ⟨b6, 2, none⟩ (.slice a7 (P.length + 1) c7))) := Lib.hid ((HKD.out.trans (keeps_below HB4.out)).trans (hk3 2 _ hr2))
      have HB5 : Hid (Below s W (w5.setCell ⟨b6, 2, none⟩ (.slice a7 (P.length + 1) c7))) := Lib.hid (((HBB.out.trans (HB4.out.mono (Nat.le_of_lt HTD.out.box.lt))).trans hb2).setCell (by have := HS6.out; show s ≤ b6; omega) _)
      have hc2 : w5.cell? ⟨b6, 2, none⟩ = some ov := by rw [cell_of_row w5 b6 2 _ _ _ hr2]; rfl
      have hfz : w5.frozen? ⟨b6, 2, none⟩ = false := frozen_of_row w5 _ 2 _ _ hr2
      have HCW : Hid (CC w5) := Lib.hid (by
        have h0 := HC2.out _ (HCC.out _ _ _ _ _ _ _ _ HT4.out)
        refine HCX.out w5 ⟨hc2, ?_, ?_, ?_⟩
        · rw [← h0.2.1]
          exact World.cell?_of_block (w := w4) ((hf2 _ _ _ _ HT4.out.box.row (by decide) (by have := HS6.out; omega)).trans HT4.out.box.row.symm)
        · rw [← h0.2.2.1]
          exact hb2.cell (by rw [← hs.out]; exact World.block_lt_of_cell? _ _ HOR.out)
        · rw [← h0.2.2.2]
          exact World.cell?_of_block (w := w4) (ha2.block b5 hl5 (fun e => HT4.out.no5 b5 e rfl)))
      refine wpList_nil ?_
      refine mix_on hK HCW.out ?_
      clear hK K
      refine mix_seg (seg := [_]) (rest := []) rfl HCW.out ?_
      intro ι3 hι F hF
      simp only [Act.put, List.setIfInBounds_toArray, List.set_cons_zero, List.set_cons_succ]
      go_big_quiet_step (fail)
      refine wpQuiet_nil ?_
      clear hF hι F
      show wpList _ _ _ _ _ _
      clear HT3 HTD HT4 ho2 hb2 ha2 hrow2 hf2 hk2 hk3 hr2 hl5 HCW HC2 HCC HCX HBD HSW HO4 HO5 HB4 HKD HBB HLF HK3 HB3 HW3 CC
      go_wp2_with fail
      generalize w5.setCell ⟨b6, 2, none⟩ (.slice a7 (P.length + 1) c7) = W5 at *
      refine NoPanic.normal ?_
      clear hc2 hfz w5
      gi_wp2
      have HBD : Hid (Below W5.heap.size W5 W5.drew) := Lib.hid ((Below.refl _ W5).drew)
      have HTD := Lib.hid (HT5.out.stay HBD.out)
      have HKD : Hid (KeepsOthers W W5.drew) := Lib.hid (HK5.out.trans (keeps_below HBD.out))
      have HBB : Hid (Below s W W5.drew) := Lib.hid (HB5.out.trans (HBD.out.mono (Nat.le_of_lt HT5.out.box.lt)))
      have hkl : (k : Int) < (m.la.length : Int) := by have := HKL.out; omega
      generalize hYq : m.la.getD k false = lb2 at *
      have HLb := Lib.hid hYq
      clear hYq
      have hg0 : W5.drew.cell? ⟨b6, 3, none⟩ = some lv := by rw [cell_of_row W5.drew b6 3 _ _ _ HTD.out.tr.row]; rfl
      have hg1 : W5.drew.cell? ⟨s, 3, none⟩ = some (.slice (some ⟨lb, lo, none⟩) m.la.length x.lc) := by
        have := HTD.out.box.c3
        rw [HLA.out] at this
        exact this
      have hg2 : W5.drew.cell? ⟨lb, lo + k, none⟩ = some (.bool lb2) := ((hs.out ▸ HTD.out.tr.below : Below w.heap.size w W5.drew).cell (World.block_lt_of_cell? _ _ HLR.out)).trans HLR.out
      refine region_mix_round [(false, 0), (false, 1), (false, 2), (false, 3), (false, 4), (false, 5), (false, 6), (true, 7), (true, 8), (false, 9)] (fun w' => w'.cell? ⟨b6, 3, none⟩ = some lv ∧ w'.cell? ⟨s, 3, none⟩ = some (.slice (some ⟨lb, lo, none⟩) m.la.length x.lc) ∧ w'.cell? ⟨lb, lo + k, none⟩ = some (.bool lb2)) (by kernel_rfl) (by kernel_rfl) (by kernel_rfl) ?hq3 ⟨hg0, hg1, hg2⟩ ?_
      case hq3 =>
        rintro ⟨a, w, h⟩
        exact h
      simp only [planOps, List.map_cons, List.map_nil, List.getD_cons_zero, List.getD_cons_succ, List.length_cons, List.length_nil, List.drop_succ_cons, List.drop_zero]
      refine mix_seg (seg := [_, _, _, _, _, _, _]) rfl ⟨hg0, hg1, hg2⟩ ?_
      intro ι4 hι F hF
      have f1 := fun n => (hF n).1
      have f2 := fun n => (hF n).2.1
      have f3 := fun n => (hF n).2.2
      have HG012 := Lib.hid (And.intro hg0 (And.intro hg1 hg2))
      clear hg0 hg1 hg2
      iterate 7 (go_big_quiet_step (fail))
      refine wpQuiet_nil ?_
      clear f1 f2 f3 hF hι F
      generalize W5.drew = Wf at *
      refine mix_eff (fun K hK => ?_)
      go_wp2_with fail
      refine mix_on hK ⟨by rw [World.cell?_alloc_past _ _ _ (World.block_lt_of_cell? _ _ HG012.out.1)]; exact HG012.out.1, by rw [World.cell?_alloc_past _ _ _ (World.block_lt_of_cell? _ _ HG012.out.2.1)]; exact HG012.out.2.1, by rw [World.cell?_alloc_past _ _ _ (World.block_lt_of_cell? _ _ HG012.out.2.2)]; exact HG012.out.2.2⟩ ?_
      clear hK K
      refine mix_eff (fun K hK => ?_)
      have HSW : Hid (s ≤ Wf.heap.size) := Lib.hid (Nat.le_of_lt HTD.out.box.lt)
      refine wpList_push 25 4 (.bool false) 1 1 Tryd.underlying25 infoBool rfl (by decide) rfl (.tmp 52) (.tmp 58) rfl s lv P.length _ rfl HTD.out.tr.la [.bool lb2] _ rfl rfl (fun u hu => by rw [List.mem_singleton.1 hu]; rfl) rfl HPN.out (by decide) HSW.out ?_
      intro lv2 w6 ho2 hb2 ha2
      obtain ⟨a8, c8, rfl, -⟩ := own_slice ho2
      obtain ⟨hrow2, hf2, hk2, hk3⟩ := HTD.out.put ha2 HTD.out.tr.la (by decide)
      have hr2 := hrow2.trans HTD.out.tr.row
      have hno5 : ∀ q, lv.ownBlock = some q → q ≠ b5 := fun q hq e => by
        obtain ⟨cs, hc⟩ := own_type HTD.out.tr.la hq
        rw [e, HTD.out.c5] at hc
        injection hc with hc
        injection hc with _ h2
        exact absurd h2 (by decide)
      have HT7 := Lib.hid (HTD.out.fr (i := 3) (v := .slice a8 (P.length + 1) c8) hf2 (by decide) (by decide) (ha2.block b5 (Array.getElem?_eq_some_iff.1 HTD.out.c5).1 (fun e => hno5 b5 e rfl)) ha2.size HTD.out.no5 (HTD.out.tr.pushL (by rw [HLb.out]; exact ho2) hb2 hf2 hrow2))
      have HK7 : Hid (KeepsOthers W (w6.setCell ⟨b6, 3, none⟩ (.slice a8 (P.length + 1) c8))) := Lib.hid (HKD.out.trans (hk3 3 _ hr2))
      have HB7 : Hid (Below s W (w6.setCell ⟨b6, 3, none⟩ (.slice a8 (P.length + 1) c8))) := Lib.hid ((HBB.out.trans hb2).setCell (by have := HS6.out; show s ≤ b6; omega) _)
      have hc2 : w6.cell? ⟨b6, 3, none⟩ = some lv := by rw [cell_of_row w6 b6 3 _ _ _ hr2]; rfl
      have hfz : w6.frozen? ⟨b6, 3, none⟩ = false := frozen_of_row w6 _ 3 _ _ hr2
      have HCW : Hid (w6.cell? ⟨b6, 3, none⟩ = some lv ∧ w6.cell? ⟨s, 3, none⟩ = some (.slice (some ⟨lb, lo, none⟩) m.la.length x.lc) ∧ w6.cell? ⟨lb, lo + k, none⟩ = some (.bool lb2)) := Lib.hid ⟨hc2, by have h1 := hf2 _ _ _ _ HTD.out.box.row (by decide) (by have := HS6.out; omega); rw [← HG012.out.2.1]; exact World.cell?_of_block (w := Wf) (h1.trans HTD.out.box.row.symm), (hb2.cell (by rw [← hs.out]; exact World.block_lt_of_cell? _ _ HLR.out)).trans HG012.out.2.2⟩
      refine wpList_nil ?_
      refine mix_on hK HCW.out ?_
      clear hK K
      refine mix_seg (seg := [_]) (rest := []) rfl HCW.out ?_
      intro ι5 hι F hF
      simp only [Act.put, List.setIfInBounds_toArray, List.set_cons_zero, List.set_cons_succ]
      go_big_quiet_step (fail)
      refine wpQuiet_nil ?_
      clear hF hι F
      show wpList _ _ _ _ _ _
      clear HT5 HTD ho2 hb2 ha2 hrow2 hf2 hk2 hk3 hr2 hno5 HCW HG012 HBD HSW HKD HBB HK5 HB5
      go_wp2_with fail
      generalize w6.setCell ⟨b6, 3, none⟩ (.slice a8 (P.length + 1) c8) = W7 at *
      refine NoPanic.normal ?_
      gi_wp2
      exact ⟨HK7.out, HB7.out, _, _, _, _, _, by rw [HPE.out]; exact HT7.out⟩
    case done =>
      rintro D ys W hD hy ⟨sv, fv, ov, lv, vs, hTM⟩ hK
      rw [hy] at hTM
      have HTM := Lib.hid hTM
      have HK := Lib.hid hK
      have HDL : Hid (bs < D) := Lib.hid (by have := HZ9.out; omega)
      clear hTM hK
      have HLK : Hid (listN U = kept U m.sp.length) := Lib.hid (listN_kept HUS.out (by have := HRT.out.many; omega))
      rw [HLK.out] at HTM
      clear HLK
      have hs1 := HTM.out.s1
      obtain ⟨a1, c1, rfl, -⟩ := own_slice HTM.out.tr.sp
      obtain ⟨a2, c2, rfl, -⟩ := own_slice HTM.out.tr.fi
      obtain ⟨a3, c3, rfl, -⟩ := own_slice HTM.out.tr.fo
      obtain ⟨a4, c4, rfl, -⟩ := own_slice HTM.out.tr.la
      obtain ⟨y, hy2⟩ : ∃ y : Ma, y = ⟨a1, c1, a2, c2, a3, c3, a4, c4⟩ := ⟨_, rfl⟩
      have hmc : (#[.slice a1 (kept U m.sp.length).length c1, .slice a2 (leftL U m.fi).length c2, .slice a3 (kept U m.sp.length).length c3, .slice a4 (kept U m.sp.length).length c4, .bool m.em] : Array Value) = mc y (trimM m U) := by
        rw [hy2]
        unfold mc trimM
        simp
      have hrow := HTM.out.tr.row
      rw [hmc] at hrow
      have HROW := Lib.hid hrow
      have HRET := Lib.hid HTM.out.ret
      have HOWN : Hid (OwnM s W y (trimM m U)) := Lib.hid (by
        have h := HTM.out.tr
        rw [hy2]
        have e1 : (trimM m U).sp.length = (kept U m.sp.length).length := by simp [trimM]
        have e2 : (trimM m U).fo.length = (kept U m.sp.length).length := by simp [trimM]
        have e3 : (trimM m U).la.length = (kept U m.sp.length).length := by simp [trimM]
        refine ⟨by rw [e1]; exact h.sp, h.fi, ⟨vs, by rw [h.len, e2], by rw [e2]; exact h.fo, fun i hi => ?_⟩, by rw [e3]; exact h.la⟩
        rw [e2] at hi
        have he := h.each i hi
        have e4 : (trimM m U).fo.getD i [] = leftL U (m.fo.getD ((kept U m.sp.length).getD i 0) []) := by
          unfold trimM
          rw [List.getD_eq_getElem?_getD, List.getElem?_map, List.getElem?_eq_getElem hi, List.getD_eq_getElem?_getD (l := kept U m.sp.length), List.getElem?_eq_getElem hi]; rfl
        rw [e4]; exact he)
      have HBEL := Lib.hid HTM.out.tr.below
      clear hrow hmc hy2
      go_wp2_with (first
        | (refine wpList_load_row rfl 27 (.tmp 6) rfl b6 rfl 27 (mc y (trimM m U)) (0, 0) _ HROW.out Tryd.underlying27 rfl (sizeMach _ _) ?_)
        | (refine wpList_store_row rfl 27 (.tmp 2) (.tmp 61) rfl (s + 1) (mc y (trimM m U)) rfl rfl 27 _ HRET.out (by kernel_rfl) rfl (oneMach _ _) ?_))
      have hK2 : (W.setRow (s + 1) (mc y (trimM m U))).heap[D]? = some (.deferred (some [])) := by
        rw [setRow_other _ _ _ _ (fun e => ?_)]
        · exact HK.out
        · have h1 := HK.out
          rw [e, HRET.out] at h1
          cases h1
      have hR3 : (W.setRow (s + 1) (mc y (trimM m U))).heap[s + 1]? = some (.cells (mc y (trimM m U)) 27 (0, 0)) := setRow_heap W _ _ _ _ _ HRET.out
      have hDs : s + 1 ≠ D := fun e => by
        have h1 := HK.out
        rw [← e, HRET.out] at h1
        cases h1
      have hR4 : ((W.setRow (s + 1) (mc y (trimM m U))).putObj D (.deferred none)).heap[s + 1]? = some (.cells (mc y (trimM m U)) 27 (0, 0)) := by rw [World.putObj_heap_other hDs]; exact hR3
      have hB3 : Below s w (W.setRow (s + 1) (mc y (trimM m U))) := But.below HBEL.out (But.setRow _ _ _) (by omega) (Nat.le_of_lt HTM.out.box.lt)
      refine ⟨by simp, .inl ⟨_, _, rfl, run_takeDeferred hK2, ?_⟩⟩
      refine ⟨.tuple #[.agg (mc y (trimM m U)), .int .i64 0], results_cell_tmp (p := 2) (q := 3) Tryd.results8 _ _ (s + 1) 27 _ (0, 0) _ (.int .i64 0) rfl rfl hR4 Tryd.underlying27 rfl (sizeMach _ _), ?_⟩
      refine ⟨y, rfl, ?_, ?_⟩
      · rw [hs.out]
        refine HOWN.out.move (fun k cs t hk ht => ?_)
        have h1 : k ≠ s + 1 := fun e => by
          rw [e, HRET.out] at hk
          injection hk with hk
          injection hk with _ h2
          exact ht h2.symm
        have h2 : k ≠ D := fun e => by
          rw [e, HK.out] at hk
          cases hk
        rw [World.putObj_heap_other h2, setRow_other _ _ _ _ h1]
      · rw [hs.out]
        exact hB3.trans (belowK_b (w := w9) (Nat.le_of_lt TM9.out.box.lt) _ D _ _ hD hK2 rfl rfl)
    case stop =>
      rintro D c pre W _ _ h _
      exact h.elim
set_option maxHeartbeats 3200000 in
set_option maxRecDepth 100000 in
theorem trim_wrong (x : Ma) (m : Mc) (w : World) (h : MAt w x m) (hf : Fine m) (hr : rightM m = false) :
    Calls Tryd.prog 8 #[.agg (mc x m)] w fun e w' => e = .returned (.tuple #[.agg #[.slice none 0 0, .slice none 0 0, .slice none 0 0, .slice none 0 0, .bool false], .int .i64 1]) ∧ Below w.heap.size w w' := by
  have HF := Lib.hid hf
  have HM0 := Lib.hid h
  have HRI := Lib.hid hr
  clear h hf hr
  go_enter Tryd.func8, Tryd.ntmps8
  go_upto_region 1 with fail
  have hz : (w.alloc (.cells (mc x m) 27)).heap.size = w.heap.size + 1 := by simp
  have hal := (Below.refl (w.heap.size + 1) (w.alloc (.cells (mc x m) 27))).alloc (by simp) (.cells #[.slice none 0 0, .slice none 0 0, .slice none 0 0, .slice none 0 0, .bool false] 27)
  have HX1 := Lib.hid ((BoxM.new w x m).kept hal (by omega))
  have HR1 := Lib.hid (heap_alloc_new (w.alloc (.cells (mc x m) 27)) (.cells #[.slice none 0 0, .slice none 0 0, .slice none 0 0, .slice none 0 0, .bool false] 27))
  have HB1 := Lib.hid (((Below.refl w.heap.size w).alloc (Nat.le_refl _) (.cells (mc x m) 27)).trans (hal.mono (Nat.le_succ _)))
  rw [hz] at HR1
  clear hal hz
  generalize (w.alloc (.cells (mc x m) 27)).alloc (.cells #[.slice none 0 0, .slice none 0 0, .slice none 0 0, .slice none 0 0, .bool false] 27) = w1 at *
  have HRG := Lib.hid (nright_any x m w1 (HM0.out.kept HB1.out) HF.out)
  rw [mv_eq, HRI.out] at HRG
  go_wp2_with (first
    | (refine wpList_load_mach rfl (.tmp 1) rfl w.heap.size x m rfl HX1.out ?_)
    | (go_at_call 15; refine HRG.out.mono ?_; rintro e w2 ⟨rfl, hb2⟩; have HR2 := Lib.hid ((hb2.block _ (Array.getElem?_eq_some_iff.1 HR1.out).1).trans HR1.out); have HBs2 := Lib.hid (HB1.out.trans (hb2.mono (Nat.le_of_lt HX1.out.lt))); clear hb2)
    | (refine wpList_store_row rfl 27 (.tmp 2) (.tmp 11) rfl (w.heap.size + 1) #[.slice none 0 0, .slice none 0 0, .slice none 0 0, .slice none 0 0, .bool false] rfl rfl 27 _ HR2.out (by kernel_rfl) rfl (by simp [Value.oneCell']) ?_))
  have hR3 : (w2.setRow (w.heap.size + 1) #[.slice none 0 0, .slice none 0 0, .slice none 0 0, .slice none 0 0, .bool false]).heap[w.heap.size + 1]? = some (.cells #[.slice none 0 0, .slice none 0 0, .slice none 0 0, .slice none 0 0, .bool false] 27 (0, 0)) := setRow_heap w2 _ _ _ _ _ HR2.out
  have hB3 : Below w.heap.size w (w2.setRow (w.heap.size + 1) #[.slice none 0 0, .slice none 0 0, .slice none 0 0, .slice none 0 0, .bool false]) := But.below HBs2.out (But.setRow _ _ _) (by omega) HBs2.out.size
  generalize w2.setRow (w.heap.size + 1) #[.slice none 0 0, .slice none 0 0, .slice none 0 0, .slice none 0 0, .bool false] = w3 at *
  refine bodyPost_ret (v := .tuple #[.agg #[.slice none 0 0, .slice none 0 0, .slice none 0 0, .slice none 0 0, .bool false], .int .i64 1]) (results_cell_tmp (p := 2) (q := 3) Tryd.results8 _ _ (w.heap.size + 1) 27 _ (0, 0) _ (.int .i64 1) rfl rfl hR3 Tryd.underlying27 rfl (by kernel_rfl)) rfl ⟨rfl, hB3⟩
end Nf
end Go.Proofs.YtlbaecjmfgahgaaDoor
