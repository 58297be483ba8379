/- NfaKnown: the law's walk. -/
import Derived.Test.YtlbaecjmfgahgaaDoorPsD
namespace Go.Proofs.YtlbaecjmfgahgaaDoor
open Go.RowKit Sets Nf
namespace Nk
theorem put_facts {W : World} {g i : Nat} {cs : Array Value} {T : TypeId} (h : W.heap[g]? = some (.cells cs T (0, 0))) (v : Value) : (W.setCell ⟨g, i, none⟩ v).heap[g]? = some (.cells (cs.setIfInBounds i v) T (0, 0)) ∧ (∀ k, k ≠ g → (W.setCell ⟨g, i, none⟩ v).heap[k]? = W.heap[k]?) ∧ (W.setCell ⟨g, i, none⟩ v).heap.size = W.heap.size :=
  ⟨heap_setCell_same _ _ _ _ _ _ h, fun k hk => Below.heap_setCell W ⟨g, i, none⟩ v k hk, World.size_setCell _ _ _⟩
theorem al_old (w : World) (o : Obj) {k : Nat} (h : k < w.heap.size) : (w.alloc o).heap[k]? = w.heap[k]? := ((Below.refl w.heap.size w).alloc (Nat.le_refl _) o).block k h
def zc : Array Value := #[.slice none 0 0, .slice none 0 0, .slice none 0 0, .slice none 0 0, .bool false]
theorem run_alloc_mach (w : World) : (Instr.alloc 27 true (.tuple #[])).run Tryd.prog w = .ok (.pointer (some ⟨w.heap.size, 0, none⟩)) (w.alloc (.cells zc 27)) := by kernel_rfl
/-- A machine's variable is made: what lay there lies there. -/
theorem wpList_alloc_mach {ops : Array Oper} {rest : List Oper} {o : Oper} {a : Act} {w : World} {Q : Exit → Act → World → Prop} (hgd : o.guard = none) (ho : o.op = .alloc 27) (b : Nat) (hb : w.heap.size = b)
    (h : ∀ w', w'.heap[b]? = some (.cells zc 27 (0, 0)) → Below b w w' → w'.heap.size = b + 1 → wpList Tryd.prog ops Q rest (a.put o.dst (.pointer (some ⟨b, 0, none⟩))) w') : wpList Tryd.prog ops Q (o :: rest) a w := by
  subst hb
  refine wpList_plain hgd fun K hK' => ?_
  unfold Oper.wp
  simp [execOp, ho, run_alloc_mach, Result.andThen]
  exact hK' _ _ (h _ (heap_alloc_new w _) ((Below.refl _ _).alloc (Nat.le_refl _) _) (by simp))
/-- A machine is stored into its variable: all else lies as it lay. -/
theorem wpList_store_mO {ops : Array Oper} {rest : List Oper} {o : Oper} {a : Act} {w : World} {Q : Exit → Act → World → Prop} (hgd : o.guard = none) (X Y : Operand) (ho : o.op = .store 27 X Y) (b : Nat) (x : Ma) (m : Mc)
    (hx : a.eval X = .pointer (some ⟨b, 0, none⟩)) (hy : a.eval Y = .agg (mc x m)) (hold : w.heap[b]? = some (.cells zc 27 (0, 0)))
    (h : ∀ w', w'.heap[b]? = some (.cells (mc x m) 27 (0, 0)) → But b w w' → w'.heap.size = w.heap.size → wpList Tryd.prog ops Q rest (a.put o.dst undef) w') : wpList Tryd.prog ops Q (o :: rest) a w :=
  wpList_store_row hgd 27 X Y ho b (mc x m) hx hy 27 _ hold (sizeMach x m) rfl (oneMach x m) (h _ (setRow_heap w _ _ _ _ _ hold) (But.setRow _ _ _) (by simp))
set_option maxHeartbeats 12800000 in
set_option maxRecDepth 100000 in
theorem nknown_any (w : World) (hT : Tab w) :
    Calls Tryd.prog 4 #[] w fun e w' => e = .returned (.bool true) ∧ Below w.heap.size w w' := by
  have HG : Hid (0 < w.heap.size) := Lib.hid (World.block_lt_of_cell? _ _ (hT 0 (by decide)))
  have HT := Lib.hid hT
  clear hT
  have HAW := Lib.hid (fun w' (h : Below w.heap.size w w') => awake10_any w' (HT.out.below h HG.out))
  have HTB := Lib.hid (fun w' (h : Below w.heap.size w w') => HT.out.below (w' := w') h HG.out)
  have HSM := Lib.hid (some_any w)
  have HB0 := Lib.hid (Below.refl w.heap.size w)
  obtain ⟨B, hB⟩ : ∃ B, Hid (w.heap.size = B) := ⟨_, Lib.hid rfl⟩
  rw [hB.out] at HAW HTB HB0 ⊢
  have HSZ : Hid (∀ w', Below B w w' → B ≤ w'.heap.size) := Lib.hid (fun w' h => by rw [← hB.out]; exact h.size)
  go_enter Tryd.func4, Tryd.ntmps4
  go_upto_region 2 with (first
    | (go_at_call 13; refine HSM.out.mono ?_; rintro e w1 ⟨x, rfl, ho, hb⟩; have HO1 := Lib.hid ho; have HB1 := Lib.hid hb; clear ho hb)
    | (refine wpList_lay_mach rfl (.tmp 1) (.tmp 15) rfl x someM _ rfl rfl rfl ?_))
  rw [show ∀ a : Act, a.put none undef = a from fun _ => rfl]
  rw [hB.out] at HB1
  have hal := (Below.refl w1.heap.size w1).alloc (Nat.le_refl _) (.cells (mc x someM) 27)
  have HX2 := Lib.hid (BoxM.new w1 x someM)
  have HM2 := Lib.hid (HO1.out.stay hal).mat
  have HB2 := Lib.hid (HB1.out.trans (hal.mono (HSZ.out _ HB1.out)))
  obtain ⟨b1, hb1⟩ : ∃ b, Hid (w1.heap.size = b) := ⟨_, Lib.hid rfl⟩
  rw [hb1.out] at HX2 ⊢
  clear hal HO1 HB1 HSM
  generalize w1.alloc (.cells (mc x someM) 27) = w2 at *
  clear hb1
  have HTR := Lib.hid (trim_any x someM w2 HM2.out some_fine ((right_iff someM).1 some_right) (HTB.out _ HB2.out))
  rw [some_trim] at HTR
  go_upto_region 3 with (first
    | (refine wpList_load_mach rfl (.tmp 1) rfl b1 x someM rfl HX2.out ?_)
    | (go_at_call 8; refine HTR.out.mono ?_; rintro e w3 ⟨y, rfl, ho, hb⟩; have HO3 := Lib.hid ho; have HB3 := Lib.hid hb; clear ho hb)
    | (refine wpList_lay_mach rfl (.tmp 2) (.tmp 19) rfl y tM _ rfl rfl rfl ?_))
  have hal := (Below.refl w3.heap.size w3).alloc (Nat.le_refl _) (.cells (mc y tM) 27)
  have h24 := HB3.out.trans (hal.mono HB3.out.size)
  have HX4 := Lib.hid (HX2.out.kept h24 HX2.out.lt)
  have HM4 := Lib.hid (HM2.out.kept h24)
  have HY4 := Lib.hid (BoxM.new w3 y tM)
  have HO4 := Lib.hid (HO3.out.stay hal)
  have HB4 := Lib.hid (HB2.out.trans (h24.mono (HSZ.out _ HB2.out)))
  obtain ⟨b2, hb2⟩ : ∃ b, Hid (w3.heap.size = b) := ⟨_, Lib.hid rfl⟩
  rw [hb2.out] at HY4 ⊢
  clear hal h24 HX2 HM2 HB2 HO3 HB3 HTR
  generalize w3.alloc (.cells (mc y tM) 27) = w4 at *
  clear hb2
  have c0 : w4.cell? ⟨b2, 0, none⟩ = some (.slice y.sa 2 y.sc) := HY4.out.c0
  have c1 : w4.cell? ⟨b2, 1, none⟩ = some (.slice y.fa 1 y.fc) := HY4.out.c1
  have c2 : w4.cell? ⟨b2, 2, none⟩ = some (.slice y.oa 2 y.oc) := HY4.out.c2
  have c3 : w4.cell? ⟨b2, 3, none⟩ = some (.slice y.la 2 y.lc) := HY4.out.c3
  have c4 : w4.cell? ⟨b2, 4, none⟩ = some (.bool true) := HY4.out.c4
  have HMY := HO4.out.mat
  obtain ⟨ob, oo, oa, oc, hoa, hor, hon⟩ := HMY.fo 0 (by decide)
  obtain ⟨nb, no, hna, hnc⟩ := hon 0 (by decide)
  obtain ⟨lb, lo, hla, hlr⟩ := HMY.la 1 (by decide)
  have hor : w4.cell? ⟨ob, oo, none⟩ = some (.slice oa 1 oc) := hor
  have hnc : w4.cell? ⟨nb, no, none⟩ = some (.int .i64 1) := hnc
  have hlr : w4.cell? ⟨lb, lo + 1, none⟩ = some (.bool true) := hlr
  rw [hoa] at c2
  rw [hla] at c3
  rw [hna] at hor
  have HR1 := Lib.hid (nrun_any x someM ⟨#[97]⟩ w4 HM4.out some_fine (by decide) (HTB.out _ HB4.out))
  rw [some_a] at HR1
  clear HMY hoa hon hna hla
  go_upto_region 5 with (first
    | (go_at_call 14; refine HR2.out.mono ?_; rintro e w6 ⟨rfl, hb⟩; have HB6 := Lib.hid (HB5.out.trans (hb.mono (HSZ.out _ HB5.out))); clear hb)
    | (go_at_call 14; refine HR1.out.mono ?_; rintro e w5 ⟨rfl, hb⟩; have HX5 := Lib.hid (HX4.out.kept hb HX4.out.lt); have HB5 := Lib.hid (HB4.out.trans (hb.mono (HSZ.out _ HB4.out))); have HR2 := Lib.hid (nrun_any x someM ⟨#[97, 98, 98]⟩ w5 (HM4.out.kept hb) some_fine (by decide) (HTB.out _ HB5.out)); rw [some_abb] at HR2; clear hb)
    | (refine BigFrame.wpList_want rfl (fun K' hK' => ?_); refine wp_load_mach _ rfl b1 x someM rfl HX5.out ?_; refine hK' _ _ ?_; clear hK' K')
    | (refine BigFrame.wpList_want rfl (fun K' hK' => ?_); refine wp_load_mach _ rfl b1 x someM rfl HX4.out ?_; refine hK' _ _ ?_; clear hK' K'))
  clear c0 c1 c2 c3 c4 hor hnc hlr HR1 HR2 HX4 HX5 HM4 HY4 HO4 HB4 HB5
  have HSX := Lib.hid (fun w' => some_any w')
  go_wp2_with fail
  refine (HSX.out w6).mono ?_
  rintro e v1 ⟨x1, rfl, ho, hb⟩
  have HO1 := Lib.hid ho
  have HV1 := Lib.hid hb
  clear ho hb
  go_wp2_with fail
  refine (HSX.out v1).mono ?_
  rintro e v2 ⟨x2, rfl, ho, hb⟩
  have HO2 := Lib.hid ho
  have HV2 := Lib.hid hb
  clear ho hb
  go_wp2_with fail
  refine (HSX.out v2).mono ?_
  rintro e v3 ⟨x3, rfl, ho, hb⟩
  have HO3 := Lib.hid ho
  have HV3 := Lib.hid hb
  clear ho hb
  go_wp2_with fail
  refine (HSX.out v3).mono ?_
  rintro e v4 ⟨x4, rfl, ho, hb⟩
  have HO4 := Lib.hid ho
  have HV4 := Lib.hid hb
  clear ho hb
  go_wp2_with fail
  refine (HSX.out v4).mono ?_
  rintro e v5 ⟨x5, rfl, ho, hb⟩
  have HO5 := Lib.hid ho
  have HV5 := Lib.hid hb
  clear ho hb
  have HQ : Hid (v5.heap.size = v5.heap.size) := Lib.hid rfl
  obtain ⟨s, hs⟩ : ∃ s, Hid (v5.heap.size = s) := ⟨_, Lib.hid rfl⟩
  clear HQ
  go_simp
  rename_i hK
  refine hK _ _ ?_
  clear hK
  refine wpList_alloc_mach rfl rfl (s) hs.out ?_
  intro A1 hr hb hz
  have hr1 := Lib.hid hr
  have hb1 := Lib.hid hb
  have hz1 := Lib.hid (show A1.heap.size = s + 1 from hz)
  clear hr hb hz
  simp only [Act.put, List.setIfInBounds_toArray, List.set_cons_zero, List.set_cons_succ]
  refine wpList_alloc_mach rfl rfl (s + 1) hz1.out ?_
  intro A2 hr hb hz
  have hr2 := Lib.hid hr
  have hb2 := Lib.hid hb
  have hz2 := Lib.hid (show A2.heap.size = s + 2 from hz)
  clear hr hb hz
  simp only [Act.put, List.setIfInBounds_toArray, List.set_cons_zero, List.set_cons_succ]
  refine wpList_alloc_mach rfl rfl (s + 2) hz2.out ?_
  intro A3 hr hb hz
  have hr3 := Lib.hid hr
  have hb3 := Lib.hid hb
  have hz3 := Lib.hid (show A3.heap.size = s + 3 from hz)
  clear hr hb hz
  simp only [Act.put, List.setIfInBounds_toArray, List.set_cons_zero, List.set_cons_succ]
  refine wpList_alloc_mach rfl rfl (s + 3) hz3.out ?_
  intro A4 hr hb hz
  have hr4 := Lib.hid hr
  have hb4 := Lib.hid hb
  have hz4 := Lib.hid (show A4.heap.size = s + 4 from hz)
  clear hr hb hz
  simp only [Act.put, List.setIfInBounds_toArray, List.set_cons_zero, List.set_cons_succ]
  refine wpList_alloc_mach rfl rfl (s + 4) hz4.out ?_
  intro A5 hr hb hz
  have hr5 := Lib.hid hr
  have hb5 := Lib.hid hb
  have hz5 := Lib.hid (show A5.heap.size = s + 5 from hz)
  clear hr hb hz
  simp only [Act.put, List.setIfInBounds_toArray, List.set_cons_zero, List.set_cons_succ]
  refine wpList_store_mO rfl (.tmp 4) (.tmp 78) rfl (s) x1 someM rfl rfl ((hb5.out.block (s) (by omega)).trans (((hb4.out.block (s) (by omega)).trans (((hb3.out.block (s) (by omega)).trans (((hb2.out.block (s) (by omega)).trans (hr1.out)))))))) ?_
  intro S1 hr hb hz
  have hn1 := Lib.hid hr
  have hc1 := Lib.hid hb
  have hq2 : Hid (S1.heap.size = s + 5) := Lib.hid (hz.trans hz5.out)
  clear hr hb hz
  rw [show ∀ a : Act, a.put none undef = a from fun _ => rfl]
  refine wpList_store_mO rfl (.tmp 5) (.tmp 79) rfl (s + 1) x2 someM rfl rfl ((hc1.out.block (s + 1) (by have := hz5.out; omega) (by omega)).trans (((hb5.out.block (s + 1) (by omega)).trans (((hb4.out.block (s + 1) (by omega)).trans (((hb3.out.block (s + 1) (by omega)).trans (hr2.out)))))))) ?_
  intro S2 hr hb hz
  have hn2 := Lib.hid hr
  have hc2 := Lib.hid hb
  have hq3 : Hid (S2.heap.size = s + 5) := Lib.hid (hz.trans hq2.out)
  clear hr hb hz
  rw [show ∀ a : Act, a.put none undef = a from fun _ => rfl]
  refine wpList_store_mO rfl (.tmp 6) (.tmp 80) rfl (s + 2) x3 someM rfl rfl ((hc2.out.block (s + 2) (by have := hq2.out; omega) (by omega)).trans (((hc1.out.block (s + 2) (by have := hz5.out; omega) (by omega)).trans (((hb5.out.block (s + 2) (by omega)).trans (((hb4.out.block (s + 2) (by omega)).trans (hr3.out)))))))) ?_
  intro S3 hr hb hz
  have hn3 := Lib.hid hr
  have hc3 := Lib.hid hb
  have hq4 : Hid (S3.heap.size = s + 5) := Lib.hid (hz.trans hq3.out)
  clear hr hb hz
  rw [show ∀ a : Act, a.put none undef = a from fun _ => rfl]
  refine wpList_store_mO rfl (.tmp 7) (.tmp 81) rfl (s + 3) x4 someM rfl rfl ((hc3.out.block (s + 3) (by have := hq3.out; omega) (by omega)).trans (((hc2.out.block (s + 3) (by have := hq2.out; omega) (by omega)).trans (((hc1.out.block (s + 3) (by have := hz5.out; omega) (by omega)).trans (((hb5.out.block (s + 3) (by omega)).trans (hr4.out)))))))) ?_
  intro S4 hr hb hz
  have hn4 := Lib.hid hr
  have hc4 := Lib.hid hb
  have hq5 : Hid (S4.heap.size = s + 5) := Lib.hid (hz.trans hq4.out)
  clear hr hb hz
  rw [show ∀ a : Act, a.put none undef = a from fun _ => rfl]
  refine wpList_store_mO rfl (.tmp 8) (.tmp 82) rfl (s + 4) x5 someM rfl rfl ((hc4.out.block (s + 4) (by have := hq4.out; omega) (by omega)).trans (((hc3.out.block (s + 4) (by have := hq3.out; omega) (by omega)).trans (((hc2.out.block (s + 4) (by have := hq2.out; omega) (by omega)).trans (((hc1.out.block (s + 4) (by have := hz5.out; omega) (by omega)).trans (hr5.out)))))))) ?_
  intro S5 hr hb hz
  have hn5 := Lib.hid hr
  have hc5 := Lib.hid hb
  have hq6 : Hid (S5.heap.size = s + 5) := Lib.hid (hz.trans hq5.out)
  clear hr hb hz
  rw [show ∀ a : Act, a.put none undef = a from fun _ => rfl]
  go_upto_region 6 with fail
  have HE1 := Lib.hid HV1.out.size
  have HE2 := Lib.hid HV2.out.size
  have HE3 := Lib.hid HV3.out.size
  have HE4 := Lib.hid HV4.out.size
  have HE5 := Lib.hid HV5.out.size
  have HD1 : Hid (∀ k, k < s → S5.heap[k]? = v5.heap[k]?) := Lib.hid (fun k hk => by
    have z1 := hz1.out; have z2 := hz2.out; have z3 := hz3.out; have z4 := hz4.out; have z5 := hz5.out; have q2 := hq2.out; have q3 := hq3.out; have q4 := hq4.out; have q5 := hq5.out
    rw [hc5.out.block k (by omega) (by omega), hc4.out.block k (by omega) (by omega), hc3.out.block k (by omega) (by omega), hc2.out.block k (by omega) (by omega), hc1.out.block k (by omega) (by omega), hb5.out.block k (by omega), hb4.out.block k (by omega), hb3.out.block k (by omega), hb2.out.block k (by omega), hb1.out.block k (by omega)])
  have HN1 : Hid (S5.heap[s + 0]? = some (.cells (mc x1 someM) 27 (0, 0))) := Lib.hid (by rw [hc5.out.block _ (by have := hq5.out; omega) (by omega), hc4.out.block _ (by have := hq4.out; omega) (by omega), hc3.out.block _ (by have := hq3.out; omega) (by omega), hc2.out.block _ (by have := hq2.out; omega) (by omega)]; exact hn1.out)
  have HN2 : Hid (S5.heap[s + 1]? = some (.cells (mc x2 someM) 27 (0, 0))) := Lib.hid (by rw [hc5.out.block _ (by have := hq5.out; omega) (by omega), hc4.out.block _ (by have := hq4.out; omega) (by omega), hc3.out.block _ (by have := hq3.out; omega) (by omega)]; exact hn2.out)
  have HN3 : Hid (S5.heap[s + 2]? = some (.cells (mc x3 someM) 27 (0, 0))) := Lib.hid (by rw [hc5.out.block _ (by have := hq5.out; omega) (by omega), hc4.out.block _ (by have := hq4.out; omega) (by omega)]; exact hn3.out)
  have HN4 : Hid (S5.heap[s + 3]? = some (.cells (mc x4 someM) 27 (0, 0))) := Lib.hid (by rw [hc5.out.block _ (by have := hq5.out; omega) (by omega)]; exact hn4.out)
  have HN5 : Hid (S5.heap[s + 4]? = some (.cells (mc x5 someM) 27 (0, 0))) := Lib.hid (by exact hn5.out)
  have HBZ : Hid (Below B w S5) := Lib.hid (by
    have h0 := HB6.out.trans (HV1.out.mono (HSZ.out _ HB6.out))
    have h1 := h0.trans (HV2.out.mono (HSZ.out _ h0))
    have h2 := h1.trans (HV3.out.mono (HSZ.out _ h1))
    have h3 := h2.trans (HV4.out.mono (HSZ.out _ h2))
    have h4 := h3.trans (HV5.out.mono (HSZ.out _ h3))
    have hsB : B ≤ s := by rw [← hs.out]; exact HSZ.out _ h4
    have a1 := h4.trans (hb1.out.mono (by omega))
    have a2 := a1.trans (hb2.out.mono (by omega))
    have a3 := a2.trans (hb3.out.mono (by omega))
    have a4 := a3.trans (hb4.out.mono (by omega))
    have a5 := a4.trans (hb5.out.mono (by omega))
    have d1 := But.below a5 hc1.out (by omega) (HSZ.out _ a5)
    have d2 := But.below d1 hc2.out (by omega) (HSZ.out _ d1)
    have d3 := But.below d2 hc3.out (by omega) (HSZ.out _ d2)
    have d4 := But.below d3 hc4.out (by omega) (HSZ.out _ d3)
    have d5 := But.below d4 hc5.out (by omega) (HSZ.out _ d4)
    exact d5)
  have HSV : Hid (v1.heap.size ≤ s ∧ v2.heap.size ≤ s ∧ v3.heap.size ≤ s ∧ v4.heap.size ≤ s ∧ v5.heap.size ≤ s) := Lib.hid (by have e1 := HE2.out; have e2 := HE3.out; have e3 := HE4.out; have e4 := HE5.out; have e5 := hs.out; omega)
  have HA1 : Hid (∀ k, k < v1.heap.size → S5.heap[k]? = v1.heap[k]?) := Lib.hid (fun k hk => by
    have e1 := HE2.out; have e2 := HE3.out; have e3 := HE4.out; have e4 := HE5.out; have e5 := hs.out
    rw [HD1.out k (by omega), HV5.out.block k (by omega), HV4.out.block k (by omega), HV3.out.block k (by omega), HV2.out.block k (by omega)])
  have HA2 : Hid (∀ k, k < v2.heap.size → S5.heap[k]? = v2.heap[k]?) := Lib.hid (fun k hk => by
    have e1 := HE2.out; have e2 := HE3.out; have e3 := HE4.out; have e4 := HE5.out; have e5 := hs.out
    rw [HD1.out k (by omega), HV5.out.block k (by omega), HV4.out.block k (by omega), HV3.out.block k (by omega)])
  have HA3 : Hid (∀ k, k < v3.heap.size → S5.heap[k]? = v3.heap[k]?) := Lib.hid (fun k hk => by
    have e1 := HE2.out; have e2 := HE3.out; have e3 := HE4.out; have e4 := HE5.out; have e5 := hs.out
    rw [HD1.out k (by omega), HV5.out.block k (by omega), HV4.out.block k (by omega)])
  have HA4 : Hid (∀ k, k < v4.heap.size → S5.heap[k]? = v4.heap[k]?) := Lib.hid (fun k hk => by
    have e1 := HE2.out; have e2 := HE3.out; have e3 := HE4.out; have e4 := HE5.out; have e5 := hs.out
    rw [HD1.out k (by omega), HV5.out.block k (by omega)])
  have HA5 : Hid (∀ k, k < v5.heap.size → S5.heap[k]? = v5.heap[k]?) := Lib.hid (fun k hk => by
    have e1 := HE2.out; have e2 := HE3.out; have e3 := HE4.out; have e4 := HE5.out; have e5 := hs.out
    rw [HD1.out k (by omega)])
  clear hr1 hr2 hr3 hr4 hr5 hb1 hb2 hb3 hb4 hb5 hz1 hz2 hz3 hz4 hz5 hn1 hn2 hn3 hn4 hn5 hc1 hc2 hc3 hc4 hc5 hq2 hq3 hq4 hq5 A1 A2 A3 A4 A5 S1 S2 S3 S4 HV1 HV2 HV3 HV4 HV5 HD1
  obtain ⟨vs1, l1, o1, q1⟩ := HO1.out.fo
  obtain ⟨g1, hg1⟩ := own_addr o1 (by decide)
  rw [hg1] at o1
  obtain ⟨cs1, ht1⟩ := own_type o1 rfl
  have hl1 := o1.lt g1 rfl
  have HT1 : Hid (S5.heap[g1]? = some (.cells cs1 23 (0, 0))) := Lib.hid ((HA1.out g1 hl1.2).trans ht1)
  have HK1 : Hid (cs1[0]? = some (vs1.getD 0 (.slice none 0 0))) := Lib.hid (by
    have h := World.ownsRow.cellAt o1 0 (by decide)
    rw [cell_of_row v1 g1 0 _ _ _ ht1] at h
    rw [h, List.getD_eq_getElem?_getD, List.getElem?_eq_getElem (by rw [l1]; decide)]; rfl)
  have HLG1 : Hid (g1 < s) := Lib.hid (Nat.lt_of_lt_of_le hl1.2 HSV.out.1)
  have HG1 := Lib.hid hg1
  have HLO1 := Lib.hid hl1
  have HTV1 := Lib.hid ht1
  clear o1 q1 hl1 ht1 hg1 l1
  have cA : S5.cell? ⟨s, 2, none⟩ = some (.slice (some ⟨g1, 0, none⟩) 3 x1.oc) := by
    have h := row_cell HN1.out (k := 2) (v := .slice x1.oa 3 x1.oc) rfl
    rw [HG1.out] at h; exact h
  have hrA := (al_old S5 (.cells #[.int .i64 2, .int .i64 1] 3) (show g1 < S5.heap.size by have := hq6.out; have := HLG1.out; omega)).trans HT1.out
  have cB := row_cell hrA HK1.out
  have fB : (S5.alloc (.cells #[.int .i64 2, .int .i64 1] 3)).frozen? ⟨g1, 0, none⟩ = false := frozen_of_row _ _ 0 _ _ hrA
  go_upto_region 7 with fail
  rw [hq6.out]
  have hPA := put_facts hrA (i := 0) (.slice (some ⟨s + 5, 0, none⟩) 2 2)
  have hPN := heap_alloc_new S5 (.cells #[.int .i64 2, .int .i64 1] 3)
  have hPO := fun k (h : k < S5.heap.size) => al_old S5 (.cells #[.int .i64 2, .int .i64 1] 3) h
  have hPZ : (S5.alloc (.cells #[.int .i64 2, .int .i64 1] 3)).heap.size = s + 6 := by simp [hq6.out]
  rw [hq6.out] at hPN hPO
  have HPB : Hid (Below B w ((S5.alloc (.cells #[.int .i64 2, .int .i64 1] 3)).setCell ⟨g1, 0, none⟩ (.slice (some ⟨s + 5, 0, none⟩) 2 2))) := Lib.hid ((HBZ.out.alloc (HSZ.out _ HBZ.out) _).setCell (by have := HLO1.out.1; have := HSZ.out _ HB6.out; show B ≤ g1; omega) _)
  clear hrA cA cB fB
  generalize (S5.alloc (.cells #[.int .i64 2, .int .i64 1] 3)) = S5' at *
  generalize S5'.setCell ⟨g1, 0, none⟩ (.slice (some ⟨s + 5, 0, none⟩) 2 2) = S6 at *
  have HQ6 : Hid (S6.heap.size = s + 6) := Lib.hid (hPA.2.2.trans hPZ)
  have HR6 := Lib.hid hPA.1
  have HI6 : Hid (∀ k, k < s + 5 → k ≠ g1 → S6.heap[k]? = S5.heap[k]?) := Lib.hid (fun k h1 h2 => (hPA.2.1 k h2).trans (hPO k h1))
  have HJ6 : Hid (S6.heap[s + 5]? = some (.cells #[.int .i64 2, .int .i64 1] 3 (0, 0))) := Lib.hid ((hPA.2.1 (s + 5) (by have := HLG1.out; omega)).trans hPN)
  clear hPA hPN hPO hPZ S5'

  have HM6 : Hid (∀ i, i < 5 → S6.heap[s + i]? = S5.heap[s + i]?) := Lib.hid (fun i hi => HI6.out _ (by omega) (by have := HLG1.out; omega))
  obtain ⟨g2, hla2, hcap2⟩ : ∃ g2, x2.la = some ⟨g2, 0, none⟩ ∧ 3 ≤ x2.lc := by
    rcases HO2.out.la.2 with ⟨-, h2⟩ | ⟨g, cap, cur, h1, -, -, h2, -⟩
    · cases h2
    · injection h1 with h3 h4 h5
      exact ⟨g, h3, by rw [h5]; exact h2⟩
  have HLA2 := Lib.hid hla2
  have HCAP2 := Lib.hid hcap2
  have hc2 : (2 : Int) ≤ (x2.lc : Int) := by omega
  have hc2' : 2 ≤ x2.lc := by omega
  have hrA := (HM6.out 1 (by decide)).trans HN2.out
  have cA : S6.cell? ⟨s + 1, 3, none⟩ = some (.slice (some ⟨g2, 0, none⟩) 3 x2.lc) := by
    have h := row_cell hrA (k := 3) (v := .slice x2.la 3 x2.lc) rfl
    rw [HLA2.out] at h; exact h
  have fA : S6.frozen? ⟨s + 1, 3, none⟩ = false := frozen_of_row _ _ 3 _ _ hrA
  clear hla2 hcap2
  go_upto_region 8 with fail
  have hP := put_facts hrA (i := 3) (.slice (some ⟨g2, 0, none⟩) 2 x2.lc)
  have hPB : Below B w (S6.setCell ⟨s + 1, 3, none⟩ (.slice (some ⟨g2, 0, none⟩) 2 x2.lc)) := HPB.out.setCell (by have := HSZ.out _ HB6.out; have := HLO1.out.1; have := HLG1.out; show B ≤ s + 1; omega) _
  clear cA fA hrA hc2 hc2'
  generalize S6.setCell ⟨s + 1, 3, none⟩ (.slice (some ⟨g2, 0, none⟩) 2 x2.lc) = S7 at *
  have HB7 := Lib.hid hPB
  have HQ7 : Hid (S7.heap.size = s + 6) := Lib.hid (hP.2.2.trans HQ6.out)
  have HI7 := Lib.hid hP.2.1
  have HR7 : Hid (S7.heap[s + 1]? = some (.cells (mc x2 k2) 27 (0, 0))) := Lib.hid (by
    rw [hP.1, ← HLA2.out]; rfl)
  clear hP hPB HPB
  obtain ⟨g3, hg3⟩ := own_addr HO3.out.sp (by decide)
  have o3 := HO3.out.sp
  rw [hg3] at o3
  obtain ⟨cs3, ht3⟩ := own_type o3 rfl
  have hl3 := o3.lt g3 rfl
  have HG3 := Lib.hid hg3
  have HLO3 := Lib.hid hl3
  have HTV3 := Lib.hid ht3
  have HLG3 : Hid (g3 < s) := Lib.hid (Nat.lt_of_lt_of_le hl3.2 HSV.out.2.2.1)
  have HNE : Hid (g1 ≠ g3) := Lib.hid (by have e1 := HLO1.out.2; have e2 := HE2.out; have e3 := hl3.1; omega)
  have HT3 : Hid (S7.heap[g3]? = some (.cells cs3 41 (0, 0))) := Lib.hid (by
    have e1 := HLG3.out
    rw [HI7.out g3 (by omega), HI6.out g3 (by omega) (fun e => HNE.out e.symm), HA3.out g3 hl3.2]
    exact ht3)
  have HK3 : Hid (cs3[4]? = some (.int .u8 0)) := Lib.hid (by
    have h := World.ownsRow.cellAt o3 4 (by decide)
    rw [cell_of_row v3 g3 4 _ _ _ ht3] at h
    rw [h]; rfl)
  clear o3 hg3 ht3 hl3
  have cA : S7.cell? ⟨s + 2, 0, none⟩ = some (.slice (some ⟨g3, 0, none⟩) 3 x3.sc) := by
    have h := row_cell ((HI7.out (s + 2) (by omega)).trans ((HM6.out 2 (by decide)).trans HN3.out)) (k := 0) (v := .slice x3.sa 3 x3.sc) rfl
    rw [HG3.out] at h; exact h
  have cB := row_cell HT3.out HK3.out
  have fB : S7.frozen? ⟨g3, 4, none⟩ = false := frozen_of_row _ _ 4 _ _ HT3.out
  go_upto_region 9 with fail
  have hP := put_facts HT3.out (i := 4) (.int .u8 3)
  have hPB : Below B w (S7.setCell ⟨g3, 4, none⟩ (.int .u8 3)) := HB7.out.setCell (by have := HSZ.out _ HB6.out; have := HLO3.out.1; have := HE1.out; have := HE2.out; show B ≤ g3; omega) _
  clear cA cB fB
  generalize S7.setCell ⟨g3, 4, none⟩ (.int .u8 3) = S8 at *
  have HB8 := Lib.hid hPB
  have HQ8 : Hid (S8.heap.size = s + 6) := Lib.hid (hP.2.2.trans HQ7.out)
  have HI8 := Lib.hid hP.2.1
  have HR8 := Lib.hid hP.1
  clear hP hPB
  have HX4 : Hid (S8.heap[s + 3]? = some (.cells (mc x4 someM) 27 (0, 0))) := Lib.hid (by
    have e1 := HLG3.out
    rw [HI8.out _ (by omega), HI7.out _ (by omega), HM6.out 3 (by decide)]; exact HN4.out)
  have hrA := (al_old S8 (.cells #[.int .i64 3] 3) (show s + 3 < S8.heap.size by have := HQ8.out; omega)).trans HX4.out
  have cA := row_cell hrA (k := 1) (v := .slice x4.fa 1 x4.fc) rfl
  have fA : (S8.alloc (.cells #[.int .i64 3] 3)).frozen? ⟨s + 3, 1, none⟩ = false := frozen_of_row _ _ 1 _ _ hrA
  go_upto_region 10 with fail
  rw [HQ8.out]
  have hP := put_facts hrA (i := 1) (.slice (some ⟨s + 6, 0, none⟩) 1 1)
  have hPN := heap_alloc_new S8 (.cells #[.int .i64 3] 3)
  have hPO := fun k (h : k < S8.heap.size) => al_old S8 (.cells #[.int .i64 3] 3) h
  have hPZ : (S8.alloc (.cells #[.int .i64 3] 3)).heap.size = s + 7 := by simp [HQ8.out]
  rw [HQ8.out] at hPN hPO
  have HB9 : Hid (Below B w ((S8.alloc (.cells #[.int .i64 3] 3)).setCell ⟨s + 3, 1, none⟩ (.slice (some ⟨s + 6, 0, none⟩) 1 1))) := Lib.hid ((HB8.out.alloc (HSZ.out _ HB8.out) _).setCell (by have := HSZ.out _ HB6.out; have := HLO1.out.1; have := HLG1.out; show B ≤ s + 3; omega) _)
  clear hrA cA fA
  generalize (S8.alloc (.cells #[.int .i64 3] 3)) = S8' at *
  generalize S8'.setCell ⟨s + 3, 1, none⟩ (.slice (some ⟨s + 6, 0, none⟩) 1 1) = S9 at *
  have HQ9 : Hid (S9.heap.size = s + 7) := Lib.hid (hP.2.2.trans hPZ)
  have HI9 : Hid (∀ k, k < s + 6 → k ≠ s + 3 → S9.heap[k]? = S8.heap[k]?) := Lib.hid (fun k h1 h2 => (hP.2.1 k h2).trans (hPO k h1))
  have HJ9 : Hid (S9.heap[s + 6]? = some (.cells #[.int .i64 3] 3 (0, 0))) := Lib.hid ((hP.2.1 (s + 6) (by omega)).trans hPN)
  have HR9 : Hid (S9.heap[s + 3]? = some (.cells (mc ⟨x4.sa, x4.sc, some ⟨s + 6, 0, none⟩, 1, x4.oa, x4.oc, x4.la, x4.lc⟩ k4) 27 (0, 0))) := Lib.hid (by rw [hP.1]; rfl)
  clear hP hPN hPO hPZ S8'
  have HX5 : Hid (S9.heap[s + 4]? = some (.cells (mc x5 someM) 27 (0, 0))) := Lib.hid (by
    have e1 := HLG3.out
    rw [HI9.out _ (by omega) (by omega), HI8.out _ (by omega), HI7.out _ (by omega), HM6.out 4 (by decide)]; exact HN5.out)
  have hrA := (al_old S9 (.cells #[.int .i64 0, .int .i64 0] 3) (show s + 4 < S9.heap.size by have := HQ9.out; omega)).trans HX5.out
  have cA := row_cell hrA (k := 1) (v := .slice x5.fa 1 x5.fc) rfl
  have fA : (S9.alloc (.cells #[.int .i64 0, .int .i64 0] 3)).frozen? ⟨s + 4, 1, none⟩ = false := frozen_of_row _ _ 1 _ _ hrA
  go_upto_region 11 with fail
  rw [HQ9.out]
  have hP := put_facts hrA (i := 1) (.slice (some ⟨s + 7, 0, none⟩) 2 2)
  have hPN := heap_alloc_new S9 (.cells #[.int .i64 0, .int .i64 0] 3)
  have hPO := fun k (h : k < S9.heap.size) => al_old S9 (.cells #[.int .i64 0, .int .i64 0] 3) h
  have hPZ : (S9.alloc (.cells #[.int .i64 0, .int .i64 0] 3)).heap.size = s + 8 := by simp [HQ9.out]
  rw [HQ9.out] at hPN hPO
  have HB10 : Hid (Below B w ((S9.alloc (.cells #[.int .i64 0, .int .i64 0] 3)).setCell ⟨s + 4, 1, none⟩ (.slice (some ⟨s + 7, 0, none⟩) 2 2))) := Lib.hid ((HB9.out.alloc (HSZ.out _ HB9.out) _).setCell (by have := HSZ.out _ HB6.out; have := HLO1.out.1; have := HLG1.out; show B ≤ s + 4; omega) _)
  clear hrA cA fA
  generalize (S9.alloc (.cells #[.int .i64 0, .int .i64 0] 3)) = S9' at *
  generalize S9'.setCell ⟨s + 4, 1, none⟩ (.slice (some ⟨s + 7, 0, none⟩) 2 2) = Z at *
  have HQ10 : Hid (Z.heap.size = s + 8) := Lib.hid (hP.2.2.trans hPZ)
  have HI10 : Hid (∀ k, k < s + 7 → k ≠ s + 4 → Z.heap[k]? = S9.heap[k]?) := Lib.hid (fun k h1 h2 => (hP.2.1 k h2).trans (hPO k h1))
  have HJ10 : Hid (Z.heap[s + 7]? = some (.cells #[.int .i64 0, .int .i64 0] 3 (0, 0))) := Lib.hid ((hP.2.1 (s + 7) (by omega)).trans hPN)
  have HR10 : Hid (Z.heap[s + 4]? = some (.cells (mc ⟨x5.sa, x5.sc, some ⟨s + 7, 0, none⟩, 2, x5.oa, x5.oc, x5.la, x5.lc⟩ k5) 27 (0, 0))) := Lib.hid (by rw [hP.1]; rfl)
  clear hP hPN hPO hPZ S9'
  have HF : Hid (∀ k, k < s → k ≠ g1 → k ≠ g3 → Z.heap[k]? = S5.heap[k]?) := Lib.hid (fun k h1 h2 h3 => by
    rw [HI10.out k (by omega) (by omega), HI9.out k (by omega) (by omega), HI8.out k h3, HI7.out k (by omega), HI6.out k (by omega) h2])
  have HZ1 : Hid (Z.heap[g1]? = some (.cells (cs1.setIfInBounds 0 (.slice (some ⟨s + 5, 0, none⟩) 2 2)) 23 (0, 0))) := Lib.hid (by
    have e1 := HLG1.out
    rw [HI10.out g1 (by omega) (by omega), HI9.out g1 (by omega) (by omega), HI8.out g1 HNE.out, HI7.out g1 (by omega)]; exact HR6.out)
  have HZ3 : Hid (Z.heap[g3]? = some (.cells (cs3.setIfInBounds 4 (.int .u8 3)) 41 (0, 0))) := Lib.hid (by
    have e1 := HLG3.out
    rw [HI10.out g3 (by omega) (by omega), HI9.out g3 (by omega) (by omega)]; exact HR8.out)
  have HU1 : Hid (BoxM Z s x1 k1) := Lib.hid ⟨by
    have e1 := HLG3.out
    rw [HI10.out s (by omega) (by omega), HI9.out s (by omega) (by omega), HI8.out s (by omega), HI7.out s (by omega)]; exact (HM6.out 0 (by decide)).trans HN1.out⟩
  have HU2 : Hid (BoxM Z (s + 1) x2 k2) := Lib.hid ⟨by
    have e1 := HLG3.out
    rw [HI10.out _ (by omega) (by omega), HI9.out _ (by omega) (by omega), HI8.out _ (by omega)]; exact HR7.out⟩
  have HU3 : Hid (BoxM Z (s + 2) x3 k3) := Lib.hid ⟨by
    have e1 := HLG3.out
    rw [HI10.out _ (by omega) (by omega), HI9.out _ (by omega) (by omega), HI8.out _ (by omega), HI7.out _ (by omega), HM6.out 2 (by decide)]; exact HN3.out⟩
  have HU4 : Hid (BoxM Z (s + 3) ⟨x4.sa, x4.sc, some ⟨s + 6, 0, none⟩, 1, x4.oa, x4.oc, x4.la, x4.lc⟩ k4) := Lib.hid ⟨by rw [HI10.out _ (by omega) (by omega)]; exact HR9.out⟩
  have HU5 : Hid (BoxM Z (s + 4) ⟨x5.sa, x5.sc, some ⟨s + 7, 0, none⟩, 2, x5.oa, x5.oc, x5.la, x5.lc⟩ k5) := Lib.hid ⟨HR10.out⟩
  have HW1 : Hid (MAt Z x1 k1) := Lib.hid (falls_mat HO1.out HG1.out (q := s + 5) (fun k h1 h2 => by
    by_cases e : k = g1
    · rw [e, HZ1.out, heap_setCell_same _ _ _ _ _ _ HTV1.out]
    · rw [HF.out k (Nat.lt_of_lt_of_le h2 HSV.out.1) e (by have e1 := HLO3.out.1; have e2 := HE2.out; omega), HA1.out k h2, Below.heap_setCell _ _ _ _ e]) (fun i hi => by
      have hi : i < 2 := hi
      refine ⟨s + 5, 0, rfl, row_cell (by rw [HI10.out _ (by omega) (by omega), HI9.out _ (by omega) (by omega), HI8.out _ (by have := HLG3.out; omega), HI7.out _ (by omega)]; exact HJ6.out) ?_⟩
      match i, hi with
      | 0, _ => rfl
      | 1, _ => rfl))
  have HW2 : Hid (MAt Z x2 k2) := Lib.hid (short_mat (OwnM.agr HO2.out (fun k h1 h2 => by
    rw [HF.out k (Nat.lt_of_lt_of_le h2 HSV.out.2.1) (by have e1 := HLO1.out.2; omega) (by have e1 := HLO3.out.1; omega), HA2.out k h2])).mat)
  have HW3 : Hid (MAt Z x3 k3) := Lib.hid (tag_mat HO3.out HG3.out (fun k h1 h2 => by
    by_cases e : k = g3
    · rw [e, HZ3.out, heap_setCell_same _ _ _ _ _ _ HTV3.out]
    · rw [HF.out k (Nat.lt_of_lt_of_le h2 HSV.out.2.2.1) (by have e1 := HLO1.out.2; have e2 := HE2.out; omega) e, HA3.out k h2, Below.heap_setCell _ _ _ _ e]))
  have HW4 : Hid (MAt Z ⟨x4.sa, x4.sc, some ⟨s + 6, 0, none⟩, 1, x4.oa, x4.oc, x4.la, x4.lc⟩ k4) := Lib.hid (first_mat (OwnM.agr HO4.out (fun k h1 h2 => by
    rw [HF.out k (Nat.lt_of_lt_of_le h2 HSV.out.2.2.2.1) (by have e1 := HLO1.out.2; have e2 := HE2.out; have e3 := HE3.out; omega) (by have e1 := HLO3.out.2; omega), HA4.out k h2])).mat _ _ [3] (fun i hi => by
      have hi : i < 1 := hi
      obtain rfl : i = 0 := by omega
      exact ⟨s + 6, 0, rfl, row_cell ((HI10.out _ (by omega) (by omega)).trans HJ9.out) rfl⟩))
  have HW5 : Hid (MAt Z ⟨x5.sa, x5.sc, some ⟨s + 7, 0, none⟩, 2, x5.oa, x5.oc, x5.la, x5.lc⟩ k5) := Lib.hid (first_mat (OwnM.agr HO5.out (fun k h1 h2 => by
    rw [HF.out k (Nat.lt_of_lt_of_le h2 HSV.out.2.2.2.2) (by have e1 := HLO1.out.2; have e2 := HE2.out; have e3 := HE3.out; have e4 := HE4.out; omega) (by have e1 := HLO3.out.2; have e2 := HE4.out; omega), HA5.out k h2])).mat _ _ [0, 0] (fun i hi => by
      have hi : i < 2 := hi
      refine ⟨s + 7, 0, rfl, row_cell HJ10.out ?_⟩
      match i, hi with
      | 0, _ => rfl
      | 1, _ => rfl))
  clear HO1 HO2 HO3 HO4 HO5 HE1 HE2 HE3 HE4 HE5 HN1 HN2 HN3 HN4 HN5 HBZ HSV HA1 HA2 HA3 HA4 HA5 HT1 HK1 HLG1 HG1 HLO1 HTV1 HQ6 HR6 HI6 HJ6 HM6 HLA2 HCAP2 HB7 HQ7 HI7 HR7 HG3 HLO3 HTV3 HLG3 HNE HT3 HK3 HB8 HQ8 HI8 HR8 HX4 HB9 HQ9 HI9 HJ9 HR9 HX5 HI10 HJ10 HR10 HF HZ1 HZ3 hq6 hs
  obtain ⟨y4, hy4⟩ : ∃ y : Ma, Hid ((⟨x4.sa, x4.sc, some ⟨s + 6, 0, none⟩, 1, x4.oa, x4.oc, x4.la, x4.lc⟩ : Ma) = y) := ⟨_, Lib.hid rfl⟩
  obtain ⟨y5, hy5⟩ : ∃ y : Ma, Hid ((⟨x5.sa, x5.sc, some ⟨s + 7, 0, none⟩, 2, x5.oa, x5.oc, x5.la, x5.lc⟩ : Ma) = y) := ⟨_, Lib.hid rfl⟩
  rw [hy4.out] at HU4 HW4
  rw [hy5.out] at HU5 HW5
  clear hy4 hy5
  refine Rinv.region_inv6 (RK x1 x2 x3 y4 y5) 14 RKd (by kernel_rfl) (by kernel_rfl) ?_ (RK_mono x1 x2 x3 y4 y5) ?_ ?_
  · intro j hj
    have : j = 0 ∨ j = 1 ∨ j = 2 ∨ j = 3 ∨ j = 4 ∨ j = 5 ∨ j = 6 ∨ j = 7 ∨ j = 8 ∨ j = 9 ∨ j = 10 ∨ j = 11 ∨ j = 12 ∨ j = 13 := by omega
    rcases this with rfl | rfl | rfl | rfl | rfl | rfl | rfl | rfl | rfl | rfl | rfl | rfl | rfl | rfl <;> rfl
  · intro i hi X w' hB hR K hK
    have HK := Lib.hid hK
    have HBW := Lib.hid hB
    clear hK hB
    have hi' : i = 0 ∨ i = 1 ∨ i = 2 ∨ i = 3 ∨ i = 4 ∨ i = 5 ∨ i = 6 ∨ i = 7 ∨ i = 8 ∨ i = 9 ∨ i = 10 ∨ i = 11 ∨ i = 12 ∨ i = 13 := by omega
    rcases hi' with rfl | rfl | rfl | rfl | rfl | rfl | rfl | rfl | rfl | rfl | rfl | rfl | rfl | rfl
    · simp only [List.getD_cons_zero]
      clear hR
      simp only [Rinv.putAll, RKd, Act.put, Nat.reduceAdd, List.setIfInBounds_toArray, List.set_cons_zero, List.set_cons_succ]
      go_wp2_with (refine wpList_load_mach rfl (.tmp 4) rfl (s) x1 k1 rfl (HU1.out.kept HBW.out HU1.out.lt) ?_)
      exact HK.out _ _ (.agg (mc x1 k1)) (by simp only [Rinv.putAll, RKd, Act.put, Nat.reduceAdd, List.setIfInBounds_toArray, List.set_cons_zero, List.set_cons_succ]) (Below.refl _ _) rfl
    · simp only [List.getD_cons_zero, List.getD_cons_succ]
      clear hR
      simp only [Rinv.putAll, RKd, Act.put, Nat.reduceAdd, List.setIfInBounds_toArray, List.set_cons_zero, List.set_cons_succ]
      go_wp2_with (refine wpList_load_mach rfl (.tmp 5) rfl (s + 1) x2 k2 rfl (HU2.out.kept HBW.out HU2.out.lt) ?_)
      exact HK.out _ _ (.agg (mc x2 k2)) (by simp only [Rinv.putAll, RKd, Act.put, Nat.reduceAdd, List.setIfInBounds_toArray, List.set_cons_zero, List.set_cons_succ]) (Below.refl _ _) rfl
    · simp only [List.getD_cons_zero, List.getD_cons_succ]
      clear hR
      simp only [Rinv.putAll, RKd, Act.put, Nat.reduceAdd, List.setIfInBounds_toArray, List.set_cons_zero, List.set_cons_succ]
      go_wp2_with (refine wpList_load_mach rfl (.tmp 6) rfl (s + 2) x3 k3 rfl (HU3.out.kept HBW.out HU3.out.lt) ?_)
      exact HK.out _ _ (.agg (mc x3 k3)) (by simp only [Rinv.putAll, RKd, Act.put, Nat.reduceAdd, List.setIfInBounds_toArray, List.set_cons_zero, List.set_cons_succ]) (Below.refl _ _) rfl
    · simp only [List.getD_cons_zero, List.getD_cons_succ]
      clear hR
      simp only [Rinv.putAll, RKd, Act.put, Nat.reduceAdd, List.setIfInBounds_toArray, List.set_cons_zero, List.set_cons_succ]
      go_wp2_with (refine wpList_load_mach rfl (.tmp 7) rfl (s + 3) y4 k4 rfl (HU4.out.kept HBW.out HU4.out.lt) ?_)
      exact HK.out _ _ (.agg (mc y4 k4)) (by simp only [Rinv.putAll, RKd, Act.put, Nat.reduceAdd, List.setIfInBounds_toArray, List.set_cons_zero, List.set_cons_succ]) (Below.refl _ _) rfl
    · simp only [List.getD_cons_zero, List.getD_cons_succ]
      clear hR
      simp only [Rinv.putAll, RKd, Act.put, Nat.reduceAdd, List.setIfInBounds_toArray, List.set_cons_zero, List.set_cons_succ]
      go_wp2_with (refine wpList_load_mach rfl (.tmp 8) rfl (s + 4) y5 k5 rfl (HU5.out.kept HBW.out HU5.out.lt) ?_)
      exact HK.out _ _ (.agg (mc y5 k5)) (by simp only [Rinv.putAll, RKd, Act.put, Nat.reduceAdd, List.setIfInBounds_toArray, List.set_cons_zero, List.set_cons_succ]) (Below.refl _ _) rfl
    · simp only [List.getD_cons_zero, List.getD_cons_succ]
      clear hR
      simp only [Rinv.putAll, RKd, Act.put, Nat.reduceAdd, List.setIfInBounds_toArray, List.set_cons_zero, List.set_cons_succ]
      go_wp2_with (refine wpList_make_spots rfl _ _ rfl 251 rfl rfl (by decide) ?_)
      exact HK.out _ _ (.slice (some ⟨w'.heap.size, 0, none⟩) 251 251) (by simp only [Rinv.putAll, RKd, Act.put, Nat.reduceAdd, List.setIfInBounds_toArray, List.set_cons_zero, List.set_cons_succ]) ((Below.refl _ _).alloc (Nat.le_refl _) _) ⟨_, rfl, heap_alloc_new w' _⟩
    · simp only [List.getD_cons_zero, List.getD_cons_succ]
      clear hR
      simp only [Rinv.putAll, RKd, Act.put, Nat.reduceAdd, List.setIfInBounds_toArray, List.set_cons_zero, List.set_cons_succ]
      go_wp2_with (refine wpList_make_lists rfl _ _ rfl 251 rfl rfl (by decide) ?_)
      exact HK.out _ _ (.slice (some ⟨w'.heap.size, 0, none⟩) 251 251) (by simp only [Rinv.putAll, RKd, Act.put, Nat.reduceAdd, List.setIfInBounds_toArray, List.set_cons_zero, List.set_cons_succ]) ((Below.refl _ _).alloc (Nat.le_refl _) _) ⟨_, rfl, heap_alloc_new w' _⟩
    · simp only [List.getD_cons_zero, List.getD_cons_succ]
      clear hR
      simp only [Rinv.putAll, RKd, Act.put, Nat.reduceAdd, List.setIfInBounds_toArray, List.set_cons_zero, List.set_cons_succ]
      go_wp2_with (refine wpList_make_bools rfl _ _ rfl 251 rfl rfl (by decide) ?_)
      exact HK.out _ _ (.slice (some ⟨w'.heap.size, 0, none⟩) 251 251) (by simp only [Rinv.putAll, RKd, Act.put, Nat.reduceAdd, List.setIfInBounds_toArray, List.set_cons_zero, List.set_cons_succ]) ((Below.refl _ _).alloc (Nat.le_refl _) _) ⟨_, rfl, heap_alloc_new w' _⟩
    · simp only [List.getD_cons_zero, List.getD_cons_succ]
      have hr5 : RK x1 x2 x3 y4 y5 5 (X 5) w' := hR 5 (by decide) (by unfold Rinv.waits; kernel_rfl)
      have hr6 : RK x1 x2 x3 y4 y5 6 (X 6) w' := hR 6 (by decide) (by unfold Rinv.waits; kernel_rfl)
      have hr7 : RK x1 x2 x3 y4 y5 7 (X 7) w' := hR 7 (by decide) (by unfold Rinv.waits; kernel_rfl)
      obtain ⟨q5, e5, h5⟩ := hr5
      have H5 := Lib.hid h5
      obtain ⟨q6, e6, h6⟩ := hr6
      have H6 := Lib.hid h6
      obtain ⟨q7, e7, h7⟩ := hr7
      have H7 := Lib.hid h7
      clear hR h5 h6 h7
      simp only [Rinv.putAll, RKd, Act.put, Nat.reduceAdd, List.setIfInBounds_toArray, List.set_cons_zero, List.set_cons_succ, e5, e6, e7]
      go_wp2_with fail
      exact HK.out _ _ (.agg #[.slice (some ⟨q5, 0, none⟩) 251 251, .slice none 0 0, .slice (some ⟨q6, 0, none⟩) 251 251, .slice (some ⟨q7, 0, none⟩) 251 251, .bool false]) (by simp only [Rinv.putAll, RKd, Act.put, Nat.reduceAdd, List.setIfInBounds_toArray, List.set_cons_zero, List.set_cons_succ, e5, e6, e7]) (Below.refl _ _) ⟨zA 251 q5 q6 q7, rfl, zero_mat 251 q5 q6 q7 w' H5.out H6.out H7.out⟩
    · simp only [List.getD_cons_zero, List.getD_cons_succ]
      clear hR
      simp only [Rinv.putAll, RKd, Act.put, Nat.reduceAdd, List.setIfInBounds_toArray, List.set_cons_zero, List.set_cons_succ]
      go_wp2_with (refine wpList_make_lists rfl _ _ rfl 1 rfl rfl (by decide) ?_)
      exact HK.out _ _ (.slice (some ⟨w'.heap.size, 0, none⟩) 1 1) (by simp only [Rinv.putAll, RKd, Act.put, Nat.reduceAdd, List.setIfInBounds_toArray, List.set_cons_zero, List.set_cons_succ]) ((Below.refl _ _).alloc (Nat.le_refl _) _) ⟨_, rfl, heap_alloc_new w' _⟩
    · simp only [List.getD_cons_zero, List.getD_cons_succ]
      have hr9 : RK x1 x2 x3 y4 y5 9 (X 9) w' := hR 9 (by decide) (by unfold Rinv.waits; kernel_rfl)
      obtain ⟨q9, e9, h9⟩ := hr9
      have H9 := Lib.hid h9
      clear hR h9
      simp only [Rinv.putAll, RKd, Act.put, Nat.reduceAdd, List.setIfInBounds_toArray, List.set_cons_zero, List.set_cons_succ, e9]
      go_wp2_with fail
      exact HK.out _ _ (.agg #[.slice none 0 0, .slice none 0 0, .slice (some ⟨q9, 0, none⟩) 1 1, .slice none 0 0, .bool false]) (by simp only [Rinv.putAll, RKd, Act.put, Nat.reduceAdd, List.setIfInBounds_toArray, List.set_cons_zero, List.set_cons_succ, e9]) (Below.refl _ _) ⟨oneA q9, rfl, one_mat q9 w' H9.out⟩
    · simp only [List.getD_cons_zero, List.getD_cons_succ]
      have hr0 : RK x1 x2 x3 y4 y5 0 (X 0) w' := hR 0 (by decide) (by unfold Rinv.waits; kernel_rfl)
      have hr1 : RK x1 x2 x3 y4 y5 1 (X 1) w' := hR 1 (by decide) (by unfold Rinv.waits; kernel_rfl)
      have hr2 : RK x1 x2 x3 y4 y5 2 (X 2) w' := hR 2 (by decide) (by unfold Rinv.waits; kernel_rfl)
      have hr3 : RK x1 x2 x3 y4 y5 3 (X 3) w' := hR 3 (by decide) (by unfold Rinv.waits; kernel_rfl)
      have hr4 : RK x1 x2 x3 y4 y5 4 (X 4) w' := hR 4 (by decide) (by unfold Rinv.waits; kernel_rfl)
      have hr8 : RK x1 x2 x3 y4 y5 8 (X 8) w' := hR 8 (by decide) (by unfold Rinv.waits; kernel_rfl)
      have hr10 : RK x1 x2 x3 y4 y5 10 (X 10) w' := hR 10 (by decide) (by unfold Rinv.waits; kernel_rfl)
      have e0 : X 0 = _ := hr0
      have e1 : X 1 = _ := hr1
      have e2 : X 2 = _ := hr2
      have e3 : X 3 = _ := hr3
      have e4 : X 4 = _ := hr4
      obtain ⟨x6, e8, h8⟩ := hr8
      obtain ⟨x7, e10, h10⟩ := hr10
      have H8 := Lib.hid h8
      have H10 := Lib.hid h10
      clear hR h8 h10 hr0 hr1 hr2 hr3 hr4
      simp only [Rinv.putAll, RKd, Act.put, Nat.reduceAdd, List.setIfInBounds_toArray, List.set_cons_zero, List.set_cons_succ, e0, e1, e2, e3, e4, e8, e10]
      go_wp2_with fail
      have hal := (Below.refl w'.heap.size w').alloc (Nat.le_refl _) (.cells (row7 x1 x2 x3 y4 y5 x6 x7) 27)
      exact HK.out _ _ (.slice (some ⟨w'.heap.size, 0, none⟩) 7 7) (by simp only [Rinv.putAll, RKd, Act.put, Nat.reduceAdd, List.setIfInBounds_toArray, List.set_cons_zero, List.set_cons_succ, e0, e1, e2, e3, e4, e8, e10]) hal ⟨_, x6, x7, rfl, heap_alloc_new w' (.cells (row7 x1 x2 x3 y4 y5 x6 x7) 27), H8.out.kept hal, H10.out.kept hal⟩
    · simp only [List.getD_cons_zero, List.getD_cons_succ]
      have hr11 : RK x1 x2 x3 y4 y5 11 (X 11) w' := hR 11 (by decide) (by unfold Rinv.waits; kernel_rfl)
      obtain ⟨q11, x6, x7, e11, -⟩ := hr11
      clear hR
      simp only [Rinv.putAll, RKd, Act.put, Nat.reduceAdd, List.setIfInBounds_toArray, List.set_cons_zero, List.set_cons_succ, e11]
      go_wp2_with fail
      exact HK.out _ _ (.int .i64 7) (by simp only [Rinv.putAll, RKd, Act.put, Nat.reduceAdd, List.setIfInBounds_toArray, List.set_cons_zero, List.set_cons_succ, e11]) (Below.refl _ _) rfl
    · simp only [List.getD_cons_zero, List.getD_cons_succ]
      clear hR
      simp only [Rinv.putAll, RKd, Act.put, Nat.reduceAdd, List.setIfInBounds_toArray, List.set_cons_zero, List.set_cons_succ]
      go_wp2_with fail
      exact HK.out _ _ (.int .i64 0) (by simp only [Rinv.putAll, RKd, Act.put, Nat.reduceAdd, List.setIfInBounds_toArray, List.set_cons_zero, List.set_cons_succ]) (Below.refl _ _) rfl
  · intro X w' hB hR
    have HBW := Lib.hid hB
    have hr11 : RK x1 x2 x3 y4 y5 11 (X 11) w' := hR 11 (by decide)
    have e12 : X 12 = .int .i64 7 := hR 12 (by decide)
    have e13 : X 13 = .int .i64 0 := hR 13 (by decide)
    obtain ⟨q, x6, x7, e11, h11, m6, m7⟩ := hr11
    have HQR := Lib.hid h11
    have HM6 := Lib.hid m6
    have HM7 := Lib.hid m7
    clear hB hR h11 m6 m7
    simp only [Rinv.putAll, RKd, Act.put, Nat.reduceAdd, List.setIfInBounds_toArray, List.set_cons_zero, List.set_cons_succ, e11, e12, e13]
    obtain ⟨u, hu⟩ : ∃ u : Nat → Value, Hid (X = u) := ⟨_, Lib.hid rfl⟩
    have HAT : Hid (∀ j, j < 7 → MAt w' (XS x1 x2 x3 y4 y5 x6 x7 j) (MS j)) := Lib.hid (fun j hj => by
      match j, hj with
      | 0, _ => exact HW1.out.kept HBW.out
      | 1, _ => exact HW2.out.kept HBW.out
      | 2, _ => exact HW3.out.kept HBW.out
      | 3, _ => exact HW4.out.kept HBW.out
      | 4, _ => exact HW5.out.kept HBW.out
      | 5, _ => exact HM6.out
      | 6, _ => exact HM7.out)
    have HRW : Hid (∀ j, j < 7 → w'.rangeAt q (j * 5) (mc (XS x1 x2 x3 y4 y5 x6 x7 j) (MS j)).toList) := Lib.hid (fun j hj i v hv => row_cell HQR.out (row7_at x1 x2 x3 y4 y5 x6 x7 j hj i v hv))
    have HBW2 := Lib.hid (HB10.out.trans (HBW.out.mono (HSZ.out _ HB10.out)))
    clear HW1 HW2 HW3 HW4 HW5 HM6 HM7 HQR HU1 HU2 HU3 HU4 HU5 HBW HB10 HQ10 e11 e12 e13
    generalize hXs : XS x1 x2 x3 y4 y5 x6 x7 = XX at *
    clear hXs
    clear hu u
    generalize hwq : w' = w7 at *
    clear hwq
    go_wp2_with fail
    go_loopw [112] (fun i wr => ∃ j : Nat, i = .int .i64 j ∧ j ≤ 7 ∧ Hid (Below w7.heap.size w7 wr)) (fun i _ => ((7 : Int) - intOf i).toNat)
    case atStart => exact ⟨0, rfl, Nat.zero_le _, Lib.hid (Below.refl _ _)⟩
    case round =>
      obtain ⟨j, rfl, hj, HR⟩ := hrel
      generalize hwr : wr = w8 at *
      clear hwr wr
      by_cases hlt : j < 7
      · have hdd : decide ((j : Int) < 7) = true := decide_eq_true (by omega)
        have hd2 : decide (j < 7) = true := decide_eq_true hlt
        have hji : (j : Int) < 7 := by omega
        have HW1 : Hid (wrap64 ((j : Int) + 1) = ((j + 1 : Nat) : Int)) := Lib.hid (nat_wrap (by omega))
        have HJ := Lib.hid hlt
        have HRG := Lib.hid (range_below (HRW.out j hlt) HR.out)
        have HM := Lib.hid ((HAT.out j hlt).kept HR.out)
        have HF := Lib.hid (MS_fine j)
        have HWR := Lib.hid (MS_wrong j)
        have HB8 := Lib.hid (HBW2.out.trans (HR.out.mono (HSZ.out _ HBW2.out)))
        clear hlt
        generalize XX j = z at *
        generalize MS j = m at *
        go_upto_region 14 with (first
          | (refine BigFrame.wpList_want rfl (fun K' hK' => ?_); refine wp_load_mid 27 _ rfl q (j * 5) rfl (mc z m).toList _ HRG.out Tryd.underlying27 rfl (sizeMach z m) ?_; refine hK' _ _ ?_; clear hK' K')
          | (refine wpList_lay_mach rfl (.tmp 10) (.tmp 115) rfl z m _ rfl rfl rfl ?_))
        rw [show ∀ a : Act, a.put none undef = a from fun _ => rfl]
        have hal := (Below.refl w8.heap.size w8).alloc (Nat.le_refl _) (.cells (mc z m) 27)
        have HX9 := Lib.hid (BoxM.new w8 z m)
        have HM9 := Lib.hid (HM.out.kept hal)
        have HS9 := Lib.hid (HR.out.trans (hal.mono HR.out.size))
        have HB9 := Lib.hid (HB8.out.trans (hal.mono (HSZ.out _ HB8.out)))
        obtain ⟨b9, hb9⟩ : ∃ b, Hid (w8.heap.size = b) := ⟨_, Lib.hid rfl⟩
        rw [hb9.out] at HX9 ⊢
        clear hal HM HR HRG HB8
        generalize w8.alloc (.cells (mc z m) 27) = w9 at *
        clear hb9
        have HTR := Lib.hid (trim_wrong z m w9 HM9.out HF.out HWR.out)
        go_upto_region 15 with (first
          | (refine wpList_load_mach rfl (.tmp 10) rfl b9 z m rfl HX9.out ?_)
          | (go_at_call 8; refine HTR.out.mono ?_; rintro e w10 ⟨rfl, hb⟩; have HB10 := Lib.hid hb; clear hb)
          | (refine wpList_lay_mach rfl (.tmp 11) (.tmp 119) rfl nilA nilM _ rfl rfl rfl ?_))
        have hal := (Below.refl w10.heap.size w10).alloc (Nat.le_refl _) (.cells (mc nilA nilM) 27)
        have h9b := HB10.out.trans (hal.mono HB10.out.size)
        have HX11 := Lib.hid (HX9.out.kept h9b HX9.out.lt)
        have HM11 := Lib.hid (HM9.out.kept h9b)
        have HS11 := Lib.hid (HS9.out.trans (h9b.mono HS9.out.size))
        have HB11 := Lib.hid (HB9.out.trans (h9b.mono (HSZ.out _ HB9.out)))
        clear hal h9b HB10 HX9 HM9 HS9 HB9 HTR
        generalize w10.alloc (.cells (mc nilA nilM) 27) = w11 at *
        have HRI := Lib.hid (nright_any z m w11 HM11.out HF.out)
        rw [mv_eq, HWR.out] at HRI
        go_wp2_with (first
          | (refine wpList_load_mach rfl (.tmp 10) rfl b9 z m rfl HX11.out ?_)
          | (go_at_call 15; refine HRI.out.mono ?_; rintro e w12 ⟨rfl, hb⟩; have HX12 := Lib.hid (HX11.out.kept hb HX11.out.lt); have HS12 := Lib.hid (HS11.out.trans (hb.mono HS11.out.size)); have HRU := Lib.hid (nrun_any z m ⟨#[]⟩ w12 (HM11.out.kept hb) HF.out (by decide) (HTB.out _ (HB11.out.trans (hb.mono (HSZ.out _ HB11.out))))); rw [takes_wrong HWR.out] at HRU; clear hb)
          | (refine BigFrame.wpList_want rfl (fun K' hK' => ?_); refine wp_load_mach (.tmp 10) rfl b9 z m rfl HX12.out ?_; refine hK' _ _ ?_; clear hK' K')
          | (go_at_call 14; refine HRU.out.mono ?_; rintro e w13 ⟨rfl, hb⟩; have HS13 := Lib.hid (HS12.out.trans (hb.mono HS12.out.size)); clear hb))
        go_roundw
        case rel => exact ⟨j + 1, congrArg (Value.int .i64) (by omega), HJ.out, HS13⟩
        case measure => have := HJ.out; simp only [intOf]; omega
      · have hdd : decide ((j : Int) < 7) = false := decide_eq_false (by omega)
        have hd2 : decide (j < 7) = false := decide_eq_false hlt
        have HB8 := Lib.hid (HBW2.out.trans (HR.out.mono (HSZ.out _ HBW2.out)))
        clear hlt hj HR HBW2 HAT HRW
        go_upto_region 18 with fail
        have HO1 := Lib.hid (of_any _ [98] _ (bytes_litN w8 [98] (by decide) #[.int .u8 98] rfl (by decide)))
        have HA1 : Hid (Below w8.heap.size w8 (w8.alloc (.cells #[.int .u8 98] 5))) := Lib.hid ((Below.refl _ _).alloc (Nat.le_refl _) _)
        go_wp2_with fail
        refine HO1.out.mono ?_
        rintro e c1 ⟨rfl, hb⟩
        have HC1 := Lib.hid (HB8.out.trans ((HA1.out.trans (hb.mono HA1.out.size)).mono (HSZ.out _ HB8.out)))
        clear hb HO1 HA1
        have HO1 := Lib.hid (of_any _ [97] _ (bytes_litN c1 [97] (by decide) #[.int .u8 97] rfl (by decide)))
        have HA1 : Hid (Below c1.heap.size c1 (c1.alloc (.cells #[.int .u8 97] 5))) := Lib.hid ((Below.refl _ _).alloc (Nat.le_refl _) _)
        go_wp2_with fail
        refine HO1.out.mono ?_
        rintro e c2 ⟨rfl, hb⟩
        have HC2 := Lib.hid (HC1.out.trans ((HA1.out.trans (hb.mono HA1.out.size)).mono (HSZ.out _ HC1.out)))
        clear hb HO1 HA1
        have HO1 := Lib.hid (of_any _ [98] _ (bytes_litN c2 [98] (by decide) #[.int .u8 98] rfl (by decide)))
        have HA1 : Hid (Below c2.heap.size c2 (c2.alloc (.cells #[.int .u8 98] 5))) := Lib.hid ((Below.refl _ _).alloc (Nat.le_refl _) _)
        go_wp2_with fail
        refine HO1.out.mono ?_
        rintro e c3 ⟨rfl, hb⟩
        have HC3 := Lib.hid (HC2.out.trans ((HA1.out.trans (hb.mono HA1.out.size)).mono (HSZ.out _ HC2.out)))
        clear hb HO1 HA1 HC1 HC2 HB8
        have hal := HC3.out.alloc (HSZ.out _ HC3.out) (.cells sp3 41)
        have HSE := Lib.hid (DfK.nsets_any ⟨some ⟨c3.heap.size, 0, none⟩, 3, none, 0, none, 0, none, 0⟩ threeM _ (three_mat c3) fineT)
        rw [show threeM.sp.length = 3 from rfl, three_sets] at HSE
        have HC4 := Lib.hid hal
        clear hal
        go_wp2_with fail
        refine HSE.out.mono ?_
        rintro e c5 ⟨la, lc, rfl, ho, hb⟩
        have HC5 := Lib.hid (HC4.out.trans (hb.mono (HSZ.out _ HC4.out)))
        have HO5 := Lib.hid ho
        clear hb ho HSE HC4 HC3
        go_upto_region 19 with fail
        obtain ⟨lg, hlg⟩ := own_addr HO5.out (by decide)
        have ho := HO5.out
        rw [hlg] at ho ⊢
        have HS01 := Lib.hid (two_sets ho)
        clear ho hlg HO5
        refine Rinv.region_inv' (RL c5.heap.size) 5 RLd (by kernel_rfl) (by kernel_rfl) ?_ (RL_mono _) ?_ ?_
        · intro j hj
          have : j = 0 ∨ j = 1 ∨ j = 2 ∨ j = 3 ∨ j = 4 := by omega
          rcases this with rfl | rfl | rfl | rfl | rfl <;> rfl
        · intro i hi X w' hB hR K hK
          have HK := Lib.hid hK
          have HBW := Lib.hid hB
          clear hK hB
          have hi' : i = 0 ∨ i = 1 ∨ i = 2 ∨ i = 3 ∨ i = 4 := by omega
          rcases hi' with rfl | rfl | rfl | rfl | rfl
          · simp only [List.getD_cons_zero]
            clear hR
            simp only [Rinv.putAll, RLd, Act.put, Nat.reduceEqDiff, Nat.reduceAdd, if_true, if_false, List.setIfInBounds_toArray, List.set_cons_zero, List.set_cons_succ]
            go_wp2_with (refine wpList_make_spots rfl _ _ rfl 250 rfl rfl (by decide) ?_)
            exact HK.out _ _ (.slice (some ⟨w'.heap.size, 0, none⟩) 250 250) (by simp only [Rinv.putAll, RLd, Act.put, Nat.reduceEqDiff, Nat.reduceAdd, if_true, if_false, List.setIfInBounds_toArray, List.set_cons_zero, List.set_cons_succ]) ((Below.refl _ _).alloc (Nat.le_refl _) _) ⟨_, rfl, heap_alloc_new w' _⟩
          · simp only [List.getD_cons_zero, List.getD_cons_succ]
            clear hR
            simp only [Rinv.putAll, RLd, Act.put, Nat.reduceEqDiff, Nat.reduceAdd, if_true, if_false, List.setIfInBounds_toArray, List.set_cons_zero, List.set_cons_succ]
            go_wp2_with (refine wpList_make_lists rfl _ _ rfl 250 rfl rfl (by decide) ?_)
            exact HK.out _ _ (.slice (some ⟨w'.heap.size, 0, none⟩) 250 250) (by simp only [Rinv.putAll, RLd, Act.put, Nat.reduceEqDiff, Nat.reduceAdd, if_true, if_false, List.setIfInBounds_toArray, List.set_cons_zero, List.set_cons_succ]) ((Below.refl _ _).alloc (Nat.le_refl _) _) ⟨_, rfl, heap_alloc_new w' _⟩
          · simp only [List.getD_cons_zero, List.getD_cons_succ]
            clear hR
            simp only [Rinv.putAll, RLd, Act.put, Nat.reduceEqDiff, Nat.reduceAdd, if_true, if_false, List.setIfInBounds_toArray, List.set_cons_zero, List.set_cons_succ]
            go_wp2_with (refine wpList_make_bools rfl _ _ rfl 250 rfl rfl (by decide) ?_)
            exact HK.out _ _ (.slice (some ⟨w'.heap.size, 0, none⟩) 250 250) (by simp only [Rinv.putAll, RLd, Act.put, Nat.reduceEqDiff, Nat.reduceAdd, if_true, if_false, List.setIfInBounds_toArray, List.set_cons_zero, List.set_cons_succ]) ((Below.refl _ _).alloc (Nat.le_refl _) _) ⟨_, rfl, heap_alloc_new w' _⟩
          · simp only [List.getD_cons_zero, List.getD_cons_succ]
            have hr0 : RL c5.heap.size 0 (X 0) w' := hR 0 (by decide) (by unfold Rinv.waits; kernel_rfl)
            obtain ⟨q0, e0, h0⟩ := hr0
            have H0 := Lib.hid h0
            have hr1 : RL c5.heap.size 1 (X 1) w' := hR 1 (by decide) (by unfold Rinv.waits; kernel_rfl)
            obtain ⟨q1, e1, h1⟩ := hr1
            have H1 := Lib.hid h1
            have hr2 : RL c5.heap.size 2 (X 2) w' := hR 2 (by decide) (by unfold Rinv.waits; kernel_rfl)
            obtain ⟨q2, e2, h2⟩ := hr2
            have H2 := Lib.hid h2
            clear hR h0 h1 h2
            simp only [Rinv.putAll, RLd, Act.put, Nat.reduceEqDiff, Nat.reduceAdd, if_true, if_false, List.setIfInBounds_toArray, List.set_cons_zero, List.set_cons_succ, e0, e1, e2]
            go_wp2_with fail
            exact HK.out _ _ (.agg #[.slice (some ⟨q0, 0, none⟩) 250 250, .slice none 0 0, .slice (some ⟨q1, 0, none⟩) 250 250, .slice (some ⟨q2, 0, none⟩) 250 250, .bool false]) (by simp only [Rinv.putAll, RLd, Act.put, Nat.reduceEqDiff, Nat.reduceAdd, if_true, if_false, List.setIfInBounds_toArray, List.set_cons_zero, List.set_cons_succ, e0, e1, e2]) (Below.refl _ _) ⟨q0, q1, q2, rfl, H0.out, H1.out, H2.out⟩
          · simp only [List.getD_cons_zero, List.getD_cons_succ]
            clear hR
            simp only [Rinv.putAll, RLd, Act.put, Nat.reduceEqDiff, Nat.reduceAdd, if_true, if_false, List.setIfInBounds_toArray, List.set_cons_zero, List.set_cons_succ]
            go_wp2_with fail
            exact HK.out _ _ (.pointer (some ⟨w'.heap.size, 0, none⟩)) (by simp only [Rinv.putAll, RLd, Act.put, Nat.reduceEqDiff, Nat.reduceAdd, if_true, if_false, List.setIfInBounds_toArray, List.set_cons_zero, List.set_cons_succ]) ((Below.refl _ _).alloc (Nat.le_refl _) _) ⟨_, rfl, HBW.out.size, heap_alloc_new w' _⟩
        · intro X w' hB hR K hK
          have HK := Lib.hid hK
          have HBW := Lib.hid hB
          clear hK hB
          have hr3 : RL c5.heap.size 3 (X 3) w' := hR 3 (by decide)
          have hr4 : RL c5.heap.size 4 (X 4) w' := hR 4 (by decide)
          obtain ⟨q1, q2, q3, e3, f1, f2, f3⟩ := hr3
          obtain ⟨q4, e4, f0, f4⟩ := hr4
          have HML := Lib.hid (most_laid f4 f1 f2 f3)
          have HQ4 := Lib.hid f4
          have HBZ : Hid (Below c5.heap.size c5 (w'.setRow q4 #[.slice (some ⟨q1, 0, none⟩) 250 250, .slice none 0 0, .slice (some ⟨q2, 0, none⟩) 250 250, .slice (some ⟨q3, 0, none⟩) 250 250, .bool false])) := Lib.hid (But.below HBW.out (But.setRow _ _ _) f0 HBW.out.size)
          clear hR f1 f2 f3 f4
          simp only [List.getD_cons_zero, List.getD_cons_succ]
          simp only [Rinv.putAll, RLd, Act.put, Nat.reduceEqDiff, Nat.reduceAdd, if_true, if_false, List.setIfInBounds_toArray, List.set_cons_zero, List.set_cons_succ, e3, e4]
          go_wp2_with (refine wpList_store_row rfl 27 (.tmp 14) (.tmp 147) rfl q4 #[.slice (some ⟨q1, 0, none⟩) 250 250, .slice none 0 0, .slice (some ⟨q2, 0, none⟩) 250 250, .slice (some ⟨q3, 0, none⟩) 250 250, .bool false] rfl rfl 27 _ HQ4.out (by kernel_rfl) rfl (by simp [Value.oneCell']) ?_)
          refine HK.out _ _ ?_
          clear HK
          generalize w'.setRow q4 #[.slice (some ⟨q1, 0, none⟩) 250 250, .slice none 0 0, .slice (some ⟨q2, 0, none⟩) 250 250, .slice (some ⟨q3, 0, none⟩) 250 250, .bool false] = W at *
          have HBL := Lib.hid (HC5.out.trans (HBZ.out.mono (HSZ.out _ HC5.out)))
          have HX := Lib.hid HML.out.1
          have HM := Lib.hid HML.out.2
          have HL0 := Lib.hid (range_below HS01.out.1 HBZ.out)
          have HL1 := Lib.hid (range_below HS01.out.2 HBZ.out)
          clear HML HQ4 HBZ HS01 HC5 HBW f0
          generalize hza : zA 250 q1 q2 q3 = za at *
          clear hza
          go_upto_region 20 with fail
          have HX0 := HX
          have HWl := Lib.hid HX.out.lt
          have hp0 : Below W.heap.size W W.drew := (Below.refl _ _).drew
          have HP0 := Lib.hid hp0
          clear hp0
          have HCT : Hid (∀ D, Below W.heap.size W D → Below B w D) := Lib.hid (fun D h => HBL.out.trans (h.mono (HSZ.out _ HBL.out)))
          refine region_mix [(false, 0), (true, 1), (false, 2), (false, 3), (true, 4), (false, 5), (false, 6), (false, 7), (true, 8), (false, 9), (false, 10), (false, 11), (false, 12), (false, 13), (false, 14), (false, 15), (false, 16), (false, 17), (false, 18), (false, 19), (true, 20), (true, 21), (false, 22), (false, 23), (false, 24), (false, 25), (false, 26), (false, 27), (true, 28), (true, 29), (false, 30), (false, 31), (false, 32), (true, 33), (false, 34)] (fun w' => Below W.heap.size W w') (by kernel_rfl) (by kernel_rfl) HP0.out ?_
          simp only [planOps, List.map_cons, List.map_nil, List.getD_cons_zero, List.getD_cons_succ, List.length_cons, List.length_nil, List.drop_succ_cons, List.drop_zero]
          refine mix_seg (seg := [_]) rfl HP0.out ?_
          intro ι hι F hF
          have fX := Lib.hid (fun n => HX.out.kept (hF n) HWl.out)
          have f0 := Lib.hid (fun n => range_below HL0.out (hF n))
          have f1 := Lib.hid (fun n => range_below HL1.out (hF n))
          go_big_quiet_step (fail)
          refine wpQuiet_nil ?_
          clear fX f0 f1 hF hι F
          have HC := Lib.hid (nright_any nilA nilM W.drew (mat_nil _) fineN); rw [mv_eq, right_nil] at HC
          refine mix_eff (fun K hK => ?_)
          go_wp2_with (go_at_call 15; refine HC.out.mono ?_; rintro e D1 ⟨rfl, hb⟩; have HP1 := Lib.hid (HP0.out.trans (hb.mono HP0.out.size)); clear hb)
          refine mix_on hK HP1.out ?_
          clear hK K HC
          refine mix_seg (seg := [_, _]) rfl HP1.out ?_
          intro ι hι F hF
          have fX := Lib.hid (fun n => HX.out.kept (hF n) HWl.out)
          have f0 := Lib.hid (fun n => range_below HL0.out (hF n))
          have f1 := Lib.hid (fun n => range_below HL1.out (hF n))
          go_big_quiet_step (fail)
          refine BigFrame.wpQuiet_want rfl (fun K hK => ?_); refine quiet_load_mach _ rfl q4 za (zM 250) rfl (fun w' ⟨n, e⟩ => e ▸ fX.out n) ?_; refine hK _ ?_; clear hK K; simp only [Act.put, List.setIfInBounds_toArray, List.set_cons_zero, List.set_cons_succ]
          refine wpQuiet_nil ?_
          clear fX f0 f1 hF hι F
          have HC := Lib.hid (nright_any za (zM 250) D1 (HM.out.kept HP1.out) (fineZ 250 (by decide))); rw [mv_eq, right_most] at HC
          refine mix_eff (fun K hK => ?_)
          go_wp2_with (go_at_call 15; refine HC.out.mono ?_; rintro e D2 ⟨rfl, hb⟩; have HP2 := Lib.hid (HP1.out.trans (hb.mono HP1.out.size)); clear hb)
          refine mix_on hK HP2.out ?_
          clear hK K HC
          refine mix_seg (seg := [_, _, _]) rfl HP2.out ?_
          intro ι hι F hF
          have fX := Lib.hid (fun n => HX.out.kept (hF n) HWl.out)
          have f0 := Lib.hid (fun n => range_below HL0.out (hF n))
          have f1 := Lib.hid (fun n => range_below HL1.out (hF n))
          go_big_quiet_step (fail)
          go_big_quiet_step (fail)
          go_big_quiet_step (fail)
          refine wpQuiet_nil ?_
          clear fX f0 f1 hF hι F
          have HC := Lib.hid (nrun_any nilA nilM ⟨#[]⟩ D2 (mat_nil _) fineN (by decide) (HTB.out _ (HCT.out _ HP2.out))); rw [nil_none] at HC
          refine mix_eff (fun K hK => ?_)
          go_wp2_with (go_at_call 14; refine HC.out.mono ?_; rintro e D3 ⟨rfl, hb⟩; have HP3 := Lib.hid (HP2.out.trans (hb.mono HP2.out.size)); clear hb)
          refine mix_on hK HP3.out ?_
          clear hK K HC
          refine mix_seg (seg := [_, _, _, _, _, _, _, _, _, _, _]) rfl HP3.out ?_
          intro ι hι F hF
          have fX := Lib.hid (fun n => HX.out.kept (hF n) HWl.out)
          have f0 := Lib.hid (fun n => range_below HL0.out (hF n))
          have f1 := Lib.hid (fun n => range_below HL1.out (hF n))
          go_big_quiet_step (fail)
          go_big_quiet_step (fail)
          go_big_quiet_step (fail)
          go_big_quiet_step (fail)
          go_big_quiet_step (fail)
          go_big_quiet_step (fail)
          go_big_quiet_step (fail)
          go_big_quiet_step (fail)
          go_big_quiet_step (fail)
          go_big_quiet_step (fail)
          refine BigFrame.wpQuiet_want rfl (fun K hK => ?_); refine quiet_load_mid 39 _ rfl lg 0 rfl (setC (ofN [98])).toList _ (fun w' ⟨n, e⟩ => e ▸ f0.out n) Tryd.underlying39 rfl (sizeSetL _) ?_; refine hK _ ?_; clear hK K; simp only [Act.put, List.setIfInBounds_toArray, List.set_cons_zero, List.set_cons_succ]
          refine wpQuiet_nil ?_
          clear fX f0 f1 hF hι F
          have HOF := Lib.hid (of_any _ [98] _ (bytes_litN D3 [98] (by decide) #[.int .u8 98] rfl (by decide)))
          have hal := HP3.out.alloc HP3.out.size (.cells #[.int .u8 98] 5)
          refine mix_eff (fun K hK => ?_)
          go_wp2_with fail
          refine mix_on hK hal ?_
          have HP4 := Lib.hid hal
          clear hK K hal
          refine mix_eff (fun K hK => ?_)
          go_wp2_with (go_at_call 17; refine HOF.out.mono ?_; rintro e D5 ⟨rfl, hb⟩; have HP5 := Lib.hid (HP4.out.trans (hb.mono HP4.out.size)); clear hb)
          refine mix_on hK HP5.out ?_
          clear hK K HOF
          refine mix_seg (seg := [_, _, _, _, _, _]) rfl HP5.out ?_
          intro ι hι F hF
          have fX := Lib.hid (fun n => HX.out.kept (hF n) HWl.out)
          have f0 := Lib.hid (fun n => range_below HL0.out (hF n))
          have f1 := Lib.hid (fun n => range_below HL1.out (hF n))
          refine BigFrame.wpQuiet_want rfl (fun K hK => ?_); refine quiet_eqS_same _ _ _ rfl (ofN [98]) rfl rfl (by decide +kernel) ?_; refine hK _ ?_; clear hK K; simp only [Act.put, List.setIfInBounds_toArray, List.set_cons_zero, List.set_cons_succ]
          go_big_quiet_step (fail)
          go_big_quiet_step (fail)
          go_big_quiet_step (fail)
          go_big_quiet_step (fail)
          refine BigFrame.wpQuiet_want rfl (fun K hK => ?_); refine quiet_load_mid 39 _ rfl lg 4 rfl (setC (ofN [97])).toList _ (fun w' ⟨n, e⟩ => e ▸ f1.out n) Tryd.underlying39 rfl (sizeSetL _) ?_; refine hK _ ?_; clear hK K; simp only [Act.put, List.setIfInBounds_toArray, List.set_cons_zero, List.set_cons_succ]
          refine wpQuiet_nil ?_
          clear fX f0 f1 hF hι F
          have HOF := Lib.hid (of_any _ [97] _ (bytes_litN D5 [97] (by decide) #[.int .u8 97] rfl (by decide)))
          have hal := HP5.out.alloc HP5.out.size (.cells #[.int .u8 97] 5)
          refine mix_eff (fun K hK => ?_)
          go_wp2_with fail
          refine mix_on hK hal ?_
          have HP6 := Lib.hid hal
          clear hK K hal
          refine mix_eff (fun K hK => ?_)
          go_wp2_with (go_at_call 17; refine HOF.out.mono ?_; rintro e D7 ⟨rfl, hb⟩; have HP7 := Lib.hid (HP6.out.trans (hb.mono HP6.out.size)); clear hb)
          refine mix_on hK HP7.out ?_
          clear hK K HOF
          refine mix_seg (seg := [_, _, _]) rfl HP7.out ?_
          intro ι hι F hF
          have fX := Lib.hid (fun n => HX.out.kept (hF n) HWl.out)
          have f0 := Lib.hid (fun n => range_below HL0.out (hF n))
          have f1 := Lib.hid (fun n => range_below HL1.out (hF n))
          refine BigFrame.wpQuiet_want rfl (fun K hK => ?_); refine quiet_eqS_same _ _ _ rfl (ofN [97]) rfl rfl (by decide +kernel) ?_; refine hK _ ?_; clear hK K; simp only [Act.put, List.setIfInBounds_toArray, List.set_cons_zero, List.set_cons_succ]
          go_big_quiet_step (fail)
          go_big_quiet_step (fail)
          refine wpQuiet_nil ?_
          clear fX f0 f1 hF hι F
          have HC := Lib.hid (HAW.out _ (HCT.out _ HP7.out))
          refine mix_eff (fun K hK => ?_)
          go_wp2_with (go_at_call 6; refine HC.out.mono ?_; rintro e D8 ⟨rfl, hb⟩; have HP8 := Lib.hid (HP7.out.trans (hb.mono HP7.out.size)); clear hb)
          refine mix_on hK HP8.out ?_
          clear hK K HC
          refine mix_seg (seg := [_]) (rest := []) rfl HP8.out ?_
          intro ι hι F hF
          have fX := Lib.hid (fun n => HX.out.kept (hF n) HWl.out)
          have f0 := Lib.hid (fun n => range_below HL0.out (hF n))
          have f1 := Lib.hid (fun n => range_below HL1.out (hF n))
          go_big_quiet_step (fail)
          refine wpQuiet_nil ?_
          clear fX f0 f1 hF hι F
          show wpList _ _ _ _ _ _
          go_wp2_with fail
          refine NoPanic.normal ?_
          go_wp2_with fail
          go_ret
          exact ⟨rfl, HCT.out _ HP8.out⟩
end Nk
end Go.Proofs.YtlbaecjmfgahgaaDoor
