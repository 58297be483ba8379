/- numbered. -/
import Derived.Test.YtlbaecjmfgahgaaDoorNfE
namespace Go.Proofs.YtlbaecjmfgahgaaDoor
open Go.RowKit Go.Shelf Sets Nf
attribute [local go_sem] Oper.semAt_some
namespace Nf
def numS (p : (Nat → Int) × Nat) (x : Nat) : (Nat → Int) × Nat := (fun j => if j = x then (p.2 : Int) else p.1 j, p.2 + 1)
def numP (pre : List Nat) : (Nat → Int) × Nat := pre.foldl numS (fun _ => -1, 0)
def numF (pre : List Nat) : Nat → Int := (numP pre).1
theorem numP_snoc (pre : List Nat) (x : Nat) : numP (pre ++ [x]) = numS (numP pre) x := by unfold numP; rw [List.foldl_append]; rfl
theorem foldS_len : ∀ (l : List Nat) (q : (Nat → Int) × Nat), (l.foldl numS q).2 = q.2 + l.length
  | [], _ => rfl
  | x :: l, q => by
    rw [List.foldl_cons, foldS_len l]
    show q.2 + 1 + l.length = _
    rw [List.length_cons]; omega
theorem numP_len (pre : List Nat) : (numP pre).2 = pre.length := by unfold numP; rw [foldS_len]; simp
theorem numF_snoc (pre : List Nat) (x j : Nat) : numF (pre ++ [x]) j = if j = x then (pre.length : Int) else numF pre j := by
  unfold numF
  rw [numP_snoc]
  show (if j = x then ((numP pre).2 : Int) else (numP pre).1 j) = _
  rw [numP_len]
theorem numF_filter (p : Nat → Bool) (j : Nat) : ∀ N, numF ((List.range N).filter p) j = if j < N ∧ p j = true then (((List.range j).filter p).length : Int) else -1
  | 0 => by simp [numF, numP]
  | N + 1 => by
    rw [List.range_succ, List.filter_append, List.filter_cons, List.filter_nil]
    by_cases hN : p N = true
    · rw [if_pos hN, numF_snoc, numF_filter p j N]
      by_cases e : j = N
      · subst e; rw [if_pos rfl, if_pos ⟨by omega, hN⟩]
      · rw [if_neg e]
        by_cases h : j < N ∧ p j = true
        · rw [if_pos h, if_pos ⟨by omega, h.2⟩]
        · rw [if_neg h, if_neg (fun h2 => h ⟨by omega, h2.2⟩)]
    · rw [if_neg hN, List.append_nil, numF_filter p j N]
      by_cases h : j < N ∧ p j = true
      · rw [if_pos h, if_pos ⟨by omega, h.2⟩]
      · rw [if_neg h, if_neg (fun h2 => h ⟨by
          have : j ≠ N := fun e => hN (e ▸ h2.2)
          omega, h2.2⟩)]
/-- the number of each spot where those of U alone are left -/
def numsU (U n : Nat) : List Int := (List.range n).map fun k => if U.testBit k then (nu U k : Int) else -1
theorem numsU_len (U n : Nat) : (numsU U n).length = n := by unfold numsU; rw [List.length_map, List.length_range]
theorem numsU_get (U n k : Nat) (h : k < n) : (numsU U n).getD k 0 = if U.testBit k then (nu U k : Int) else -1 := by
  unfold numsU
  rw [List.getD_eq_getElem?_getD, List.getElem?_map, List.getElem?_range h]; rfl
theorem numF_all (U k : Nat) (h : k < 256) : numF (listN U) k = if U.testBit k then (nu U k : Int) else -1 := by
  unfold listN
  rw [numF_filter]
  by_cases hb : U.testBit k = true
  · rw [if_pos ⟨h, hb⟩, if_pos hb]; rfl
  · rw [if_neg (fun x => hb x.2), if_neg hb]
theorem leftN_U {n : Nat} (U : Nat) (l : List Int) (hn : ∀ k ∈ l, 0 ≤ k ∧ k < (n : Int)) : leftN (numsU U n) l = leftL U l := by
  unfold leftN leftL
  have hg : ∀ k ∈ l, (numsU U n).getD k.toNat 0 = if U.testBit k.toNat then (nu U k.toNat : Int) else -1 := fun k hk => numsU_get U n _ (by have := hn k hk; omega)
  have hf : (l.filter fun k => (numsU U n).getD k.toNat 0 != -1) = l.filter fun k => U.testBit k.toNat := by
    refine List.filter_congr (fun k hk => ?_)
    rw [hg k hk]
    cases U.testBit k.toNat
    · rfl
    · rw [if_pos rfl, bne_iff_ne]; omega
  rw [hf]
  refine List.map_congr_left (fun k hk => ?_)
  have h2 := List.mem_filter.1 hk
  rw [hg k h2.1, if_pos h2.2]
def NuI (s g n6 n b1 : Nat) (U : Nat) (w : World) (pre : List (In U)) (W : World) : Prop :=
  W.rowIs g 3 n (fun j => .int .i64 (numF (pre.map Subtype.val) j)) ∧ W.heap[b1]? = some (.cells #[.slice (some ⟨g, 0, none⟩) n n] 23 (0, 0)) ∧ W.heap[b1 + 1]? = some (.cells #[.int .i64 (pre.length : Nat)] 3 (0, 0)) ∧ Below s w W ∧ n6 ≤ W.heap.size
theorem rp_row (w : World) (g n : Nat) (h : w.heap[g]? = some (.cells (rpL n n).toArray 3 (0, 0))) : w.rowIs g 3 n (fun j => .int .i64 (numF [] j)) := by
  refine ⟨_, h, ?_, fun i hi => ?_⟩
  · rw [List.size_toArray, rpL_len _ _ (Nat.le_refl _)]
  · rw [List.getElem?_toArray, rpL_get n n i hi]; rfl
theorem keeps_cell {w : World} {b i : Nat} {cs : Array Value} {t : TypeId} {fr : Nat × Nat} (hb : w.heap[b]? = some (.cells cs t fr)) (v : Value) : KeepsOthers w (w.setCell ⟨b, i, none⟩ v) :=
  ⟨by simp, fun k o hk ho => by
    by_cases e : k = b
    · subst e; rw [hb] at hk; cases hk; cases ho
    · rw [Below.heap_setCell w ⟨b, i, none⟩ v k e]; exact hk⟩
set_option maxHeartbeats 6400000 in
set_option maxRecDepth 100000 in
theorem numbered_any (U n : Nat) (w : World) (hU : ∀ k, U.testBit k = true → k < n) (hn : n ≤ 250) (hT : Tab w) :
    Calls Tryd.prog 22 #[.agg (setC U), .int .i64 (n : Int)] w fun e w' => ∃ g, e = .returned (.slice (some ⟨g, 0, none⟩) n n) ∧ NumsIn w' (some ⟨g, 0, none⟩) (numsU U n) ∧ (∃ cs, w'.heap[g]? = some (.cells cs 3 (0, 0))) ∧ w.heap.size ≤ g ∧ Below w.heap.size w w' := by
  have HG : Hid (0 < w.heap.size) := Lib.hid (World.block_lt_of_cell? _ _ (hT 0 (by decide)))
  have HGG := Lib.hid hU
  have HN := Lib.hid hn
  clear hU hn
  refine (callsIn_wide (n := 9)).1 ?_
  refine callsIn_of_wp_marks Tryd.func22 rfl trivial ?_ rfl
  simp only [Tryd.ntmps22, List.size_toArray, List.length_cons, List.length_nil, Nat.reduceAdd, Nat.reduceSub, Array.replicate_succ, Array.replicate_zero, List.push_toArray, List.append_toArray, List.nil_append, List.cons_append]
  refine wpIn_wide.2 ?_
  go_upto_region 1 with fail
  have HS1 := Lib.hid (SetB.new w U)
  have HB1 := Lib.hid ((Below.refl w.heap.size w).alloc (Nat.le_refl _) (.cells (setC U) 39))
  generalize w.alloc (.cells (setC U) 39) = w1 at *
  have HRP := Lib.hid (repeat_any w1.heap.size n (w1.alloc (.cells #[.int .i64 (-1)] 3)) (by rw [World.cell?_alloc_at _ _ _ _ rfl]; rfl) (by have := HN.out; omega))
  have HB2 : Hid (Below w1.heap.size w1 (w1.alloc (.cells #[.int .i64 (-1)] 3))) := Lib.hid ((Below.refl _ _).alloc (Nat.le_refl _) _)
  go_upto_region 2 with (go_at_call 43; refine HRP.out.mono ?_; rintro e w3 ⟨g, rfl, hg3, hr3, hb3⟩; have HG3 := Lib.hid hg3; have HR3 := Lib.hid hr3; have HB3 := Lib.hid (HB2.out.trans (hb3.mono HB2.out.size)); clear hg3 hr3 hb3)
  obtain ⟨b1, hb1⟩ : ∃ b1, Hid (w3.heap.size = b1) := ⟨_, Lib.hid rfl⟩
  have hgl : g < w3.heap.size := (Array.getElem?_eq_some_iff.1 HR3.out).1
  have hal := (Below.refl w3.heap.size w3).alloc (Nat.le_refl _) (.cells #[.slice (some ⟨g, 0, none⟩) n n] 23)
  have HR4 := Lib.hid ((hal.block g hgl).trans HR3.out)
  have HB4 : Hid (Below w.heap.size w (w3.alloc (.cells #[.slice (some ⟨g, 0, none⟩) n n] 23))) := Lib.hid (HB1.out.trans ((HB3.out.trans (hal.mono HB3.out.size)).mono HB1.out.size))
  have HS4 := Lib.hid ((HS1.out.stay HB3.out).stay hal)
  have HC4 : Hid ((w3.alloc (.cells #[.slice (some ⟨g, 0, none⟩) n n] 23)).heap[b1]? = some (.cells #[.slice (some ⟨g, 0, none⟩) n n] 23 (0, 0))) := Lib.hid (by rw [← hb1.out]; exact heap_alloc_new w3 _)
  have HZ4 : Hid ((w3.alloc (.cells #[.slice (some ⟨g, 0, none⟩) n n] 23)).heap.size = b1 + 1) := Lib.hid (by rw [← hb1.out]; simp)
  have HGL : Hid (w.heap.size < g ∧ g < b1) := Lib.hid (by
    rw [← hb1.out]
    have h1 := HG3.out
    rw [World.size_alloc] at h1
    have h2 := HS1.out.lt
    exact ⟨by omega, hgl⟩)
  rw [hb1.out]
  clear hal hgl HR3 HB3 HB1 HS1 HRP HB2 HG3
  generalize w3.alloc (.cells #[.slice (some ⟨g, 0, none⟩) n n] 23) = w4 at *
  clear hb1
  go_upto_region 3 with fail
  have hal := (Below.refl w4.heap.size w4).alloc (Nat.le_refl _) (.cells #[.int .i64 0] 3)
  have HD5 : Hid ((w4.alloc (.cells #[.int .i64 0] 3)).heap[b1 + 1]? = some (.cells #[.int .i64 0] 3 (0, 0))) := Lib.hid (by rw [← HZ4.out]; exact heap_alloc_new w4 _)
  have HC5 := Lib.hid ((hal.block b1 (by rw [HZ4.out]; omega)).trans HC4.out)
  have HR5 := Lib.hid ((hal.block g (by rw [HZ4.out]; have := HGL.out; omega)).trans HR4.out)
  have HS5 := Lib.hid (HS4.out.stay hal)
  have HB5 := Lib.hid (HB4.out.trans (hal.mono HB4.out.size))
  have HZ5 : Hid ((w4.alloc (.cells #[.int .i64 0] 3)).heap.size = b1 + 1 + 1) := Lib.hid (by simp [HZ4.out])
  rw [HZ4.out]
  clear hal HC4 HR4 HS4 HB4 HZ4
  generalize w4.alloc (.cells #[.int .i64 0] 3) = w5 at *
  go_wp2_with (first
    | (refine wpList_load_set rfl (.tmp 2) rfl w.heap.size U rfl HS5.out ?_)
    | (go_at_call 24; refine (each_any U w5).mono ?_; rintro e w6 ⟨rfl, rfl⟩))
  rw [HZ5.out]
  have hal := (Below.refl w5.heap.size w5).alloc (Nat.le_refl _) (.cells (setC U) 39)
  have z5 := HZ5.out
  have hgl := HGL.out
  have b6 : Below w.heap.size w (w5.alloc (.cells (setC U) 39)) := HB5.out.trans (hal.mono HB5.out.size)
  have z6 : (w5.alloc (.cells (setC U) 39)).heap.size = b1 + 1 + 1 + 1 := by simp [z5]
  have s6 := SetB.new w5 U
  have c6 := (hal.block b1 (by omega)).trans HC5.out
  have d6 := (hal.block (b1 + 1) (by omega)).trans HD5.out
  have r6 := (hal.block g (by omega)).trans HR5.out
  rw [z5] at s6
  clear hal
  generalize w5.alloc (.cells (setC U) 39) = w6 at *
  clear HZ5 HC5 HD5 HR5 HS5 HB5 z5
  have HT6 := hT.below b6 HG.out
  have HZ := Lib.hid z6
  clear z6 hgl
  refine (wpIn_wide (n := 9)).1 ?_
  refine wpIn_rangeFunc_ownF rfl (by decide) (gf := 44) (lb := #[.pointer (some ⟨b1 + 1 + 1, 0, none⟩)]) rfl trivial (enters_of Tryd.func44 (by kernel_rfl) rfl)
    (each_stops 8 (by decide) w.heap.size (b1 + 1 + 1) U w6 s6 HT6 HG.out (by rw [HZ.out]; have := HGL.out; omega)) belowK_t ?hkb (Below.refl _ _) (fun _ => rfl)
    (fun pre W => NuI w.heap.size g w6.heap.size n b1 U w pre W)
    (fun _ _ _ => False) ?hI (fun _ _ _ _ _ hs _ _ => hs) ?h0
    (fun k => { tmps := #[.agg (setC U), .int .i64 (n : Int), .pointer (some ⟨w.heap.size, 0, none⟩), undef, .slice none 0 0, .pointer (some ⟨b1, 0, none⟩), .pointer (some ⟨b1 + 1, 0, none⟩), .int .i64 (k.1 : Nat), .slice (some ⟨w1.heap.size, 0, none⟩) 1 1, .int .i64 (n : Int), .slice (some ⟨g, 0, none⟩) n n, .agg (setC U), .func (.func 44) #[] #[.pointer (some ⟨b1 + 1 + 1, 0, none⟩)], .int .i64 (k.1 : Nat), undef, undef, undef, undef, undef, undef, undef], defers := [] }) ?assign ?body ?done ?stop
  case hkb =>
    intro W l o o' hl hh h1 h2
    exact belowK_b (w := w6) (by rw [HZ.out]; have := HGL.out; omega) W l o o' hl hh h1 h2
  case hI =>
    rintro s W W' row ⟨h1, h2, h3, h4, h6⟩ hg hr
    have hne : ∀ b, b < w6.heap.size → some b ≠ row := fun b hb e => by have := (hr _ e.symm).1; omega
    have hz := HZ.out
    have hgl := HGL.out
    refine ⟨World.rowIs.of_block h1 (hg.block g (World.rowIs.lt h1) (hne _ (by omega))), (hg.block b1 (by omega) (hne _ (by omega))).trans h2, (hg.block (b1 + 1) (by omega) (hne _ (by omega))).trans h3, h4.grown hg h4.size (fun k e => by have := (hr k e).1; omega), Nat.le_trans h6 hg.size⟩
  case h0 => exact ⟨rp_row w6 g n r6, c6, d6, b6, Nat.le_refl _⟩
  case assign =>
    intro l x W K hK
    gi_wp2
    exact hK
  case body =>
    rintro l pre ⟨k, hk1, hk2⟩ W ⟨hRow, hC, hD, hB, hsz⟩ hpl
    have hkn := HGG.out k hk1
    have hgl := HGL.out
    have hz := HZ.out
    have hcC : W.cell? ⟨b1, 0, none⟩ = some (.slice (some ⟨g, 0, none⟩) n n) := by rw [cell_of_row W b1 0 _ _ _ hC]; rfl
    have hcD : W.cell? ⟨b1 + 1, 0, none⟩ = some (.int .i64 (pre.length : Nat)) := by rw [cell_of_row W (b1 + 1) 0 _ _ _ hD]; rfl
    have hfD : W.frozen? ⟨b1 + 1, 0, none⟩ = false := frozen_of_row W _ 0 _ _ hD
    have hcg := World.rowIs.cell hRow hkn
    have hfg := World.rowIs.frozen hRow k
    have hki : (k : Int) < (n : Int) := by omega
    have hs1 : (W.setCell ⟨g, k, none⟩ (.int .i64 (pre.length : Nat))).cell? ⟨b1 + 1, 0, none⟩ = some (.int .i64 (pre.length : Nat)) := by rw [World.cell?_setCell_other _ _ _ _ (fun e => by injection e with e1 e2 e3; omega)]; exact hcD
    have HW1 : Hid (wrap64 ((pre.length : Int) + 1) = ((pre.length + 1 : Nat) : Int)) := Lib.hid (by unfold wrap64; omega)
    have hplen : pre.length ≤ 1000 := by omega
    have HP := Lib.hid hplen
    gi_wp2
    have hrg : W.heap[g]? = some (.cells hRow.choose 3 (0, 0)) := hRow.choose_spec.1
    have hD2 : (W.setCell ⟨g, k, none⟩ (.int .i64 (pre.length : Nat))).heap[b1 + 1]? = some (.cells #[.int .i64 (pre.length : Nat)] 3 (0, 0)) := by
      rw [Below.heap_setCell _ _ _ _ (by show b1 + 1 ≠ g; omega)]; exact hD
    have hB2 : Below w.heap.size w ((W.setCell ⟨g, k, none⟩ (.int .i64 (pre.length : Nat))).setCell ⟨b1 + 1, 0, none⟩ (.int .i64 ((pre.length : Int) + 1))) := (hB.setCell (by show w.heap.size ≤ g; omega) _).setCell (by show w.heap.size ≤ b1 + 1; omega) _
    refine ⟨(keeps_cell hrg _).trans (keeps_cell hD2 _), ((Below.refl _ _).setCell (by show w.heap.size ≤ g; omega) _).setCell (by show w.heap.size ≤ b1 + 1; omega) _, ?_, ?_, ?_, hB2, ?_⟩
    · refine World.rowIs.setOther (World.rowIs.congr (World.rowIs.set hRow k (.int .i64 (pre.length : Nat))) ?_) (by show g ≠ b1 + 1; omega) _
      intro j hj
      rw [List.map_append, List.map_cons, List.map_nil, numF_snoc, List.length_map]
      by_cases e : j = k
      · rw [if_pos e, if_pos e]
      · rw [if_neg e, if_neg e]
    · rw [Below.heap_setCell _ _ _ _ (by show b1 ≠ b1 + 1; omega), Below.heap_setCell _ _ _ _ (by show b1 ≠ g; omega)]; exact hC
    · rw [heap_setCell_same _ _ _ _ _ _ hD2, List.length_append]; rfl
    · simp
      omega
  case done =>
    rintro D ys W hD hy ⟨hRow, hC, -, hB, -⟩ hK
    have hcC : W.cell? ⟨b1, 0, none⟩ = some (.slice (some ⟨g, 0, none⟩) n n) := by rw [cell_of_row W b1 0 _ _ _ hC]; rfl
    have hz := HZ.out
    have hgl := HGL.out
    have HRow := Lib.hid hRow
    have HBW := Lib.hid hB
    have HK := Lib.hid hK
    clear hRow hB hK
    go_wp2_with fail
    refine ⟨by simp, .inl ⟨_, _, rfl, run_takeDeferred HK.out, ?_⟩⟩
    refine ⟨.slice (some ⟨g, 0, none⟩) n n, results_tmp Tryd.results22 _ _ _, ?_⟩
    refine ⟨g, rfl, ?_, ⟨HRow.out.choose, (World.putObj_heap_other (by omega)).trans HRow.out.choose_spec.1⟩, by omega, HBW.out.trans (belowK_b (w := w) (Nat.le_refl _) W D _ _ (by omega) HK.out rfl rfl)⟩
    intro j hj
    rw [numsU_len] at hj
    refine ⟨g, 0, rfl, ?_⟩
    have hh : (W.putObj D (.deferred none)).heap[g]? = W.heap[g]? := World.putObj_heap_other (by omega)
    rw [Nat.zero_add, World.cell?_of_block (w := W) hh, World.rowIs.cell HRow.out hj, numsU_get U n j hj, hy, numF_all U j (by have := HN.out; omega)]
  case stop =>
    rintro D c pre W _ _ h _
    exact h.elim
end Nf
end Go.Proofs.YtlbaecjmfgahgaaDoor
