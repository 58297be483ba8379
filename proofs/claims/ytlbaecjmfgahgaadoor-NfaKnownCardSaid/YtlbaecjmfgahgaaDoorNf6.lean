/- reading: the spots into which a byte is read. -/
import Derived.Test.YtlbaecjmfgahgaaDoorNf5
namespace Go.Proofs.YtlbaecjmfgahgaaDoor
open Go.RowKit Go.Shelf Sets Nf
attribute [local go_sem] Oper.semAt_some
namespace Nf
def hasS (L : List (Nat × Nat)) (c k : Nat) : Bool := (L.getD k (0, 0)).1.testBit c
def rdL (L : List (Nat × Nat)) (g c : Nat) : Nat := ofN ((listN g).filter (hasS L c))
theorem rdL_rd (m : Mc) (q c : Nat) : rdL m.sp q c = rd m q c := rfl
def RdI (s n6 : Nat) (sa : Option Addr) (sc : Nat) (L : List (Nat × Nat)) (c g : Nat) (w : World) (pre : List (In g)) (W : World) : Prop :=
  SetB W (s + 1 + 1 + 1 + 1) (ofN ((pre.map Subtype.val).filter (hasS L c))) ∧ SetB W (s + 1 + 1 + 1) 0 ∧ Below s w W ∧ W.cell? ⟨s, 0, none⟩ = some (.slice sa L.length sc) ∧ W.cell? ⟨s + 1 + 1, 0, none⟩ = some (.int .u8 c) ∧ n6 ≤ W.heap.size
set_option maxHeartbeats 6400000 in
set_option maxRecDepth 100000 in
theorem reading_any (sa : Option Addr) (sc : Nat) (L : List (Nat × Nat)) (g c : Nat) (w : World) (h : SpotsIn w sa L) (hgl : ∀ k, g.testBit k = true → k < L.length) (hc : c < 256) (hT : Tab w) :
    Calls Tryd.prog 34 #[.slice sa L.length sc, .agg (setC g), .int .u8 c] w fun e w' => e = .returned (.agg (setC (rdL L g c))) ∧ Below w.heap.size w w' := by
  have HG : Hid (0 < w.heap.size) := Lib.hid (World.block_lt_of_cell? _ _ (hT 0 (by decide)))
  refine (callsIn_wide (n := 9)).1 ?_
  refine callsIn_of_wp_marks Tryd.func34 rfl trivial ?_ rfl
  simp only [Tryd.ntmps34, List.size_toArray, List.length_cons, List.length_nil, Nat.reduceAdd, Nat.reduceSub, Array.replicate_succ, Array.replicate_zero, List.push_toArray, List.append_toArray, List.nil_append, List.cons_append]
  refine wpIn_wide.2 ?_
  go_upto_region 2 with fail
  rw [zeroC]
  obtain ⟨w5, hw5⟩ : ∃ w5, w5 = ((((w.alloc (.cells #[.slice sa L.length sc] 22)).alloc (.cells (setC g) 39)).alloc (.cells #[.int .u8 c] 5)).alloc (.cells (setC 0) 39)).alloc (.cells (setC 0) 39) := ⟨_, rfl⟩
  rw [← hw5]
  have b5 : Below w.heap.size w w5 := by
    rw [hw5]
    exact (((((Below.refl _ _).alloc (Nat.le_refl _) _).alloc (by simp) _).alloc (by simp <;> omega) _).alloc (by simp <;> omega) _).alloc (by simp <;> omega) _
  have z5 : w5.heap.size = w.heap.size + 1 + 1 + 1 + 1 + 1 := by rw [hw5]; simp
  have c5 : w5.cell? ⟨w.heap.size, 0, none⟩ = some (.slice sa L.length sc) := by
    rw [hw5]
    repeat rw [World.cell?_alloc_past _ _ _ (by simp only [World.size_alloc]; omega)]
    rw [World.cell?_alloc_at _ _ _ _ rfl]; rfl
  have d5 : w5.cell? ⟨w.heap.size + 1 + 1, 0, none⟩ = some (.int .u8 c) := by
    rw [hw5]
    repeat rw [World.cell?_alloc_past _ _ _ (by simp only [World.size_alloc]; omega)]
    rw [World.cell?_alloc_at _ _ _ _ (by simp only [World.size_alloc])]; rfl
  have s5 : SetB w5 (w.heap.size + 1) g := by
    rw [hw5]
    have := SetB.new (w.alloc (.cells #[.slice sa L.length sc] 22)) g
    rw [World.size_alloc] at this
    exact ((this.kept ((Below.refl (w.heap.size + 1 + 1) _).alloc (by simp) _) (by omega)).kept ((Below.refl (w.heap.size + 1 + 1) _).alloc (by simp) _) (by omega)).kept ((Below.refl (w.heap.size + 1 + 1) _).alloc (by simp <;> omega) _) (by omega)
  have t5 : SetB w5 (w.heap.size + 1 + 1 + 1) 0 := by
    rw [hw5]
    have := SetB.new (((w.alloc (.cells #[.slice sa L.length sc] 22)).alloc (.cells (setC g) 39)).alloc (.cells #[.int .u8 c] 5)) 0
    simp only [World.size_alloc] at this
    exact this.stay ((Below.refl _ _).alloc (by simp <;> omega) _)
  have u5 : SetB w5 (w.heap.size + 1 + 1 + 1 + 1) 0 := by
    rw [hw5]
    have := SetB.new ((((w.alloc (.cells #[.slice sa L.length sc] 22)).alloc (.cells (setC g) 39)).alloc (.cells #[.int .u8 c] 5)).alloc (.cells (setC 0) 39)) 0
    simp only [World.size_alloc] at this
    exact this
  clear hw5
  go_wp2_with (first
    | (refine wpList_load_set rfl (.tmp 4) rfl (w.heap.size + 1) g rfl s5 ?_)
    | (go_at_call 24; refine (each_any g w5).mono ?_; rintro e w6 ⟨rfl, rfl⟩))
  have b6 : Below w.heap.size w (w5.alloc (.cells (setC g) 39)) := b5.alloc (by omega) _
  have z6 : (w5.alloc (.cells (setC g) 39)).heap.size = w.heap.size + 1 + 1 + 1 + 1 + 1 + 1 := by simp [z5]
  have c6 : (w5.alloc (.cells (setC g) 39)).cell? ⟨w.heap.size, 0, none⟩ = some (.slice sa L.length sc) := by rw [World.cell?_alloc_past _ _ _ (by omega)]; exact c5
  have d6 : (w5.alloc (.cells (setC g) 39)).cell? ⟨w.heap.size + 1 + 1, 0, none⟩ = some (.int .u8 c) := by rw [World.cell?_alloc_past _ _ _ (by omega)]; exact d5
  have s6 := SetB.new w5 g
  have t6 := t5.stay ((Below.refl _ w5).alloc (Nat.le_refl _) (.cells (setC g) 39))
  have u6 := u5.stay ((Below.refl _ w5).alloc (Nat.le_refl _) (.cells (setC g) 39))
  rw [z5] at s6
  generalize w5.alloc (.cells (setC g) 39) = w6 at *
  clear b5 c5 d5 s5 t5 u5
  have HT6 := hT.below b6 HG.out
  have HGG := Lib.hid hgl
  have HZ := Lib.hid z6
  clear hgl z6 z5
  refine (wpIn_wide (n := 9)).1 ?_
  refine wpIn_rangeFunc_ownF rfl (by decide) (gf := 44) (lb := #[.pointer (some ⟨w.heap.size + 1 + 1 + 1 + 1 + 1, 0, none⟩)]) rfl trivial (enters_of Tryd.func44 (by kernel_rfl) rfl)
    (each_stops 8 (by decide) w.heap.size (w.heap.size + 1 + 1 + 1 + 1 + 1) g w6 s6 HT6 HG.out (by rw [HZ.out]; omega)) belowK_t ?hkb (Below.refl _ _) (fun _ => rfl)
    (fun pre W => RdI w.heap.size w6.heap.size sa sc L c g w pre W)
    (fun _ _ _ => False) ?hI (fun _ _ _ _ _ hs _ _ => hs) ?h0
    (fun k => { tmps := #[.slice sa L.length sc, .agg (setC g), .int .u8 c, .pointer (some ⟨w.heap.size, 0, none⟩), .pointer (some ⟨w.heap.size + 1, 0, none⟩), .pointer (some ⟨w.heap.size + 1 + 1, 0, none⟩), .pointer (some ⟨w.heap.size + 1 + 1 + 1, 0, none⟩), .pointer (some ⟨w.heap.size + 1 + 1 + 1 + 1, 0, none⟩), .int .i64 (k.1 : Nat), .agg (setC g), .func (.func 44) #[] #[.pointer (some ⟨w.heap.size + 1 + 1 + 1 + 1 + 1, 0, none⟩)], .int .i64 (k.1 : Nat), undef, undef, undef, undef, undef, undef, undef, undef, undef, undef], defers := [] }) ?assign ?body ?done ?stop
  case hkb =>
    intro W l o o' hl hh h1 h2
    exact belowK_b (w := w6) (by rw [HZ.out]; omega) W l o o' hl hh h1 h2
  case hI =>
    rintro s W W' row ⟨h1, h2, h3, h4, h5, h6⟩ hg hr
    have hne : ∀ b, b < w6.heap.size → some b ≠ row := fun b hb e => by have := (hr _ e.symm).1; omega
    have hz := HZ.out
    exact ⟨h1.grown hg (hne _ (by omega)), h2.grown hg (hne _ (by omega)), h3.grown hg h3.size (fun k e => by have := (hr k e).1; omega), cell_grown h4 hg (hne _ (by omega)), cell_grown h5 hg (hne _ (by omega)), Nat.le_trans h6 hg.size⟩
  case h0 => exact ⟨u6, t6, b6, c6, d6, Nat.le_refl _⟩
  case assign =>
    intro l x W K hK
    gi_wp2
    exact hK
  case body =>
    rintro l pre ⟨k, hk1, hk2⟩ W ⟨hS, hZ, hB, hc1, hd1, hsz⟩ _
    have hkL := HGG.out k hk1
    obtain ⟨b, o, hsa, hr⟩ := h.kept hB k hkL
    have hix : ((k : Nat) : Int) < (L.length : Int) := by omega
    rw [hsa] at hc1
    have HR := Lib.hid hr
    have HB := Lib.hid hB
    have HS := Lib.hid hS
    have HZZ := Lib.hid hZ
    have HSZ := Lib.hid hsz
    have HX : Hid (hasS L c k = (L.getD k (0, 0)).1.testBit c) := Lib.hid rfl
    clear hr hB hS hZ hsz
    generalize L.getD k (0, 0) = X at *
    have HB0 := Lib.hid (World.block_lt_of_cell? _ _ hc1)
    have HB1 := Lib.hid (World.block_lt_of_cell? _ _ hd1)
    gi_wp2
    refine region_mix_round [(false, 0), (false, 1), (false, 2), (false, 3), (false, 4), (false, 5)] (fun w' => Below W.heap.size W w') (by kernel_rfl) (by kernel_rfl) (by kernel_rfl) ?hq ((Below.refl _ _).drew) ?_
    case hq =>
      rintro ⟨a, w, h⟩
      exact h
    simp only [planOps, List.map_cons, List.map_nil, List.getD_cons_zero, List.getD_cons_succ, List.length_cons, List.length_nil, List.drop_succ_cons, List.drop_zero]
    refine mix_seg (seg := [_, _, _, _, _, _]) (rest := []) rfl ((Below.refl _ _).drew) ?_
    intro ι hι F hF
    have f1 := fun n => ((hF n).cell (p := ⟨w.heap.size, 0, none⟩) HB0.out).trans hc1
    have f2 := fun n => ((hF n).cell (p := ⟨w.heap.size + 1 + 1, 0, none⟩) HB1.out).trans hd1
    have Q1 := Lib.hid (fun n => range_below (spot_set HR.out) (hF n))
    iterate 4 (go_big_quiet_step (fail))
    refine BigFrame.wpQuiet_want rfl (fun K hK => ?_); refine quiet_load_mid 39 _ rfl b (o + k * 5) rfl (setC X.1).toList _ (fun w' ⟨n, e⟩ => e ▸ Q1.out n) Tryd.underlying39 rfl (sizeSetL _) ?_; refine hK _ ?_; clear hK K; simp only [Act.put, List.setIfInBounds_toArray, List.set_cons_zero, List.set_cons_succ]
    rw [show (setC X.1).toList.toArray = setC X.1 from rfl]
    go_big_quiet_step (fail)
    refine wpQuiet_nil ?_
    clear f1 f2 Q1 hF hι F
    show wpList _ _ _ _ _ _
    have HH := Lib.hid (has_any X.1 (c : Int) W.drew (by omega) (by omega))
    rw [show ((c : Int)).toNat = c from by omega, ← HX.out] at HH
    go_wp2_with (go_at_call 48; refine HH.out.mono ?_; rintro e w7 ⟨rfl, hb7⟩; have HB7 := Lib.hid hb7; clear hb7)
    have HOF : Hid (hasS L c k = true → ofN (((pre ++ [(⟨k, hk1, hk2⟩ : In g)]).map Subtype.val).filter (hasS L c)) = ofN ((pre.map Subtype.val).filter (hasS L c)) ||| 2 ^ k) := Lib.hid (fun h => by
      rw [List.map_append, List.map_cons, List.map_nil, List.filter_append, List.filter_cons, if_pos h, List.filter_nil, ofN_snoc])
    have HOG : Hid (hasS L c k = false → ofN (((pre ++ [(⟨k, hk1, hk2⟩ : In g)]).map Subtype.val).filter (hasS L c)) = ofN ((pre.map Subtype.val).filter (hasS L c))) := Lib.hid (fun h => by
      rw [List.map_append, List.map_cons, List.map_nil, List.filter_append, List.filter_cons, if_neg (by rw [h]; decide), List.filter_nil, List.append_nil])
    generalize hasS L c k = hb at *
    have HN7 : Hid (W.heap.size ≤ w7.heap.size) := Lib.hid (by have := HB7.out.size; rw [World.size_drew] at this; exact this)
    have HB8 : Hid (Below W.heap.size W w7) := Lib.hid (by
      have h := HB7.out
      rw [World.size_drew] at h
      exact ((Below.refl _ W).drew).trans h)
    have HS7 := Lib.hid (HS.out.stay HB8.out)
    have HZ7 := Lib.hid (HZZ.out.stay HB8.out)
    have HD7 := Lib.hid ((HB8.out.cell (p := ⟨w.heap.size + 1 + 1, 0, none⟩) HB1.out).trans hd1)
    have HC7 := Lib.hid ((HB8.out.cell (p := ⟨w.heap.size, 0, none⟩) HB0.out).trans hc1)
    clear hd1 hc1
    refine NoPanic.normal ?_
    cases hb
    · gi_wp2
      refine ⟨keeps_below HB8.out, HB8.out.mono (Nat.le_of_lt HB0.out), ?_, HZ7.out, HB.out.trans (HB8.out.mono (Nat.le_of_lt HB0.out)), HC7.out, HD7.out, Nat.le_trans HSZ.out HN7.out⟩
      rw [HOG.out (by first | rfl | trivial)]
      exact HS7.out
    · have HA := Lib.hid (add_any (w.heap.size + 1 + 1 + 1 + 1) _ k w7 HS7.out hk2)
      gi_wp2_with (refine ⟨trivial, (CallsIn.inRound l (callsIn_wide.2 HA.out)).mono ?_⟩; rintro e w8 ⟨⟨v, rfl⟩, hs8, hb8⟩; have HS8 := Lib.hid hs8; have HB9 := Lib.hid hb8; clear hs8 hb8)
      have hz := HZ.out
      have hw := HSZ.out
      refine ⟨(keeps_below HB8.out).trans (keeps_but HB9.out HS7.out), But.below (HB8.out.mono (Nat.le_of_lt HB0.out)) HB9.out (by omega) (Nat.le_trans (Nat.le_of_lt HB0.out) HN7.out), ?_, HZ7.out.but HB9.out (by omega), But.below (HB.out.trans (HB8.out.mono (Nat.le_of_lt HB0.out))) HB9.out (by omega) (Nat.le_trans (Nat.le_of_lt HB0.out) HN7.out), HB9.out.cell (by rw [hsa]; exact HC7.out) (by show w.heap.size ≠ _; omega), HB9.out.cell HD7.out (by show w.heap.size + 1 + 1 ≠ _; omega), Nat.le_trans (Nat.le_trans HSZ.out HN7.out) HB9.out.size⟩
      rw [HOF.out (by first | rfl | trivial)]
      exact HS8.out
  case done =>
    rintro D ys W hD hy ⟨hS, hZ, hB, -⟩ hK
    rw [hy] at hS
    have hz := HZ.out
    go_wp2_with (first
      | (refine wpList_load_set rfl (.tmp 7) rfl (w.heap.size + 1 + 1 + 1 + 1) (rdL L g c) rfl hS ?_)
      | (refine wpList_store_set rfl (.tmp 6) (.tmp 21) rfl (w.heap.size + 1 + 1 + 1) 0 (rdL L g c) rfl rfl hZ ?_))
    have hK2 : (W.setRow (w.heap.size + 1 + 1 + 1) (setC (rdL L g c))).heap[D]? = some (.deferred (some [])) := by rw [setRow_other _ _ _ _ (by omega)]; exact hK
    have hR3 := hZ.put (rdL L g c)
    have hB3 : Below w.heap.size w (W.setRow (w.heap.size + 1 + 1 + 1) (setC (rdL L g c))) := But.below hB (But.setRow _ _ _) (by omega) hB.size
    generalize W.setRow (w.heap.size + 1 + 1 + 1) (setC (rdL L g c)) = W9 at *
    have hR4 : (W9.putObj D (.deferred none)).heap[w.heap.size + 1 + 1 + 1]? = some (.cells (setC (rdL L g c)) 39 (0, 0)) := by rw [World.putObj_heap_other (by omega)]; exact hR3.row
    refine ⟨by simp, .inl ⟨_, _, rfl, run_takeDeferred hK2, ?_⟩⟩
    refine ⟨.agg (setC (rdL L g c)), results_cell_row (p := 6) Tryd.results34 _ _ (w.heap.size + 1 + 1 + 1) 39 _ (0, 0) _ rfl hR4 Tryd.underlying39 rfl (sizeSet _), rfl, ?_⟩
    exact hB3.trans (belowK_b (w := w) (Nat.le_refl _) W9 D _ _ (by omega) hK2 rfl rfl)
  case stop =>
    rintro D c pre W _ _ h _
    exact h.elim
end Nf
end Go.Proofs.YtlbaecjmfgahgaaDoor
