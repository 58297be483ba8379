/- Several texts in one. -/
import Derived.Test.YtcgllipcnmlkbaaDoorPk6
namespace Go.Proofs.YtcgllipcnmlkbaaDoor
open Go.RowKit Sets Tr Rx Sp
def Small (F : List Nat) : Prop := ∀ y ∈ F, y < 18446744073709551616
/-- what node does, at a tree -/
def NodeC (W0 : World) (nv : Value) (N : List Nd) (t : T) : Prop := ∀ (B : Nat) (sv fv : Value) (S F : List Nat) (w : World), MkAt w B nv sv fv S F → Below W0.heap.size W0 w → W0.heap.size ≤ B → F.length = S.length → Small F → S.length + (mk (abs N t)).s.length ≤ 63 → Tab w → 0 < B →
  Calls Tryd.prog 32 #[.pointer (some ⟨B, 0, none⟩), .int .i64 t.root] w fun e w' =>
    e = .returned (enV S.length (mk (abs N t))) ∧ ∃ sv' fv', MkAt w' B nv sv' fv' (S ++ (mk (abs N t)).s) (F ++ up S.length (mk (abs N t)).f) ∧ Fr B w sv fv w' sv' fv'
theorem BoxAt.fr {B b : Nat} {x : Nd} {w w' : World} {nv sv fv sv' fv' : Value} {S F : List Nat} (h : BoxAt w b x) (hM : MkAt w B nv sv fv S F) (k : Fr B w sv fv w' sv' fv') : BoxAt w' b x :=
  ⟨k.keep hM h.row (by decide) (by decide) (by decide)⟩
theorem BoxAt.below {b : Nat} {x : Nd} {w w' : World} (h : BoxAt w b x) (k : Below w.heap.size w w') : BoxAt w' b x := h.kept k h.lt
theorem BoxAt.c4 {w : World} {B : Nat} {x : Nd} (h : BoxAt w B x) : w.cell? ⟨B, 0, none⟩ = some (.int .u8 x.k) ∧ w.cell? ⟨B, 5, none⟩ = some (.int .i64 x.a) ∧ w.cell? ⟨B, 6, none⟩ = some (.int .i64 x.b) ∧ w.cell? ⟨B, 7, none⟩ = some (.int .i64 x.mn) ∧ w.cell? ⟨B, 8, none⟩ = some (.int .i64 x.mx) :=
  ⟨h.cell 0 _ rfl, h.cell 5 _ rfl, h.cell 6 _ rfl, h.cell 7 _ rfl, h.cell 8 _ rfl⟩
theorem small_up {m : Mk} {n : Nat} (hm : Ok m) (h : n + m.s.length ≤ 63) : Small (up n m.f) := fun y hy => Nat.lt_of_lt_of_le (up_lt hm.fol y hy) (Nat.le_trans (Nat.pow_le_pow_right (by decide) h) (by decide))
theorem small_app {F G : List Nat} (h : Small F) (k : Small G) : Small (F ++ G) := fun y hy => (List.mem_append.1 hy).elim (h y) (k y)
theorem up_small {x n k : Nat} (hx : x < 2 ^ k) (h : n + k ≤ 63) : x <<< n < 18446744073709551616 := Nat.lt_of_lt_of_le (shl_lt hx) (Nat.le_trans (Nat.pow_le_pow_right (by decide) h) (by decide))
theorem enV_zero (n : Nat) : enV n zero = .agg (en3 0 0 true) := by unfold enV zero; simp
theorem MkAt.cell {w : World} {B : Nat} {nv sv fv : Value} {S F : List Nat} (h : MkAt w B nv sv fv S F) (g i : Nat) (v : Value) (h0 : g ≠ B) (h1 : sv.ownBlock ≠ some g) (h2 : fv.ownBlock ≠ some g) : MkAt (w.setCell ⟨g, i, none⟩ v) B nv sv fv S F :=
  ⟨h.row.kept (Below.heap_setCell _ _ _ _ (fun e => h0 e.symm)), own_kept h.os fun _ hk => Below.heap_setCell _ _ _ _ (fun e => h1 (by simp only at e; rw [← e]; exact hk)), own_kept h.of fun _ hk => Below.heap_setCell _ _ _ _ (fun e => h2 (by simp only at e; rw [← e]; exact hk))⟩
theorem Fr.cell {B g : Nat} {w w' : World} {sv fv sv' fv' : Value} (h : Fr B w sv fv w' sv' fv') (i : Nat) (v : Value) (hg : w.heap.size ≤ g) (hB : B < w.heap.size) : Fr B w sv fv (w'.setCell ⟨g, i, none⟩ v) sv' fv' :=
  ⟨h.below.trans ⟨rfl, rfl, rfl, by simp, fun k hk => Below.heap_setCell _ _ _ _ (by simp only; omega)⟩, fun k hk h0 h1 h2 => by rw [Below.heap_setCell _ _ _ _ (by simp only; omega)]; exact h.block k hk h0 h1 h2, h.os, h.of⟩
set_option maxHeartbeats 6400000 in
set_option maxRecDepth 100000 in
theorem timesP_any (W0 : World) (N : List Nd) (t : T) (x : Nd) (B : Nat) (nv sv fv : Value) (S F : List Nat) (w : World) (hC : NodeC W0 nv N t) (h : MkAt w B nv sv fv S F) (hb : Below W0.heap.size W0 w) (hWB : W0.heap.size ≤ B) (hl : F.length = S.length) (hs : Small F)
    (hx : x.a = (t.root : Int)) (hm : (x.mx = -1 ∧ (x.mn = 0 ∨ x.mn = 1)) ∨ (0 ≤ x.mn ∧ x.mn ≤ x.mx ∧ x.mx ≤ 9)) (hn : S.length + (tim (mk (abs N t)) x.mn x.mx).s.length ≤ 63) (hT : Tab w) (hg : 0 < B) :
    Calls Tryd.prog 48 #[.pointer (some ⟨B, 0, none⟩), .agg (nd9 x).toArray] w fun e w' =>
      e = .returned (enV S.length (tim (mk (abs N t)) x.mn x.mx)) ∧ ∃ sv' fv', MkAt w' B nv sv' fv' (S ++ (tim (mk (abs N t)) x.mn x.mx).s) (F ++ up S.length (tim (mk (abs N t)) x.mn x.mx).f) ∧ Fr B w sv fv w' sv' fv' := by
  have hB := h.row.lt
  have hal1 := (Below.refl w.heap.size w).alloc (Nat.le_refl _) (.cells (nd9 x).toArray 96)
  have hal2 := hal1.alloc (by simp) (.cells #[.int .u64 0, .int .u64 0, .bool false] 80)
  have hbx := (BoxAt.new w x).below ((Below.refl _ _).alloc (Nat.le_refl _) (.cells #[.int .u64 0, .int .u64 0, .bool false] 80))
  have her : ERow ((w.alloc (.cells (nd9 x).toArray 96)).alloc (.cells #[.int .u64 0, .int .u64 0, .bool false] 80)) (w.heap.size + 1) 0 0 false := by
    have := ERow.new (w.alloc (.cells (nd9 x).toArray 96)) 0 0 false
    rw [show (w.alloc (.cells (nd9 x).toArray 96)).heap.size = w.heap.size + 1 from by simp] at this
    exact this
  have HM := Lib.hid (h.below hal2)
  have HF := Lib.hid (Fr.of_below sv fv hal2 hB)
  have HBx := Lib.hid hbx
  have HER := Lib.hid her
  have HB0 := Lib.hid (hb.trans (hal2.mono (by omega)))
  have HT := Lib.hid (hT.below hal2 (by omega))
  have HL := Lib.hid hl
  have HSm := Lib.hid hs
  have HN := Lib.hid hn
  have HC := Lib.hid hC
  have HX := Lib.hid hx
  have HWB := Lib.hid hWB
  have hmx : decide (x.mx = 0) = decide (x.mx = 0) := rfl
  clear h hb hl hs hn hT hal1 hal2 hbx her hC hx hWB hmx
  go_enter Tryd.func48, Tryd.ntmps48
  by_cases h0 : x.mx = 0
  · have e0 : tim (mk (abs N t)) x.mn x.mx = zero := by unfold tim; rw [if_pos h0]
    rw [e0]
    have HZ := Lib.hid h0
    clear h0 e0
    have hbeq : (x.mx == 0) = true := by rw [HZ.out]; rfl
    obtain ⟨a0, a1, a2, a3, a4⟩ := HBx.out.c4
    go_wp2_with (first
      | (refine wpList_put_ends rfl _ _ rfl (w.heap.size + 1) 0 0 false 0 0 true rfl rfl HER.out ?_; intro hE7; have HE7 := Lib.hid hE7; clear hE7))
    have ho := HM.out.off HER.out (by decide) (by decide)
    have hfin := HM.out.other (w.heap.size + 1) (en3 0 0 true) (by omega) ho.1 ho.2
    refine bodyPost_ret (v := .agg (en3 0 0 true)) (results_cell_row (p := 4) Tryd.results48 _ _ (w.heap.size + 1) 80 _ (0, 0) _ rfl HE7.out Tryd.underlying80 rfl (sizeEnds _ _ _)) rfl ⟨by rw [enV_zero], sv, fv, ?_, HF.out.setRow _ (by omega) hB⟩
    show MkAt _ B nv sv fv (S ++ []) (F ++ up S.length [])
    rw [List.append_nil, show up S.length [] = [] from rfl, List.append_nil]
    exact hfin
  · have hbeq : (x.mx == 0) = false := by rw [beq_eq_false_iff_ne]; exact h0
    have hxa := HX.out
    obtain ⟨sa, sc, hsv⟩ := own_slice HM.out.os
    obtain ⟨c0, c1, c2⟩ := HM.out.row.cells
    rw [hsv] at c1
    obtain ⟨a0, a1, a2, a3, a4⟩ := HBx.out.c4
    rw [hxa] at a1
    have hne : (mk (abs N t)).s.length ≤ (tim (mk (abs N t)) x.mn x.mx).s.length := by
      unfold tim
      rw [if_neg h0]
      split
      · exact Nat.le_refl _
      · rw [reps_len]; exact Nat.le_mul_of_pos_left _ (by omega)
    have HNode := Lib.hid (HC.out B sv fv S F _ HM.out HB0.out HWB.out HL.out HSm.out (by have := HN.out; omega) HT.out hg)
    have H0 := Lib.hid h0
    clear h0 hxa HC
    obtain ⟨m, hm0⟩ : ∃ m, m = mk (abs N t) := ⟨_, rfl⟩
    have HOK := Lib.hid (ok_mk (abs N t))
    rw [← hm0] at HNode HN HOK hne ⊢
    clear hm0
    generalize hgn : S.length = n at *
    have HSL := Lib.hid hgn
    clear hgn
    obtain ⟨fi, hfi⟩ : ∃ y, y = m.fi <<< n := ⟨_, rfl⟩
    obtain ⟨la, hla⟩ : ∃ y, y = m.la <<< n := ⟨_, rfl⟩
    obtain ⟨em, hem⟩ : ∃ y, y = m.em := ⟨_, rfl⟩
    have hev : enV n m = .agg (en3 fi la em) := by rw [hfi, hla, hem]; rfl
    rw [hev] at HNode
    have HFI := Lib.hid hfi
    have HLA := Lib.hid hla
    have HEM := Lib.hid hem
    have hln : n + m.s.length ≤ 63 := by have := HN.out; omega
    have HFb := Lib.hid (hfi ▸ up_small HOK.out.fi hln : fi < 18446744073709551616)
    have HLn := Lib.hid hln
    have HLb : Hid (la < 2 ^ (n + m.s.length)) := Lib.hid (hla ▸ shl_lt HOK.out.la)
    clear hfi hla hem hev hne
    by_cases h1 : x.mx = -1
    · have hbeq1 : (x.mx == -1) = true := by rw [h1]; rfl
      have e0 : tim m x.mn x.mx = star m x.mn := by unfold tim; rw [if_neg H0.out, if_pos h1]
      rw [e0] at HN ⊢
      clear e0 h1
      go_wp2_with (first
        | (go_at_call 32; refine HNode.out.mono ?_; rintro e w3 ⟨rfl, sv3, fv3, hM3, hF3⟩; have HM3 := Lib.hid hM3; have HF3 := Lib.hid (HF.out.trans hF3); have HBx3 := Lib.hid (HBx.out.fr HM.out hF3); have HER3 := Lib.hid (HER.out.fr HM.out hF3); have HT3 := Lib.hid (HT.out.below hF3.below hg); clear hM3 hF3; obtain ⟨b0, b1, b2, b3, b4⟩ := HBx3.out.c4; have hl3 := HBx3.out.lt; have hl4 := HER3.out.lt; clear a0 a1 a2 a3 a4 c0 c1 c2)
        | (refine wpList_lay_ends rfl _ _ rfl fi la em rfl rfl ?_))
      clear HNode HM HF HBx HER HB0 HT
      generalize hgb : w.heap.size = b at *
      have HGB := Lib.hid hgb
      clear hgb
      have hal := (Below.refl w3.heap.size w3).alloc (Nat.le_refl _) (.cells #[.int .u64 fi, .int .u64 la, .bool em] 80)
      have HM4 := Lib.hid (HM3.out.below hal)
      have HF4 := Lib.hid (HF3.out.trans (Fr.of_below _ _ hal HM3.out.row.lt))
      have HBx4 := Lib.hid (HBx3.out.below hal)
      have HER4 := Lib.hid (HER3.out.below hal)
      have HR4 : Hid (ERow (w3.alloc (.cells #[.int .u64 fi, .int .u64 la, .bool em] 80)) w3.heap.size fi la em) := Lib.hid (ERow.new w3 fi la em)
      have HT4 := Lib.hid (HT3.out.below hal (by have := HM3.out.row.lt; omega))
      clear HM3 HF3 HBx3 HER3 HT3 b0 b1 b2 b3 b4 hal
      have hrb : w3.heap.size ≠ b + 1 := by omega
      have hrw : b ≤ w3.heap.size := by omega
      clear hl3 hl4
      generalize (w3.alloc (.cells #[.int .u64 fi, .int .u64 la, .bool em] 80)) = w4 at *
      generalize w3.heap.size = r at *
      clear w3
      have hlF : (F ++ up n m.f).length = n + m.s.length := by rw [List.length_append, up_length, HOK.out.len, HL.out]
      refine (link_any B nv sv3 fv3 _ _ la fi w4 HM4.out (by rw [hlF]; exact HLn.out) (by rw [hlF]; exact HLb.out) HFb.out (small_app HSm.out (small_up HOK.out HLn.out)) HT4.out hg).mono ?_
      rintro e w5 ⟨rfl, hM5, hF5⟩
      have HER5 := Lib.hid (HER4.out.fr HM4.out hF5)
      have HBx5 := Lib.hid (HBx4.out.fr HM4.out hF5)
      have HR5 := Lib.hid (HR4.out.fr HM4.out hF5)
      have HF5 := Lib.hid (HF4.out.trans hF5)
      rw [HFI.out, HLA.out, orAt_up _ _ _ _ _ HL.out] at hM5
      have HM5 := Lib.hid hM5
      clear hM5 hF5 HM4 HF4 HBx4 HER4 HR4 HT4 hlF
      clear w4
      have l5 := HR5.out.lt
      obtain ⟨b0, b1, b2, b3, b4⟩ := HBx5.out.c4
      obtain ⟨r0, r1, r2⟩ := HR5.out.cells
      have fr := HR5.out.frozen 2
      have HFN : Hid (∀ E : Bool, ERow (w5.setCell ⟨r, 2, none⟩ (.bool E)) r fi la E ∧ ERow (w5.setCell ⟨r, 2, none⟩ (.bool E)) (b + 1) 0 0 false ∧ MkAt ((w5.setCell ⟨r, 2, none⟩ (.bool E)).setRow (b + 1) (en3 fi la E)) B nv sv3 fv3 (S ++ m.s) (F ++ up n (orAt m.la m.fi m.f)) ∧ Fr B w sv fv ((w5.setCell ⟨r, 2, none⟩ (.bool E)).setRow (b + 1) (en3 fi la E)) sv3 fv3) := Lib.hid fun E => by
        have ho := HM5.out.off HR5.out (by decide) (by decide)
        have ho2 := HM5.out.off HER5.out (by decide) (by decide)
        exact ⟨HR5.out.put2 E, HER5.out.kept (Below.heap_setCell _ _ _ _ (fun e => hrb e.symm)), (HM5.out.cell r 2 _ (by omega) ho.1 ho.2).other (b + 1) _ (by omega) ho2.1 ho2.2, (HF5.out.cell 2 _ (by have := HGB.out; omega) (by have := HGB.out; omega)).setRow _ (by have := HGB.out; omega) (by have := HGB.out; omega)⟩
      cases em
      · by_cases hz : x.mn = 0
        · have hbz : (x.mn == 0) = true := by rw [hz]; rfl
          have HZ := Lib.hid (decide_eq_true hz)
          clear hz
          go_wp2_with (first
            | (refine wpList_get_ends rfl _ rfl r fi la _ rfl (HFN.out true).1 ?_)
            | (refine wpList_put_ends rfl _ _ rfl (b + 1) 0 0 false fi la true rfl rfl (HFN.out true).2.1 ?_; intro hE7; have HE7 := Lib.hid hE7; clear hE7))
          refine bodyPost_ret (v := .agg (en3 fi la true)) (results_cell_row (p := 4) Tryd.results48 _ _ (b + 1) 80 _ (0, 0) _ rfl HE7.out Tryd.underlying80 rfl (sizeEnds _ _ _)) rfl ⟨?_, sv3, fv3, (HFN.out true).2.2.1, (HFN.out true).2.2.2⟩
          rw [HFI.out, HLA.out]
          unfold enV star
          rw [← HEM.out, HZ.out]
          rfl
        · have hbz : (x.mn == 0) = false := by rw [beq_eq_false_iff_ne]; exact hz
          have HZ := Lib.hid (decide_eq_false hz)
          clear hz
          go_wp2_with (first
            | (refine wpList_get_ends rfl _ rfl r fi la _ rfl (HFN.out false).1 ?_)
            | (refine wpList_put_ends rfl _ _ rfl (b + 1) 0 0 false fi la false rfl rfl (HFN.out false).2.1 ?_; intro hE7; have HE7 := Lib.hid hE7; clear hE7))
          refine bodyPost_ret (v := .agg (en3 fi la false)) (results_cell_row (p := 4) Tryd.results48 _ _ (b + 1) 80 _ (0, 0) _ rfl HE7.out Tryd.underlying80 rfl (sizeEnds _ _ _)) rfl ⟨?_, sv3, fv3, (HFN.out false).2.2.1, (HFN.out false).2.2.2⟩
          rw [HFI.out, HLA.out]
          unfold enV star
          rw [← HEM.out, HZ.out]
          rfl
      · have HZ : Hid (∀ p : Bool, (true || p) = true) := Lib.hid (fun p => rfl)
        go_wp2_with (first
          | (refine wpList_get_ends rfl _ rfl r fi la _ rfl (HFN.out true).1 ?_)
          | (refine wpList_put_ends rfl _ _ rfl (b + 1) 0 0 false fi la true rfl rfl (HFN.out true).2.1 ?_; intro hE7; have HE7 := Lib.hid hE7; clear hE7))
        refine bodyPost_ret (v := .agg (en3 fi la true)) (results_cell_row (p := 4) Tryd.results48 _ _ (b + 1) 80 _ (0, 0) _ rfl HE7.out Tryd.underlying80 rfl (sizeEnds _ _ _)) rfl ⟨?_, sv3, fv3, (HFN.out true).2.2.1, (HFN.out true).2.2.2⟩
        rw [HFI.out, HLA.out]
        unfold enV star
        rw [← HEM.out, HZ.out]
    · obtain ⟨many, hmany⟩ : ∃ k : Nat, x.mx = (k : Int) := ⟨x.mx.toNat, by have := H0.out; omega⟩
      have hm1 : 1 ≤ many := by have := H0.out; omega
      have hm9 : many ≤ 9 := by omega
      have hbeq1 : (x.mx == -1) = false := by rw [beq_eq_false_iff_ne]; exact h1
      have e0 : tim m x.mn x.mx = reps m x.mn many := by unfold tim; rw [if_neg H0.out, if_neg h1, hmany, Int.toNat_natCast]
      rw [e0] at HN ⊢
      clear e0 h1
      have HMY := Lib.hid hmany
      go_wp2_with (first
        | (go_at_call 32; refine HNode.out.mono ?_; rintro e w3 ⟨rfl, sv3, fv3, hM3, hF3⟩; have HM3 := Lib.hid hM3; have HF3 := Lib.hid (HF.out.trans hF3); have HBx3 := Lib.hid (HBx.out.fr HM.out hF3); have HER3 := Lib.hid (HER.out.fr HM.out hF3); have HT3 := Lib.hid (HT.out.below hF3.below hg); clear hM3 hF3; obtain ⟨b0, b1, b2, b3, b4⟩ := HBx3.out.c4; have hl3 := HBx3.out.lt; have hl4 := HER3.out.lt; clear a0 a1 a2 a3 a4 c0 c1 c2)
        | (refine wpList_lay_ends rfl _ _ rfl fi la em rfl rfl ?_))
      clear HNode HM HF HBx HER HB0 HT
      generalize hgb : w.heap.size = b at *
      have HGB := Lib.hid hgb
      clear hgb
      have hal := (Below.refl w3.heap.size w3).alloc (Nat.le_refl _) (.cells #[.int .u64 fi, .int .u64 la, .bool em] 80)
      have HM4 := Lib.hid (HM3.out.below hal)
      have HF4 := Lib.hid (HF3.out.trans (Fr.of_below _ _ hal HM3.out.row.lt))
      have HBx4 := Lib.hid (HBx3.out.below hal)
      have HER4 := Lib.hid (HER3.out.below hal)
      have HR4 : Hid (ERow (w3.alloc (.cells #[.int .u64 fi, .int .u64 la, .bool em] 80)) w3.heap.size fi la em) := Lib.hid (ERow.new w3 fi la em)
      have HT4 := Lib.hid (HT3.out.below hal (by have := HM3.out.row.lt; omega))
      clear HM3 HF3 HBx3 HER3 HT3 b0 b1 b2 b3 b4 hal hl3 hl4
      generalize (w3.alloc (.cells #[.int .u64 fi, .int .u64 la, .bool em] 80)) = w4 at *
      generalize w3.heap.size = r at *
      clear w3
      refine region_mix [(false, 0), (false, 1), (false, 2), (false, 3), (false, 4), (false, 5), (false, 7), (false, 8), (true, 6), (true, 9)] (fun w' => w'.heap[b]? = w4.heap[b]? ∧ w'.heap[r]? = w4.heap[r]?) (by kernel_rfl) (by kernel_rfl) ⟨rfl, rfl⟩ ?_
      simp only [planOps, List.map_cons, List.map_nil, List.getD_cons_zero, List.getD_cons_succ, List.length_cons, List.length_nil, List.drop_succ_cons, List.drop_zero]
      refine mix_seg (seg := [_, _, _, _, _, _, _, _]) rfl ⟨rfl, rfl⟩ ?_
      intro ι hι F' hF'
      have hbx : ∀ n, BoxAt (F' n) b x := fun n => ⟨((hF' n).1).trans HBx4.out.row⟩
      have g7 : ∀ n, (F' n).cell? ⟨b, 7, none⟩ = some (.int .i64 x.mn) := fun n => (hbx n).c4.2.2.2.1
      have g8 : ∀ n, (F' n).cell? ⟨b, 8, none⟩ = some (.int .i64 x.mx) := fun n => (hbx n).c4.2.2.2.2
      have GR : Hid (∀ w', (∃ n, w' = F' n) → w'.heap[r]? = some (.cells (en3 fi la em) 80 (0, 0))) := Lib.hid (fun w' ⟨n, e⟩ => by rw [e, (hF' n).2]; exact HR4.out)
      clear hbx
      repeat (first | (go_big_quiet_step (fail)) | (refine BigFrame.wpQuiet_want rfl (fun K hK => ?_); refine quiet_load_row 80 (.tmp 6) rfl r rfl 80 (en3 fi la em) (0, 0) _ GR.out Tryd.underlying80 rfl (sizeEnds _ _ _) ?_; refine hK _ ?_; clear hK K; simp only [Act.put, List.setIfInBounds_toArray, List.set_cons_zero, List.set_cons_succ]))
      refine wpQuiet_nil ?_
      clear GR g7 g8 hF' hι F'
      have hn2 : n + many * m.s.length ≤ 63 := by have := HN.out; rw [reps_len] at this; exact this
      have e1 : cS m 0 1 = m.s := by rw [cS_head]; simp [cS_zero]
      have e2 : cF m n 0 1 = up n m.f := by rw [cF_first]; simp [cF]
      have HRep := Lib.hid (repeat_core B n many nv sv3 fv3 S F m fi la m.s.length w4.drew.heap.size em w4.drew HFI HLA HEM (Lib.hid rfl) rfl (by rw [e1, e2]; exact HM4.out.drewn) HSL.out HL.out HOK.out hm1 hm9 hn2)
      have HN2 := Lib.hid hn2
      clear hn2 e1 e2
      refine mix_eff (fun K hK => ?_)
      go_wp2_with (go_at_call 60; refine HRep.out.mono ?_; rintro e w5 ⟨v5, sv5, fv5, rfl, hO5, hM5, hF5⟩; have HO5 := Lib.hid hO5; have HM5 := Lib.hid hM5; have HF5 := Lib.hid hF5; clear hO5 hM5 hF5)
      have hcb : w5.heap[b]? = w4.heap[b]? := (HF5.out.keep HM4.out.drewn HBx4.out.row (by decide) (by decide) (by decide)).trans HBx4.out.row.symm
      have hcr : w5.heap[r]? = w4.heap[r]? := (HF5.out.keep HM4.out.drewn HR4.out (by decide) (by decide) (by decide)).trans HR4.out.symm
      refine mix_on hK ⟨hcb, hcr⟩ ?_
      clear hK K HRep
      have HER5 := Lib.hid (ERow.fr (w := w4.drew) HER4.out HM4.out.drewn HF5.out)
      have HT5 := Lib.hid (Tab.below (w := w4.drew) HT4.out HF5.out.below hg)
      have HF6 := Lib.hid (HF4.out.drew.trans HF5.out)
      have hev2 : ∃ f2 l2 e2, f2 = (reps m x.mn many).fi <<< n ∧ l2 = (reps m x.mn many).la <<< n ∧ e2 = (reps m x.mn many).em := ⟨_, _, _, rfl, rfl, rfl⟩
      obtain ⟨f2, l2, e2, hf2, hl2, he2⟩ := hev2
      have hen : enV n (reps m x.mn many) = .agg (en3 f2 l2 e2) := by rw [hf2, hl2, he2]; rfl
      have HJ := joinAll_any B n many (w4.drew.heap.size + 1) x.mn nv sv5 fv5 v5 (S ++ cS m 0 many) F m w5 HM5.out HO5.out HL.out HSm.out HOK.out hm1 hm9 HN2.out HT5.out hg
      rw [hen] at HJ
      have HJ := Lib.hid HJ
      have HEN := Lib.hid hen
      clear hf2 hl2 he2 hen
      refine mix_eff (fun K hK => ?_)
      go_wp2_with (go_at_call 59; refine HJ.out.mono ?_; rintro e w7 ⟨rfl, hM7, hF7⟩; have HM7 := Lib.hid hM7; have HF7 := Lib.hid hF7; clear hM7 hF7)
      have hcb7 : w7.heap[b]? = w4.heap[b]? := (HF7.out.keep HM5.out (hcb.trans HBx4.out.row) (by decide) (by decide) (by decide)).trans HBx4.out.row.symm
      have hcr7 : w7.heap[r]? = w4.heap[r]? := (HF7.out.keep HM5.out (hcr.trans HR4.out) (by decide) (by decide) (by decide)).trans HR4.out.symm
      refine mix_on hK ⟨hcb7, hcr7⟩ ?_
      clear hK K hcb hcr hcb7 hcr7 HJ
      have HER7 := Lib.hid (HER5.out.fr HM5.out HF7.out)
      show wpList _ _ _ _ _ _
      go_wp2_with (refine wpList_put_ends rfl _ _ rfl (b + 1) 0 0 false f2 l2 e2 rfl rfl HER7.out ?_; intro hE7; have HE7 := Lib.hid hE7; clear hE7)
      refine NoPanic.normal ?_
      go_wp2
      have ho := HM7.out.off HER7.out (by decide) (by decide)
      refine bodyPost_ret (v := .agg (en3 f2 l2 e2)) (results_cell_row (p := 4) Tryd.results48 _ _ (b + 1) 80 _ (0, 0) _ rfl HE7.out Tryd.underlying80 rfl (sizeEnds _ _ _)) rfl ⟨by rw [HEN.out], sv5, fv5, ?_, (HF6.out.trans HF7.out).setRow _ (by have := HGB.out; omega) (by have := HGB.out; omega)⟩
      rw [reps_s]
      exact HM7.out.other (b + 1) _ (by omega) ho.1 ho.2
end Go.Proofs.YtcgllipcnmlkbaaDoor
namespace Go.Proofs.YtcgllipcnmlkbaaDoor
open Go.RowKit Sets Tr Rx Sp
namespace Sp
theorem snoc_ind {α : Type} {P : List α → Prop} (h0 : P []) (h1 : ∀ l x, P l → P (l ++ [x])) : ∀ l, P l := by
  intro l
  rw [← List.reverse_reverse l]
  induction l.reverse with
  | nil => exact h0
  | cons x r ih => rw [List.reverse_cons]; exact h1 _ _ ih
/-- the places of parts, one behind the other -/
structure Md where
  s : List Nat
  f : List Nat
  fi : List Nat
  la : List Nat
  em : List Bool
  nt : List Bool
def md0 : Md := ⟨[], [], [], [], [], []⟩
def mdMore (d : Md) (x : X × Bool) : Md := ⟨d.s ++ (mk x.1).s, d.f ++ up d.s.length (mk x.1).f, d.fi ++ [(mk x.1).fi <<< d.s.length], d.la ++ [(mk x.1).la <<< d.s.length], d.em ++ [(mk x.1).em], d.nt ++ [x.2]⟩
def md (l : List (X × Bool)) : Md := l.foldl mdMore md0
theorem md_snoc (l : List (X × Bool)) (x : X × Bool) : md (l ++ [x]) = mdMore (md l) x := by unfold md; rw [List.foldl_append]; rfl
theorem md_len (l : List (X × Bool)) : (md l).f.length = (md l).s.length ∧ (md l).fi.length = l.length ∧ (md l).la.length = l.length ∧ (md l).em.length = l.length ∧ (md l).nt.length = l.length := by
  refine snoc_ind (P := fun l => (md l).f.length = (md l).s.length ∧ (md l).fi.length = l.length ∧ (md l).la.length = l.length ∧ (md l).em.length = l.length ∧ (md l).nt.length = l.length) ⟨rfl, rfl, rfl, rfl, rfl⟩ (fun l x ih => ?_) l
  rw [md_snoc]
  obtain ⟨h1, h2, h3, h4, h5⟩ := ih
  refine ⟨?_, ?_, ?_, ?_, ?_⟩ <;> simp only [mdMore, List.length_append, up_length, List.length_cons, List.length_nil, h1, h2, h3, h4, h5, (ok_mk x.1).len]
theorem md_places (l : List (X × Bool)) : (l.map fun x => Tz.plXz x.1).sum ≤ 63 → (md l).s.length = (l.map fun x => Tz.plXz x.1).sum := by
  refine snoc_ind (P := fun l => (l.map fun x => Tz.plXz x.1).sum ≤ 63 → (md l).s.length = (l.map fun x => Tz.plXz x.1).sum) (fun _ => rfl) (fun l x ih => fun h => ?_) l
  rw [List.map_append, List.sum_append] at h ⊢
  simp only [List.map_cons, List.map_nil, List.sum_cons, List.sum_nil, Nat.add_zero] at h ⊢
  rw [md_snoc]
  show List.length ((md l).s ++ (mk x.1).s) = _
  rw [List.length_append, ih (by omega), mk_len x.1 (by omega)]
theorem md_small (l : List (X × Bool)) : (md l).s.length ≤ 63 → Small (md l).f := by
  refine snoc_ind (P := fun l => (md l).s.length ≤ 63 → Small (md l).f) (fun _ => fun y hy => by cases hy) (fun l x ih => fun h => ?_) l
  rw [md_snoc] at h ⊢
  have h2 : (mdMore (md l) x).s.length = (md l).s.length + (mk x.1).s.length := List.length_append
  rw [h2] at h
  exact small_app (ih (by omega)) (small_up (ok_mk x.1) (by omega))
theorem md_take_le (l : List (X × Bool)) (j : Nat) : (md (l.take j)).s.length ≤ (md l).s.length := by
  have key : ∀ (m k : List (X × Bool)), (md m).s.length ≤ (md (m ++ k)).s.length := by
    intro m k
    refine snoc_ind (P := fun k => (md m).s.length ≤ (md (m ++ k)).s.length) (by simp) (fun k x ih => ?_) k
    rw [← List.append_assoc, md_snoc]
    show _ ≤ List.length ((md (m ++ k)).s ++ (mk x.1).s)
    rw [List.length_append]
    omega
  have := key (l.take j) (l.drop j)
  rw [List.take_append_drop] at this
  exact this
end Sp
end Go.Proofs.YtcgllipcnmlkbaaDoor
