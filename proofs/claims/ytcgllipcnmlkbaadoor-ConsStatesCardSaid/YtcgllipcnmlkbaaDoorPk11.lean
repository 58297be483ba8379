/- node: one or the other. -/
import Derived.Test.YtcgllipcnmlkbaaDoorPk8
namespace Go.Proofs.YtcgllipcnmlkbaaDoor
open Go.RowKit Sets Tr Rx Sp
theorem alt2 (a b : Mk) (n : Nat) (G : List Nat) : (G ++ up n a.f) ++ up (n + a.s.length) b.f = G ++ up n (alt a b).f := by
  show _ = G ++ up n (a.f ++ up a.s.length b.f)
  rw [up_append, up_up, Nat.add_comm n, List.append_assoc]
theorem alt2_fi (a b : Mk) (n : Nat) : (alt a b).fi <<< n = a.fi <<< n ||| b.fi <<< (n + a.s.length) := by
  show (a.fi ||| b.fi <<< a.s.length) <<< n = _
  rw [Nat.shiftLeft_or_distrib, ← Nat.shiftLeft_add, Nat.add_comm n]
theorem alt2_la (a b : Mk) (n : Nat) : (alt a b).la <<< n = a.la <<< n ||| b.la <<< (n + a.s.length) := by
  show (a.la ||| b.la <<< a.s.length) <<< n = _
  rw [Nat.shiftLeft_or_distrib, ← Nat.shiftLeft_add, Nat.add_comm n]
set_option maxHeartbeats 6400000 in
set_option maxRecDepth 100000 in
theorem node_alt (W0 : World) (nv : Value) (N : List Nd) (hN : NodesAt W0 nv N) (i : Nat) (ta tb : T) (hi : Is N (.two i ta tb)) (hk3 : (N.getD i default).k = 4) (hC1 : NodeC W0 nv N ta) (hC2 : NodeC W0 nv N tb) : NodeC W0 nv N (.two i ta tb) := by
  intro B sv fv S F w h hb hWB hl hsm hn hT hg
  have hi1 : i < N.length := hi.1
  obtain ⟨na, nc, hnv⟩ : ∃ a c, nv = .slice a N.length c := by obtain ⟨-, -, a, c, e, -⟩ := hN; exact ⟨a, c, e⟩
  subst hnv
  obtain ⟨q, o, rfl, hr0, hok⟩ := (nodes_kept hN hb).at hi1
  have HR0 := Lib.hid (range_kept hr0 ((Below.refl w.heap.size w).alloc (Nat.le_refl _) (.cells #[.int .u64 0, .int .u64 0, .bool false] 80)))
  have HI := Lib.hid (NoI.make (N.getD i default) h hb hWB hT)
  have hB := h.row.lt
  obtain ⟨c0, c1, c2⟩ := h.row.cells
  have hk := two_kind hi.2.1
  have hm : mk (abs N (.two i ta tb)) = alt (mk (abs N ta)) (mk (abs N tb)) := by simp only [abs]; rw [if_neg (by omega)]; rfl
  rw [hm] at hn ⊢
  have hja : (alt (mk (abs N ta)) (mk (abs N tb))).s.length = (mk (abs N ta)).s.length + (mk (abs N tb)).s.length := List.length_append
  rw [hja] at hn
  have HC1 := Lib.hid (hC1 B sv fv S F _ HI.out.at_ HI.out.b0 hWB hl hsm (by omega) HI.out.tab hg)
  have oka := ok_mk (abs N ta)
  have okb := ok_mk (abs N tb)
  obtain ⟨ma, hma⟩ : ∃ m, m = mk (abs N ta) := ⟨_, rfl⟩
  obtain ⟨mb, hmb⟩ : ∃ m, m = mk (abs N tb) := ⟨_, rfl⟩
  have HC2 : Hid (∀ (sv3 fv3 : Value) (w3 : World), MkAt w3 B (.slice (some ⟨q, o, none⟩) N.length nc) sv3 fv3 (S ++ ma.s) (F ++ up S.length ma.f) → Below W0.heap.size W0 w3 → Tab w3 → Calls Tryd.prog 32 #[.pointer (some ⟨B, 0, none⟩), .int .i64 tb.root] w3 fun e w' =>
      e = .returned (enV (S.length + ma.s.length) mb) ∧ ∃ sv' fv', MkAt w' B (.slice (some ⟨q, o, none⟩) N.length nc) sv' fv' ((S ++ ma.s) ++ mb.s) ((F ++ up S.length ma.f) ++ up (S.length + ma.s.length) mb.f) ∧ Fr B w3 sv3 fv3 w' sv' fv') := Lib.hid fun sv3 fv3 w3 hM hb3 hT3 => by
    rw [hma] at hM ⊢
    rw [hmb]
    have := hC2 B sv3 fv3 _ _ w3 hM hb3 hWB (by rw [List.length_append, List.length_append, up_length, oka.len, hl]) (small_app hsm (small_up oka (by omega))) (by rw [List.length_append]; omega) hT3 hg
    rw [List.length_append] at this
    exact this
  rw [← hma] at HC1 hn oka ⊢
  rw [← hmb] at hn okb ⊢
  have hka := hk.2.1
  have hkb := hk.2.2
  clear hma hmb hm hi hk hC1 hC2 hN hok h hT hja
  generalize N.getD i default = x at *
  have hdi : decide ((i : Int) < (N.length : Int)) = true := decide_eq_true (by omega)
  have hdi2 : decide (i < N.length) = true := decide_eq_true hi1
  obtain ⟨bx0, bx5, bx6, bx7, bx8⟩ := HI.out.bx.c4
  rw [hk3] at bx0
  rw [hka] at bx5
  rw [hkb] at bx6
  generalize hgn : S.length = n at *
  have HSn := Lib.hid hgn
  have HL := Lib.hid hl
  have HSm := Lib.hid hsm
  have HN := Lib.hid hn
  have HWB := Lib.hid hWB
  have HA := Lib.hid oka
  have HB' := Lib.hid okb
  have HKB := Lib.hid hkb
  clear hr0 hWB hka hkb hk3 hgn hl hsm hn oka okb hb
  obtain ⟨fa, la, ea, hfa, hla, hea⟩ : ∃ f2 l2 e2, f2 = ma.fi <<< n ∧ l2 = ma.la <<< n ∧ e2 = ma.em := ⟨_, _, _, rfl, rfl, rfl⟩
  have hen : enV n ma = .agg (en3 fa la ea) := by rw [hfa, hla, hea]; rfl
  obtain ⟨fb, lb, eb, hfb, hlb, heb⟩ : ∃ f2 l2 e2, f2 = mb.fi <<< (n + ma.s.length) ∧ l2 = mb.la <<< (n + ma.s.length) ∧ e2 = mb.em := ⟨_, _, _, rfl, rfl, rfl⟩
  have hen2 : enV (n + ma.s.length) mb = .agg (en3 fb lb eb) := by rw [hfb, hlb, heb]; rfl
  obtain ⟨f2, l2, e2, hf2, hl2, he2⟩ : ∃ f2 l2 e2, f2 = (alt ma mb).fi <<< n ∧ l2 = (alt ma mb).la <<< n ∧ e2 = (alt ma mb).em := ⟨_, _, _, rfl, rfl, rfl⟩
  have hen3 : enV n (alt ma mb) = .agg (en3 f2 l2 e2) := by rw [hf2, hl2, he2]; rfl
  rw [hen3]
  rw [hen] at HC1
  rw [hen2] at HC2
  clear hen hen2
  have hn0 := HN.out
  have hfa64 : fa < 18446744073709551616 := by rw [hfa]; exact up_small HA.out.fi (by omega)
  have hla64 : la < 18446744073709551616 := by rw [hla]; exact up_small HA.out.la (by omega)
  have hfb64 : fb < 18446744073709551616 := by rw [hfb]; exact up_small HB'.out.fi (by omega)
  have hlb64 : lb < 18446744073709551616 := by rw [hlb]; exact up_small HB'.out.la (by omega)
  have ho1 : bits .or .u64 (fa : Int) (fb : Int) = (f2 : Int) := by rw [bits_or_u64_nat fa fb hfa64 hfb64, hf2, alt2_fi, ← hfa, ← hfb]
  have ho2 : bits .or .u64 (la : Int) (lb : Int) = (l2 : Int) := by rw [bits_or_u64_nat la lb hla64 hlb64, hl2, alt2_la, ← hla, ← hlb]
  have HO1 := Lib.hid ho1
  have HO2 := Lib.hid ho2
  have HE2 : Hid (e2 = (ea || eb)) := Lib.hid (by rw [he2, hea, heb]; rfl)
  have HAF := Lib.hid (alt2 ma mb n F)
  have HAS : Hid ((alt ma mb).s = ma.s ++ mb.s) := Lib.hid rfl
  clear hf2 hl2 he2 hen3 hn0 hfa64 hla64 hfb64 hlb64 ho1 ho2
  clear hfa hla hea hfb hlb heb
  show Calls Tryd.prog 32 #[.pointer (some ⟨B, 0, none⟩), .int .i64 i] w _
  go_enter Tryd.func32, Tryd.ntmps32
  go_wp2_with (first
      | (refine wpList_load_node rfl _ rfl q (o + i * 9) x rfl HR0.out ?_)
      | (refine wpList_store_node_at rfl _ _ rfl x (w.heap.size + 1) (by simp) rfl rfl ?_))
  refine HC1.out.mono ?_
  rintro e w3 ⟨rfl, sv3, fv3, hM3, hF3⟩
  have HM3 := Lib.hid hM3
  have HF3 := Lib.hid (HI.out.fr.trans hF3)
  have HE3 := Lib.hid (HI.out.er.fr HI.out.at_ hF3)
  have HBx3 := Lib.hid (HI.out.bx.fr HI.out.at_ hF3)
  have HB3 := Lib.hid (HI.out.b0.trans (hF3.below.mono HWB.out))
  have HT3 := Lib.hid (HI.out.tab.below hF3.below hg)
  clear hM3 hF3 bx0 bx5 bx6 bx7 bx8 HC1 HI
  obtain ⟨b0, b5, b6, b7, b8⟩ := HBx3.out.c4
  have hl3 := HBx3.out.lt
  have hl4 := HE3.out.lt
  rw [HKB.out] at b6
  generalize hgb : w.heap.size = b at *
  have HGB := Lib.hid hgb
  clear hgb
  go_wp2_with (refine wpList_lay_ends rfl _ _ rfl fa la ea rfl rfl ?_)
  have hal := (Below.refl w3.heap.size w3).alloc (Nat.le_refl _) (.cells #[.int .u64 fa, .int .u64 la, .bool ea] 80)
  have HM4 := Lib.hid (HM3.out.below hal)
  have HF4 := Lib.hid (HF3.out.trans (Fr.of_below _ _ hal HM3.out.row.lt))
  have HBx4 := Lib.hid (HBx3.out.below hal)
  have HE4 := Lib.hid (HE3.out.below hal)
  have HR4 : Hid (ERow (w3.alloc (.cells #[.int .u64 fa, .int .u64 la, .bool ea] 80)) w3.heap.size fa la ea) := Lib.hid (ERow.new w3 fa la ea)
  have HT4 := Lib.hid (HT3.out.below hal (by have := HM3.out.row.lt; omega))
  have HB4 := Lib.hid (HB3.out.trans (hal.mono HB3.out.size))
  clear HM3 HF3 HBx3 HE3 HT3 HB3 b0 b5 b6 b7 b8 hal hl3 hl4
  generalize (w3.alloc (.cells #[.int .u64 fa, .int .u64 la, .bool ea] 80)) = w4 at *
  generalize w3.heap.size = r at *
  clear w3
  refine (HC2.out sv3 fv3 w4 HM4.out HB4.out HT4.out).mono ?_
  rintro e w5 ⟨rfl, sv5, fv5, hM5, hF5⟩
  have HM5 := Lib.hid hM5
  have HF5 := Lib.hid (HF4.out.trans hF5)
  have HE5 := Lib.hid (HE4.out.fr HM4.out hF5)
  have HR5 := Lib.hid (HR4.out.fr HM4.out hF5)
  clear hM5 hF5 HM4 HF4 HBx4 HE4 HR4 HT4 HB4 HC2
  clear w4
  have hl5 := HR5.out.lt
  have hl6 := HE5.out.lt
  have HX : Hid (MkAt (w5.alloc (.cells #[.int .u64 fb, .int .u64 lb, .bool eb] 80)) B (.slice (some ⟨q, o, none⟩) N.length nc) sv5 fv5 ((S ++ ma.s) ++ mb.s) ((F ++ up n ma.f) ++ up (n + ma.s.length) mb.f) ∧ Fr B w sv fv (w5.alloc (.cells #[.int .u64 fb, .int .u64 lb, .bool eb] 80)) sv5 fv5 ∧ ERow (w5.alloc (.cells #[.int .u64 fb, .int .u64 lb, .bool eb] 80)) b 0 0 false) := Lib.hid (by
    have hal := (Below.refl w5.heap.size w5).alloc (Nat.le_refl _) (.cells #[.int .u64 fb, .int .u64 lb, .bool eb] 80)
    exact ⟨HM5.out.below hal, HF5.out.trans (Fr.of_below _ _ hal HM5.out.row.lt), HE5.out.below hal⟩)
  obtain ⟨r0, r1, r2⟩ := HR5.out.cells
  have ho1 := HO1.out
  have ho2 := HO2.out
  cases ea <;> cases eb
  · go_wp2_with (first
      | (refine wpList_lay_ends rfl _ _ rfl fb lb _ rfl rfl ?_)
      | (refine wpList_put_ends rfl _ _ rfl b 0 0 false f2 l2 false rfl rfl HX.out.2.2 ?_; intro hE8; have HE8 := Lib.hid hE8; clear hE8))
    obtain ⟨hM9, hF9, hE9⟩ := HX.out
    have ho := hM9.off hE9 (by decide) (by decide)
    have hm9 := hM9.other b (en3 f2 l2 false) (by omega) ho.1 ho.2
    rw [HAF.out, List.append_assoc S, ← HAS.out] at hm9
    refine bodyPost_ret (v := .agg (en3 f2 l2 false)) (results_cell_row (p := 4) Tryd.results32 _ _ b 80 _ (0, 0) _ rfl HE8.out Tryd.underlying80 rfl (sizeEnds _ _ _)) rfl ⟨by rw [HE2.out]; rfl, sv5, fv5, hm9, hF9.setRow _ (by rw [HGB.out]; exact Nat.le_refl _) (by rw [HGB.out]; exact hB)⟩
  · go_wp2_with (first
      | (refine wpList_lay_ends rfl _ _ rfl fb lb _ rfl rfl ?_)
      | (refine wpList_put_ends rfl _ _ rfl b 0 0 false f2 l2 true rfl rfl HX.out.2.2 ?_; intro hE8; have HE8 := Lib.hid hE8; clear hE8))
    obtain ⟨hM9, hF9, hE9⟩ := HX.out
    have ho := hM9.off hE9 (by decide) (by decide)
    have hm9 := hM9.other b (en3 f2 l2 true) (by omega) ho.1 ho.2
    rw [HAF.out, List.append_assoc S, ← HAS.out] at hm9
    refine bodyPost_ret (v := .agg (en3 f2 l2 true)) (results_cell_row (p := 4) Tryd.results32 _ _ b 80 _ (0, 0) _ rfl HE8.out Tryd.underlying80 rfl (sizeEnds _ _ _)) rfl ⟨by rw [HE2.out]; rfl, sv5, fv5, hm9, hF9.setRow _ (by rw [HGB.out]; exact Nat.le_refl _) (by rw [HGB.out]; exact hB)⟩
  · go_wp2_with (first
      | (refine wpList_lay_ends rfl _ _ rfl fb lb _ rfl rfl ?_)
      | (refine wpList_put_ends rfl _ _ rfl b 0 0 false f2 l2 true rfl rfl HX.out.2.2 ?_; intro hE8; have HE8 := Lib.hid hE8; clear hE8))
    obtain ⟨hM9, hF9, hE9⟩ := HX.out
    have ho := hM9.off hE9 (by decide) (by decide)
    have hm9 := hM9.other b (en3 f2 l2 true) (by omega) ho.1 ho.2
    rw [HAF.out, List.append_assoc S, ← HAS.out] at hm9
    refine bodyPost_ret (v := .agg (en3 f2 l2 true)) (results_cell_row (p := 4) Tryd.results32 _ _ b 80 _ (0, 0) _ rfl HE8.out Tryd.underlying80 rfl (sizeEnds _ _ _)) rfl ⟨by rw [HE2.out]; rfl, sv5, fv5, hm9, hF9.setRow _ (by rw [HGB.out]; exact Nat.le_refl _) (by rw [HGB.out]; exact hB)⟩
  · go_wp2_with (first
      | (refine wpList_lay_ends rfl _ _ rfl fb lb _ rfl rfl ?_)
      | (refine wpList_put_ends rfl _ _ rfl b 0 0 false f2 l2 true rfl rfl HX.out.2.2 ?_; intro hE8; have HE8 := Lib.hid hE8; clear hE8))
    obtain ⟨hM9, hF9, hE9⟩ := HX.out
    have ho := hM9.off hE9 (by decide) (by decide)
    have hm9 := hM9.other b (en3 f2 l2 true) (by omega) ho.1 ho.2
    rw [HAF.out, List.append_assoc S, ← HAS.out] at hm9
    refine bodyPost_ret (v := .agg (en3 f2 l2 true)) (results_cell_row (p := 4) Tryd.results32 _ _ b 80 _ (0, 0) _ rfl HE8.out Tryd.underlying80 rfl (sizeEnds _ _ _)) rfl ⟨by rw [HE2.out]; rfl, sv5, fv5, hm9, hF9.setRow _ (by rw [HGB.out]; exact Nat.le_refl _) (by rw [HGB.out]; exact hB)⟩
end Go.Proofs.YtcgllipcnmlkbaaDoor
