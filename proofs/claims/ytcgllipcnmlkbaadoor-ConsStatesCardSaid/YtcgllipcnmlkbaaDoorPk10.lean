/- node: side by side. -/
import Derived.Test.YtcgllipcnmlkbaaDoorPk8
namespace Go.Proofs.YtcgllipcnmlkbaaDoor
open Go.RowKit Sets Tr Rx Sp
theorem join2 (a b : Mk) (n : Nat) (G : List Nat) (ha : Ok a) (hG : G.length = n) : orAt (a.la <<< n) (b.fi <<< (n + a.s.length)) ((G ++ up n a.f) ++ up (n + a.s.length) b.f) = G ++ up n (join a b).f := by
  have e1 : b.fi <<< (n + a.s.length) = (b.fi <<< a.s.length) <<< n := by rw [← Nat.shiftLeft_add]; congr 1; omega
  rw [orAt_left, e1, orAt_up _ _ _ _ _ hG, List.append_assoc]
  · congr 1
    show _ = up n (orAt a.la (b.fi <<< a.s.length) a.f ++ up a.s.length b.f)
    rw [up_append, up_up, Nat.add_comm n]
  · rw [List.length_append, up_length, hG, ha.len]
    exact shl_lt ha.la
theorem join2_fi (a b : Mk) (n : Nat) : (join a b).fi <<< n = a.fi <<< n ||| if a.em then b.fi <<< (n + a.s.length) else 0 := by
  show (a.fi ||| if a.em then b.fi <<< a.s.length else 0) <<< n = _
  rw [Nat.shiftLeft_or_distrib]
  congr 1
  split
  · rw [← Nat.shiftLeft_add]; congr 1; omega
  · simp
theorem join2_la (a b : Mk) (n : Nat) : (join a b).la <<< n = b.la <<< (n + a.s.length) ||| if b.em then a.la <<< n else 0 := by
  show ((b.la <<< a.s.length) ||| if b.em then a.la else 0) <<< n = _
  rw [Nat.shiftLeft_or_distrib, ← Nat.shiftLeft_add, Nat.add_comm n]
  congr 1
  split
  · rfl
  · simp
set_option maxHeartbeats 6400000 in
set_option maxRecDepth 100000 in
theorem node_seq (W0 : World) (nv : Value) (N : List Nd) (hN : NodesAt W0 nv N) (i : Nat) (ta tb : T) (hi : Is N (.two i ta tb)) (hk3 : (N.getD i default).k = 3) (hC1 : NodeC W0 nv N ta) (hC2 : NodeC W0 nv N tb) : NodeC W0 nv N (.two i ta tb) := by
  intro B sv fv S F w h hb hWB hl hsm hn hT hg
  have hi1 : i < N.length := hi.1
  obtain ⟨na, nc, hnv⟩ : ∃ a c, nv = .slice a N.length c := by obtain ⟨-, -, a, c, e, -⟩ := hN; exact ⟨a, c, e⟩
  subst hnv
  obtain ⟨q, o, rfl, hr0, hok⟩ := (nodes_kept hN hb).at hi1
  have HR0 := Lib.hid (range_kept hr0 ((Below.refl w.heap.size w).alloc (Nat.le_refl _) (.cells #[.int .u64 0, .int .u64 0, .bool false] 80)))
  have HI := Lib.hid (NoI.make (N.getD i default) h hb hWB hT)
  have hB := h.row.lt
  obtain ⟨c0, c1, c2⟩ := h.row.cells
  have hk := two_kind hi.2.1
  have hm : mk (abs N (.two i ta tb)) = join (mk (abs N ta)) (mk (abs N tb)) := by simp only [abs]; rw [if_pos hk3]; rfl
  rw [hm] at hn ⊢
  have hja : (join (mk (abs N ta)) (mk (abs N tb))).s.length = (mk (abs N ta)).s.length + (mk (abs N tb)).s.length := List.length_append
  rw [hja] at hn
  have HC1 := Lib.hid (hC1 B sv fv S F _ HI.out.at_ HI.out.b0 hWB hl hsm (by omega) HI.out.tab hg)
  have oka := ok_mk (abs N ta)
  have okb := ok_mk (abs N tb)
  obtain ⟨ma, hma⟩ : ∃ m, m = mk (abs N ta) := ⟨_, rfl⟩
  obtain ⟨mb, hmb⟩ : ∃ m, m = mk (abs N tb) := ⟨_, rfl⟩
  have HC2 : Hid (∀ (sv3 fv3 : Value) (w3 : World), MkAt w3 B (.slice (some ⟨q, o, none⟩) N.length nc) sv3 fv3 (S ++ ma.s) (F ++ up S.length ma.f) → Below W0.heap.size W0 w3 → Tab w3 → Calls Tryd.prog 32 #[.pointer (some ⟨B, 0, none⟩), .int .i64 tb.root] w3 fun e w' =>
      e = .returned (enV (S.length + ma.s.length) mb) ∧ ∃ sv' fv', MkAt w' B (.slice (some ⟨q, o, none⟩) N.length nc) sv' fv' ((S ++ ma.s) ++ mb.s) ((F ++ up S.length ma.f) ++ up (S.length + ma.s.length) mb.f) ∧ Fr B w3 sv3 fv3 w' sv' fv') := Lib.hid fun sv3 fv3 w3 hM hb3 hT3 => by
    rw [hma] at hM ⊢
    rw [hmb]
    have := hC2 B sv3 fv3 _ _ w3 hM hb3 hWB (by rw [List.length_append, List.length_append, up_length, oka.len, hl]) (small_app hsm (small_up oka (by omega))) (by rw [List.length_append]; omega) hT3 hg
    rw [List.length_append] at this
    exact this
  rw [← hma] at HC1 hn oka ⊢
  rw [← hmb] at hn okb ⊢
  have hka := hk.2.1
  have hkb := hk.2.2
  clear hma hmb hm hi hk hC1 hC2 hN hok h hT hja
  generalize N.getD i default = x at *
  have hdi : decide ((i : Int) < (N.length : Int)) = true := decide_eq_true (by omega)
  have hdi2 : decide (i < N.length) = true := decide_eq_true hi1
  obtain ⟨bx0, bx5, bx6, bx7, bx8⟩ := HI.out.bx.c4
  rw [hk3] at bx0
  rw [hka] at bx5
  rw [hkb] at bx6
  generalize hgn : S.length = n at *
  have HSn := Lib.hid hgn
  have HL := Lib.hid hl
  have HSm := Lib.hid hsm
  have HN := Lib.hid hn
  have HWB := Lib.hid hWB
  have HA := Lib.hid oka
  have HB' := Lib.hid okb
  have HKB := Lib.hid hkb
  clear hr0 hWB hka hkb hk3 hgn hl hsm hn oka okb hb
  obtain ⟨fa, la, ea, hfa, hla, hea⟩ : ∃ f2 l2 e2, f2 = ma.fi <<< n ∧ l2 = ma.la <<< n ∧ e2 = ma.em := ⟨_, _, _, rfl, rfl, rfl⟩
  have hen : enV n ma = .agg (en3 fa la ea) := by rw [hfa, hla, hea]; rfl
  obtain ⟨fb, lb, eb, hfb, hlb, heb⟩ : ∃ f2 l2 e2, f2 = mb.fi <<< (n + ma.s.length) ∧ l2 = mb.la <<< (n + ma.s.length) ∧ e2 = mb.em := ⟨_, _, _, rfl, rfl, rfl⟩
  have hen2 : enV (n + ma.s.length) mb = .agg (en3 fb lb eb) := by rw [hfb, hlb, heb]; rfl
  obtain ⟨f2, l2, e2, hf2, hl2, he2⟩ : ∃ f2 l2 e2, f2 = (join ma mb).fi <<< n ∧ l2 = (join ma mb).la <<< n ∧ e2 = (join ma mb).em := ⟨_, _, _, rfl, rfl, rfl⟩
  have hen3 : enV n (join ma mb) = .agg (en3 f2 l2 e2) := by rw [hf2, hl2, he2]; rfl
  rw [hen3]
  rw [hen] at HC1
  rw [hen2] at HC2
  clear hen hen2
  have HJ : Hid (∀ (sv3 fv3 : Value) (w3 : World), MkAt w3 B (.slice (some ⟨q, o, none⟩) N.length nc) sv3 fv3 ((S ++ ma.s) ++ mb.s) ((F ++ up n ma.f) ++ up (n + ma.s.length) mb.f) → Tab w3 → Calls Tryd.prog 47 #[.pointer (some ⟨B, 0, none⟩), .agg (en3 fa la ea), .agg (en3 fb lb eb)] w3 fun e w' =>
      e = .returned (.agg (en3 f2 l2 e2)) ∧ MkAt w' B (.slice (some ⟨q, o, none⟩) N.length nc) sv3 fv3 (S ++ (join ma mb).s) (F ++ up n (join ma mb).f) ∧ Fr B w3 sv3 fv3 w' sv3 fv3) := Lib.hid fun sv3 fv3 w3 hM hT3 => by
    have hn0 := HN.out
    have hlf : ((F ++ up n ma.f) ++ up (n + ma.s.length) mb.f).length = n + (ma.s.length + mb.s.length) := by rw [List.length_append, List.length_append, up_length, up_length, HA.out.len, HB'.out.len, HL.out]; omega
    have := join_any B _ sv3 fv3 _ _ fa la fb lb ea eb w3 hM (by rw [hlf]; exact hn0) (by rw [hlf, hla]; exact lt_more (shl_lt HA.out.la) (by omega)) (by rw [hfa]; exact up_small HA.out.fi (by omega)) (by rw [hfb]; exact up_small HB'.out.fi (by omega)) (by rw [hlb]; exact up_small HB'.out.la (by omega))
      (small_app (small_app HSm.out (small_up HA.out (by omega))) (small_up HB'.out (by omega))) hT3 hg
    rw [hf2, hl2, he2, join2_fi, join2_la, ← join2 ma mb n F HA.out HL.out, ← hfa, ← hla, ← hfb, ← hlb, ← hea, ← heb]
    rw [List.append_assoc S] at this
    have e3 : (join ma mb).em = (ea && eb) := by rw [hea, heb]; rfl
    rw [e3]
    exact this
  clear hf2 hl2 he2 hen3
  clear hfa hla hea hfb hlb heb
  show Calls Tryd.prog 32 #[.pointer (some ⟨B, 0, none⟩), .int .i64 i] w _
  go_enter Tryd.func32, Tryd.ntmps32
  go_wp2_with (first
      | (refine wpList_load_node rfl _ rfl q (o + i * 9) x rfl HR0.out ?_)
      | (refine wpList_store_node_at rfl _ _ rfl x (w.heap.size + 1) (by simp) rfl rfl ?_)
      | (go_at_call 32; refine HC1.out.mono ?_; rintro e w3 ⟨rfl, sv3, fv3, hM3, hF3⟩; have HM3 := Lib.hid hM3; have HF3 := Lib.hid hF3; have HE3 := Lib.hid (HI.out.er.fr HI.out.at_ hF3); have HBx3 := Lib.hid (HI.out.bx.fr HI.out.at_ hF3); have HB3 := Lib.hid (HI.out.b0.trans (hF3.below.mono HWB.out)); have HT3 := Lib.hid (HI.out.tab.below hF3.below hg); clear hM3 hF3 bx0 bx5 bx6 bx7 bx8; obtain ⟨b0, b5, b6, b7, b8⟩ := HBx3.out.c4; have hl3 := HBx3.out.lt; have hl4 := HE3.out.lt; rw [HKB.out] at b6)
      | (refine wpList_lay_ends rfl _ _ rfl fa la ea rfl rfl ?_))
  clear HC1
  generalize hgb : w.heap.size = b at *
  have HGB := Lib.hid hgb
  clear hgb
  have hal := (Below.refl w3.heap.size w3).alloc (Nat.le_refl _) (.cells #[.int .u64 fa, .int .u64 la, .bool ea] 80)
  have HM4 := Lib.hid (HM3.out.below hal)
  have HF4 := Lib.hid (HF3.out.trans (Fr.of_below _ _ hal HM3.out.row.lt))
  have HBx4 := Lib.hid (HBx3.out.below hal)
  have HE4 := Lib.hid (HE3.out.below hal)
  have HR4 : Hid (ERow (w3.alloc (.cells #[.int .u64 fa, .int .u64 la, .bool ea] 80)) w3.heap.size fa la ea) := Lib.hid (ERow.new w3 fa la ea)
  have HT4 := Lib.hid (HT3.out.below hal (by have := HM3.out.row.lt; omega))
  have HB4 := Lib.hid (HB3.out.trans (hal.mono HB3.out.size))
  clear HM3 HF3 HBx3 HE3 HT3 HB3 b0 b5 b6 b7 b8 hal hl3 hl4
  generalize (w3.alloc (.cells #[.int .u64 fa, .int .u64 la, .bool ea] 80)) = w4 at *
  generalize w3.heap.size = r at *
  clear w3
  have hput : ∀ a : Act, a.put none undef = a := fun _ => rfl
  rw [hput]
  refine region_mix [(false, 0), (false, 1), (false, 2), (false, 3), (false, 4), (true, 5), (true, 6)] (fun w' => w'.heap[b + 1]? = w4.heap[b + 1]? ∧ w'.heap[r]? = w4.heap[r]?) (by kernel_rfl) (by kernel_rfl) ⟨rfl, rfl⟩ ?_
  simp only [planOps, List.map_cons, List.map_nil, List.getD_cons_zero, List.getD_cons_succ, List.length_cons, List.length_nil, List.drop_succ_cons, List.drop_zero]
  refine mix_seg (seg := [_, _, _, _, _]) rfl ⟨rfl, rfl⟩ ?_
  intro ι hι F' hF'
  have hbx : ∀ n, BoxAt (F' n) (b + 1) x := fun n => ⟨((hF' n).1).trans HBx4.out.row⟩
  have g6 : ∀ n, (F' n).cell? ⟨b + 1, 6, none⟩ = some (.int .i64 x.b) := fun n => (hbx n).c4.2.2.1
  rw [HKB.out] at g6
  have GR : Hid (∀ w', (∃ n, w' = F' n) → w'.heap[r]? = some (.cells (en3 fa la ea) 80 (0, 0))) := Lib.hid (fun w' ⟨n, e⟩ => by rw [e, (hF' n).2]; exact HR4.out)
  clear hbx
  repeat (first | (go_big_quiet_step (fail)) | (refine BigFrame.wpQuiet_want rfl (fun K hK => ?_); refine quiet_load_row 80 (.tmp 6) rfl r rfl 80 (en3 fa la ea) (0, 0) _ GR.out Tryd.underlying80 rfl (sizeEnds _ _ _) ?_; refine hK _ ?_; clear hK K; simp only [Act.put, List.setIfInBounds_toArray, List.set_cons_zero, List.set_cons_succ]))
  refine wpQuiet_nil ?_
  clear GR g6 hF' hι F'
  refine mix_eff (fun K hK => ?_)
  have HC3 := Lib.hid (HC2.out sv3 fv3 w4.drew HM4.out.drewn (HB4.out.drew) HT4.out)
  clear HC2
  go_wp2_with (go_at_call 32; refine HC3.out.mono ?_; rintro e w5 ⟨rfl, sv5, fv5, hM5, hF5⟩; have HM5 := Lib.hid hM5; have HF5 := Lib.hid hF5; clear hM5 hF5)
  have hcb : w5.heap[b + 1]? = w4.heap[b + 1]? := (HF5.out.keep HM4.out.drewn HBx4.out.row (by decide) (by decide) (by decide)).trans HBx4.out.row.symm
  have hcr : w5.heap[r]? = w4.heap[r]? := (HF5.out.keep HM4.out.drewn HR4.out (by decide) (by decide) (by decide)).trans HR4.out.symm
  refine mix_on hK ⟨hcb, hcr⟩ ?_
  clear hK K HC3
  have HE5 := Lib.hid (ERow.fr (w := w4.drew) HE4.out HM4.out.drewn HF5.out)
  have HT5 := Lib.hid (Tab.below (w := w4.drew) HT4.out HF5.out.below hg)
  have HF6 := Lib.hid (HF4.out.drew.trans HF5.out)
  refine mix_eff (fun K hK => ?_)
  have HJ5 := Lib.hid (HJ.out sv5 fv5 w5 HM5.out HT5.out)
  clear HJ
  go_wp2_with (go_at_call 47; refine HJ5.out.mono ?_; rintro e w7 ⟨rfl, hM7, hF7⟩; have HM7 := Lib.hid hM7; have HF7 := Lib.hid hF7; clear hM7 hF7)
  have hcb7 : w7.heap[b + 1]? = w4.heap[b + 1]? := (HF7.out.keep HM5.out (hcb.trans HBx4.out.row) (by decide) (by decide) (by decide)).trans HBx4.out.row.symm
  have hcr7 : w7.heap[r]? = w4.heap[r]? := (HF7.out.keep HM5.out (hcr.trans HR4.out) (by decide) (by decide) (by decide)).trans HR4.out.symm
  refine mix_on hK ⟨hcb7, hcr7⟩ ?_
  clear hK K hcb hcr hcb7 hcr7 HJ5
  have HE7 := Lib.hid (HE5.out.fr HM5.out HF7.out)
  show wpList _ _ _ _ _ _
  go_wp2_with (refine wpList_put_ends rfl _ _ rfl b 0 0 false f2 l2 e2 rfl rfl HE7.out ?_; intro hE8; have HE8 := Lib.hid hE8; clear hE8)
  refine NoPanic.normal ?_
  go_wp2
  rw [← HGB.out] at HE8 ⊢
  have hfin := HI.out.fin (f := f2) (l := l2) (e := e2) (by rw [HGB.out]; exact hB) HM7.out (HF6.out.trans HF7.out)
  exact bodyPost_ret (v := .agg (en3 f2 l2 e2)) (results_cell_row (p := 4) Tryd.results32 _ _ w.heap.size 80 _ (0, 0) _ rfl HE8.out Tryd.underlying80 rfl (sizeEnds _ _ _)) rfl ⟨rfl, sv5, fv5, hfin.1, hfin.2⟩
end Go.Proofs.YtcgllipcnmlkbaaDoor
