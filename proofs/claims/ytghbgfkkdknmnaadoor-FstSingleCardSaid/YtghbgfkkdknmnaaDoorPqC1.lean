/- The search's goOn. -/
import Derived.Test.YtghbgfkkdknmnaaDoorPqC0
namespace Go.Proofs.YtghbgfkkdknmnaaDoor
open Go.RowKit Sets Nf Fs
namespace Ft
/-- The machine lies below s: its lists stay where they are. -/
def MLow (s : Nat) (w : World) (x : Ma) (m : Mc) : Prop := ∀ a, a < m.fo.length → ∃ b o x' c, x.oa = some ⟨b, o, none⟩ ∧ ∀ W, Below s w W → W.cell? ⟨b, o + a, none⟩ = some (.slice x' (m.fo.getD a []).length c) ∧ NumsIn W x' (m.fo.getD a [])
theorem MLow.of {s : Nat} {w0 w : World} {x : Ma} {m : Mc} (h : MAt w0 x m) (hs : w0.heap.size ≤ s) (hb : Below w0.heap.size w0 w) : MLow s w x m := fun a ha => by
  obtain ⟨b, o, x', c, e, hc, hn⟩ := h.fo a ha
  refine ⟨b, o, x', c, e, fun W hW => ?_⟩
  have h2 := hb.trans (hW.mono hs)
  exact ⟨(h2.cell (World.block_lt_of_cell? _ _ hc)).trans hc, hn.kept h2⟩
theorem MLow.go {s : Nat} {w w' : World} {x : Ma} {m : Mc} (h : MLow s w x m) (hb : Below s w w') : MLow s w' x m := fun a ha => by
  obtain ⟨b, o, x', c, e, hc⟩ := h a ha
  exact ⟨b, o, x', c, e, fun W hW => hc W (hb.trans hW)⟩
/-- A spot's list, as numbers. -/
def lN (m : Mc) (a : Nat) : List Nat := (m.fo.getD a []).map Int.toNat
theorem lN_mem (m : Mc) (a k : Nat) : k ∈ lN m a ↔ (foN m a).testBit k = true := by
  unfold lN foN grp
  rw [ofN_testBit, List.contains_iff_mem]
theorem lN_len (m : Mc) (a : Nat) : (lN m a).length = (m.fo.getD a []).length := by unfold lN; simp
theorem lN_get (m : Mc) (a i : Nat) (h : i < (m.fo.getD a []).length) : (lN m a).getD i 0 = ((m.fo.getD a []).getD i 0).toNat := by
  unfold lN
  generalize m.fo.getD a [] = L at *
  rw [List.getD_eq_getElem?_getD, List.getElem?_map, List.getElem?_eq_getElem h, List.getD_eq_getElem?_getD, List.getElem?_eq_getElem h]; rfl
theorem Fit.goP {m : Mc} (hn : m.sp.length ≤ 100) {a b how : Nat} (hq : Q2 m how a b) : ∀ (l : List Nat) (s : St), Fit m s → (∀ k ∈ l, (foN m a).testBit k = true ∧ k < m.sp.length) → Fit m (Fs.goP m b how s l)
  | [], _, h, _ => h
  | k :: l, _, h, hl => Fit.goP hn hq l _ (h.goS hn hq (hl k (List.mem_cons_self ..)).1 (hl k (List.mem_cons_self ..)).2) (fun i hi => hl i (List.mem_cons_of_mem _ hi))
set_option maxHeartbeats 12800000 in
set_option maxRecDepth 100000 in
theorem goOn_any (s mb gF gM gB gO : Nat) (x : Ma) (m : Mc) (sv : Value) (S : St) (p : Pr) (how : Nat) (w : World) (h : SeAt s mb gF gM gB gO x m sv S w) (hs : s ≤ w.heap.size) (hn : m.sp.length ≤ 100) (hr : Rt m) (hf : Fine m) (hlow : MLow s w x m) (hp1 : p.1 < m.sp.length) (hp2 : p.2 < m.sp.length) (hfit : Fit m S) (hq : Q2 m how p.1 p.2) (hT : Tab w) (hgs : 0 < s) :
    Calls Tryd.prog 31 #[.pointer (some ⟨mb, 0, none⟩), .agg (prC p), .int .i64 (how : Nat)] w fun e w' => e = .returned (.tuple #[]) ∧ ∃ sv', SeAt s mb gF gM gB gO x m sv' (goP m p.2 how S (lN m p.1)) w' ∧ Fz mb gB gO w sv w' sv' := by
  have HS := Lib.hid hs
  have HN := Lib.hid hn
  have HR := Lib.hid hr
  have HP1 := Lib.hid hp1
  have HP2 := Lib.hid hp2
  have HT := Lib.hid hT
  have HTG : Hid (0 < s) := Lib.hid hgs
  have HQ0 := Lib.hid h
  obtain ⟨lb, lo, lx, lc, hoa, hLW⟩ := hlow p.1 (by rw [hr.fol]; exact hp1)
  have HLW := Lib.hid hLW
  have HFIT : Hid (∀ j, Fit m (goP m p.2 how S ((lN m p.1).take j))) := Lib.hid (fun j => Fit.goP hn hq _ S hfit (fun k hk => by
    have hk := (lN_mem m p.1 k).1 (List.mem_of_mem_take hk)
    exact ⟨hk, fo_lt hr hk⟩))
  have HQQ := Lib.hid hq
  have HLR : Hid ((m.fo.getD p.1 []).length ≤ 1000 ∧ ∀ i, i < (m.fo.getD p.1 []).length → ∃ k : Nat, (m.fo.getD p.1 []).getD i 0 = k ∧ k < m.sp.length ∧ (foN m p.1).testBit k = true ∧ (lN m p.1).getD i 0 = k) := Lib.hid (by
    have hm : m.fo.getD p.1 [] ∈ m.fo := getD_mem (by rw [hr.fol]; exact hp1)
    refine ⟨(hf.each _ hm).1, fun i hi => ?_⟩
    have h1 := (rise_up (hr.foR _ hm)).2 _ (getD_mem (d := 0) hi)
    refine ⟨((m.fo.getD p.1 []).getD i 0).toNat, by omega, by omega, ?_, lN_get m p.1 i hi⟩
    rw [← lN_mem, ← lN_get m p.1 i hi]
    exact getD_mem (by rw [lN_len]; exact hi))
  have HSNC : Hid (∀ i, i < (m.fo.getD p.1 []).length → goP m p.2 how S ((lN m p.1).take (i + 1)) = goS m p.2 how (goP m p.2 how S ((lN m p.1).take i)) ((lN m p.1).getD i 0)) := Lib.hid (fun i hi => goP_snoc m p.2 how S _ i (by rw [lN_len]; exact hi))
  have HEND : Hid (goP m p.2 how S ((lN m p.1).take (m.fo.getD p.1 []).length) = goP m p.2 how S (lN m p.1)) := Lib.hid (by rw [List.take_of_length_le (by rw [lN_len]; exact Nat.le_refl _)])
  have HFOL : Hid (m.fo.length = m.sp.length) := Lib.hid hr.fol
  obtain ⟨l, hl⟩ : ∃ l, m.fo.getD p.1 [] = l := ⟨_, rfl⟩
  rw [hl] at HLW HLR HSNC HEND
  have HLT0 : Hid (mb < w.heap.size ∧ gB < w.heap.size ∧ gO < w.heap.size ∧ ∀ g, sv.ownBlock = some g → g < w.heap.size) := Lib.hid ⟨h.lt, h.mapB.lt, h.mapO.lt, fun g hg => (h.own.lt g hg).2⟩
  clear hs hn hr hf hlow hp1 hp2 hfit hq hT h hLW hgs hl
  go_enter Tryd.func31, Tryd.ntmps31
  go_upto_region 1 with fail
  have HA1 : Hid (Below w.heap.size w (w.alloc (.cells (prC p) 62))) := Lib.hid ((Below.refl _ _).alloc (Nat.le_refl _) _)
  have HP4 := Lib.hid (PrB.new w p)
  have HQ1 := Lib.hid (HQ0.out.stay HA1.out HS.out)
  obtain ⟨b4, hb4⟩ : ∃ b, Hid (w.heap.size = b) := ⟨_, Lib.hid rfl⟩
  have HF1 : Hid (Fz mb gB gO w sv (w.alloc (.cells (prC p) 62)) sv) := Lib.hid (Fz.of_below mb gB gO sv HA1.out)
  have HOFF : Hid (Off mb gB gO sv b4) := Lib.hid (by
    rw [← hb4.out]
    have h := HLT0.out
    exact ⟨by omega, by omega, by omega, fun e => by have := h.2.2.2 _ e; omega⟩)
  rw [hb4.out] at HP4 ⊢
  have HS1 : Hid (b4 < (w.alloc (.cells (prC p) 62)).heap.size) := Lib.hid HP4.out.lt
  generalize w.alloc (.cells (prC p) 62) = w1 at *
  have c2 : w1.cell? ⟨mb, 2, none⟩ = some (.slice x.oa m.fo.length x.oc) := HQ1.out.cell 2 _ rfl
  have hpi : ((p.1 : Nat) : Int) < (m.fo.length : Int) := by rw [HFOL.out]; have := HP1.out; omega
  have cl := (HLW.out w1 (HF1.out.below HS.out HQ0.out.low.1 HQ0.out.low.2.2.2.1 HQ0.out.low.2.2.2.2 (fun g hg => (HQ0.out.own.lt g hg).1))).1
  rw [hoa] at c2
  have HMB := Lib.hid HQ1.out.lt
  have HCL := Lib.hid (World.block_lt_of_cell? _ _ cl)
  have cp := HP4.out.c0
  refine region_mix0 [(false, 0), (false, 1), (false, 2), (false, 3), (false, 4), (false, 5), (false, 6), (false, 7), (false, 8), (false, 9), (false, 10)] (fun w' => w' = w1.drew) (by kernel_rfl) (by kernel_rfl) rfl ?_
  simp only [planOps, List.map_cons, List.map_nil, List.getD_cons_zero, List.getD_cons_succ]
  refine mix_seg (seg := [_, _, _, _, _, _, _, _, _, _, _]) (rest := []) rfl rfl ?_
  intro ι hι F hF
  have f1 : ∀ n, (F n).cell? ⟨mb, 2, none⟩ = some (.slice (some ⟨lb, lo, none⟩) m.fo.length x.oc) := fun n => by rw [hF n]; exact c2
  have f2 : ∀ n, (F n).cell? ⟨b4, 0, none⟩ = some (.int .i64 (p.1 : Nat)) := fun n => by rw [hF n]; exact cp
  have f3 : ∀ n, (F n).cell? ⟨lb, lo + p.1, none⟩ = some (.slice lx l.length lc) := fun n => by rw [hF n]; exact cl
  clear hF
  iterate 11 (go_big_quiet_step (fail))
  refine wpQuiet_nil ?_
  clear f1 f2 f3 hι F
  refine NoPanic.normal (NoPanic.normal ?_)
  have HD1 : Hid (Below w1.heap.size w1 w1.drew) := Lib.hid ((Below.refl _ _).drew)
  have HSW1 : Hid (s ≤ w1.heap.size) := Lib.hid (Nat.le_trans HS.out HF1.out.size)
  have HQ2 := Lib.hid (HQ1.out.stay HD1.out HSW1.out)
  have HF2 : Hid (Fz mb gB gO w sv w1.drew sv) := Lib.hid (HF1.out.trans (Fz.of_below mb gB gO sv HD1.out))
  have HP42 := Lib.hid (HP4.out.stay HD1.out)
  clear HQ1 HF1 HP4 HD1 HSW1 HS1 c2 cl cp HMB HCL HA1 HLT0
  generalize w1.drew = w2 at *
  clear w1
  go_upto_region 2 with fail
  go_loopw [19] (fun i wr => ∃ (j : Nat) (svj : Value), i = .int .i64 j ∧ j ≤ l.length ∧ Hid (SeAt s mb gF gM gB gO x m svj (goP m p.2 how S ((lN m p.1).take j)) wr) ∧ Hid (Fz mb gB gO w sv wr svj) ∧ Hid (PrB wr b4 p) ∧ Hid (Off mb gB gO svj b4)) (fun i _ => ((l.length : Int) - intOf i).toNat)
  case atStart => exact ⟨0, sv, rfl, Nat.zero_le _, HQ2, HF2, HP42, HOFF⟩
  case round =>
    obtain ⟨j, svj, rfl, hj, HQ, HF, HP, HO⟩ := hrel
    generalize hwr : wr = w4 at *
    clear hwr wr HQ2 HF2 HP42 HOFF w2
    by_cases hlt : j < l.length
    · have hdd : decide ((j : Int) < (l.length : Int)) = true := decide_eq_true (by omega)
      have hd2 : decide (j < l.length) = true := decide_eq_true hlt
      have hji : (j : Int) < (l.length : Int) := by omega
      have HW1 : Hid (wrap64 ((j : Int) + 1) = ((j + 1 : Nat) : Int)) := Lib.hid (nat_wrap (by have := HLR.out.1; omega))
      have HJ := Lib.hid hlt
      have HBW : Hid (Below s w w4) := Lib.hid (HF.out.below HS.out HQ0.out.low.1 HQ0.out.low.2.2.2.1 HQ0.out.low.2.2.2.2 (fun g hg => (HQ0.out.own.lt g hg).1))
      obtain ⟨b, o, rfl, hcl⟩ := (HLW.out w4 HBW.out).2 j hlt
      obtain ⟨k, hk, hkl, hkb, hkg⟩ := HLR.out.2 j hlt
      rw [hk] at hcl
      have HKL := Lib.hid hkl
      have HKB := Lib.hid hkb
      have HSJ := Lib.hid (HSNC.out j hlt)
      rw [hkg] at HSJ
      have HFJ := Lib.hid (HFIT.out j)
      generalize goP m p.2 how S ((lN m p.1).take j) = Sj at *
      have cp1 := HP.out.c1
      clear hlt hk hkl hkb hkg
      go_upto_region 5 with fail
      have HA5 : Hid (Below w4.heap.size w4 (w4.alloc (.cells (prC (k, p.2)) 62))) := Lib.hid ((Below.refl _ _).alloc (Nat.le_refl _) _)
      have HPB := Lib.hid (PrB.new w4 (k, p.2))
      change Code.wp _ _ _ _ (w4.alloc (.cells (prC (k, p.2)) 62))
      have HSW : Hid (s ≤ w4.heap.size) := Lib.hid (Nat.le_trans HS.out HF.out.size)
      have HQ5 := Lib.hid (HQ.out.stay HA5.out HSW.out)
      have HF5 : Hid (Fz mb gB gO w sv _ svj) := Lib.hid (HF.out.trans (Fz.of_below mb gB gO svj HA5.out))
      have HP5 := Lib.hid (HP.out.stay HA5.out)
      obtain ⟨b8, hb8⟩ : ∃ b, Hid (w4.heap.size = b) := ⟨_, Lib.hid rfl⟩
      have HS5 : Hid (s ≤ b8) := Lib.hid (by rw [← hb8.out]; exact HSW.out)
      rw [hb8.out] at HPB ⊢
      generalize w4.alloc (.cells (prC (k, p.2)) 62) = w5 at *
      clear HA5 HQ HF HP HSW hcl hb8 cp1 HBW w4
      obtain ⟨r, hr⟩ : ∃ r : Pr, Hid ((k, p.2) = r) := ⟨_, Lib.hid rfl⟩
      rw [hr.out] at HPB
      have HD5 : Hid (Below w5.heap.size w5 w5.drew) := Lib.hid ((Below.refl _ _).drew)
      have HSW5 : Hid (s ≤ w5.heap.size) := Lib.hid (Nat.le_trans HS5.out (Nat.le_of_lt HPB.out.lt))
      have HQ6 := Lib.hid (HQ5.out.stay HD5.out HSW5.out)
      have HF6 : Hid (Fz mb gB gO w sv w5.drew svj) := Lib.hid (HF5.out.trans (Fz.of_below mb gB gO svj HD5.out))
      have HP6 := Lib.hid (HP5.out.stay HD5.out)
      have HPB6 := Lib.hid (HPB.out.stay HD5.out)
      refine region_mix [(false, 0), (false, 1), (false, 2), (false, 3), (false, 4), (false, 5), (false, 6)] (fun w' => w' = w5.drew) (by kernel_rfl) (by kernel_rfl) rfl ?_
      clear HQ5 HF5 HP5 HPB HD5 HSW5
      generalize w5.drew = w6 at *
      clear w5
      simp only [planOps, List.map_cons, List.map_nil, List.getD_cons_zero, List.getD_cons_succ, List.length_cons, List.length_nil, List.drop_succ_cons, List.drop_zero]
      refine mix_seg (seg := [_, _, _, _, _, _, _]) (rest := []) rfl rfl ?_
      intro ι hι F hF
      have f1 : ∀ n, (F n).cell? ⟨mb, 8, none⟩ = some (.map (some gO)) := fun n => by rw [hF n]; exact HQ6.out.cell 8 _ rfl
      have f2 := Lib.hid (fun n => (PrB.of HPB6.out (by rw [hF n]) : PrB (F n) b8 r))
      have f3 : ∀ n, (Instr.lookup 57 (.map (some gO)) (.agg (prC r)) false).run Tryd.prog (F n) = .ok (.int .i64 (Sj.O r : Nat)) (F n) := fun n => by rw [hF n]; exact HQ6.out.mapO.look r
      clear hF
      iterate 4 (go_big_quiet_step (fail))
      refine BigFrame.wpQuiet_want rfl (fun K hK => ?_); refine quiet_load_row 62 _ rfl b8 rfl 62 (prC r) (0, 0) _ (fun w' ⟨n, e⟩ => e ▸ (f2.out n).row) Tryd.underlying62 rfl (sizePr r) ?_; refine hK _ ?_; clear hK K; simp only [Act.put, List.setIfInBounds_toArray, List.set_cons_zero, List.set_cons_succ]
      iterate 2 (go_big_quiet_step (fail))
      refine wpQuiet_nil ?_
      clear f1 f2 f3 hι F
      show wpList _ _ _ _ _ _
      have HGS : Hid (goS m p.2 how Sj k = if Sj.O r < how then entP m k how (foN m p.2) ⟨Sj.B, upd Sj.O r how, Sj.op⟩ else Sj) := Lib.hid (by rw [← hr.out]; rfl)
      by_cases hlt : Sj.O r < how
      · have hd3 : decide (((Sj.O r : Nat) : Int) < ((how : Nat) : Int)) = true := decide_eq_true (by omega)
        have hd4 : decide (Sj.O r < how) = true := decide_eq_true hlt
        have HSE : Hid (goP m p.2 how S ((lN m p.1).take (j + 1)) = entP m k how (foN m p.2) ⟨Sj.B, upd Sj.O r how, Sj.op⟩) := Lib.hid (HSJ.out.trans (HGS.out.trans (if_pos hlt)))
        clear hlt HGS
        go_wp2_with fail
        refine NoPanic.normal ?_
        go_upto_region 6 with fail
        have HD6 : Hid (Below w6.heap.size w6 w6.drew) := Lib.hid ((Below.refl _ _).drew)
        have HSW6 : Hid (s ≤ w6.heap.size) := Lib.hid (Nat.le_trans HS5.out (Nat.le_of_lt HPB6.out.lt))
        have HQ7 := Lib.hid (HQ6.out.stay HD6.out HSW6.out)
        have HF7 : Hid (Fz mb gB gO w sv w6.drew svj) := Lib.hid (HF6.out.trans (Fz.of_below mb gB gO svj HD6.out))
        have HP7 := Lib.hid (HP6.out.stay HD6.out)
        have HPB7 := Lib.hid (HPB6.out.stay HD6.out)
        refine region_mix [(false, 0), (false, 1), (false, 2), (false, 3), (false, 4), (false, 5)] (fun w' => w' = w6.drew) (by kernel_rfl) (by kernel_rfl) rfl ?_
        clear HQ6 HF6 HP6 HPB6 HD6 HSW6
        generalize w6.drew = w7 at *
        clear w6
        simp only [planOps, List.map_cons, List.map_nil, List.getD_cons_zero, List.getD_cons_succ, List.length_cons, List.length_nil, List.drop_succ_cons, List.drop_zero]
        refine mix_seg (seg := [_, _, _, _, _, _]) (rest := []) rfl rfl ?_
        intro ι hι F hF
        have f1 : ∀ n, (F n).cell? ⟨mb, 8, none⟩ = some (.map (some gO)) := fun n => by rw [hF n]; exact HQ7.out.cell 8 _ rfl
        have f2 := Lib.hid (fun n => (PrB.of HPB7.out (by rw [hF n]) : PrB (F n) b8 r))
        clear hF
        iterate 4 (go_big_quiet_step (fail))
        refine BigFrame.wpQuiet_want rfl (fun K hK => ?_); refine quiet_load_row 62 _ rfl b8 rfl 62 (prC r) (0, 0) _ (fun w' ⟨n, e⟩ => e ▸ (f2.out n).row) Tryd.underlying62 rfl (sizePr r) ?_; refine hK _ ?_; clear hK K; simp only [Act.put, List.setIfInBounds_toArray, List.set_cons_zero, List.set_cons_succ]
        iterate 1 (go_big_quiet_step (fail))
        refine wpQuiet_nil ?_
        clear f1 f2 hι F
        show wpList _ _ _ _ _ _
        obtain ⟨w8, hrun, hM8, hbu8⟩ := HQ7.out.mapO.put r how
        refine wpList_putM rfl _ _ _ 57 rfl (.map (some gO)) (.agg (prC r)) (.int .i64 (how : Nat)) rfl rfl rfl hrun ?_
        refine wpList_nil ?_
        refine NoPanic.normal ?_
        rw [hput]
        have HQ8 := Lib.hid (HQ7.out.putO hM8 hbu8)
        have HF8 : Hid (Fz mb gB gO w sv w8 svj) := Lib.hid (HF7.out.trans (Fz.putO svj hbu8))
        have HP8 : Hid (PrB w8 b4 p) := Lib.hid (HP7.out.of (hbu8.block b4 HP7.out.lt HO.out.2.2.1))
        have HFT8 : Hid (Fit m ⟨Sj.B, upd Sj.O r how, Sj.op⟩) := Lib.hid ⟨⟨HFJ.out.1.b, HFJ.out.1.o⟩, HFJ.out.2⟩
        have HSW8 : Hid (s ≤ w8.heap.size) := Lib.hid (Nat.le_trans HS.out HF8.out.size)
        clear hrun hM8 hbu8 HQ7 HF7 HPB7 HP7 w7
        go_upto_region 7 with fail
        have HD8 : Hid (Below w8.heap.size w8 w8.drew) := Lib.hid ((Below.refl _ _).drew)
        have HQ9 := Lib.hid (HQ8.out.stay HD8.out HSW8.out)
        have HF9 : Hid (Fz mb gB gO w sv w8.drew svj) := Lib.hid (HF8.out.trans (Fz.of_below mb gB gO svj HD8.out))
        have HP9 := Lib.hid (HP8.out.stay HD8.out)
        have HSW9 : Hid (s ≤ w8.drew.heap.size) := Lib.hid HSW8.out
        refine region_mix [(false, 0), (false, 1), (false, 2), (false, 3), (false, 4), (false, 5), (false, 6), (false, 7), (false, 8), (false, 9), (false, 10)] (fun w' => w' = w8.drew) (by kernel_rfl) (by kernel_rfl) rfl ?_
        clear HQ8 HF8 HP8 HD8 HSW8
        generalize w8.drew = w9 at *
        clear w8
        have HFG : Hid ((foR m).getD p.2 0 = foN m p.2) := Lib.hid (foR_get m p.2 HP2.out)
        have HRM := Lib.hid (HQ9.out.fol.range (i := p.2) (by rw [foR_len]; exact HP2.out))
        rw [HFG.out] at HRM
        have hp2i : ((p.2 : Nat) : Int) < (m.sp.length : Int) := by have := HP2.out; omega
        simp only [planOps, List.map_cons, List.map_nil, List.getD_cons_zero, List.getD_cons_succ, List.length_cons, List.length_nil, List.drop_succ_cons, List.drop_zero]
        refine mix_seg (seg := [_, _, _, _, _, _, _, _, _, _, _]) (rest := []) rfl rfl ?_
        intro ι hι F hF
        have f1 : ∀ n, (F n).cell? ⟨mb, 5, none⟩ = some (.slice (some ⟨gF, 0, none⟩) m.sp.length m.sp.length) := fun n => by rw [hF n]; exact HQ9.out.cell 5 _ rfl
        have f2 : ∀ n, (F n).cell? ⟨b4, 1, none⟩ = some (.int .i64 (p.2 : Nat)) := fun n => by rw [hF n]; exact HP9.out.c1
        have f3 := Lib.hid (fun n => (by rw [hF n]; exact HRM.out : (F n).rangeAt gF (p.2 * 4) (setC (foN m p.2)).toList))
        clear hF
        iterate 9 (go_big_quiet_step (fail))
        refine BigFrame.wpQuiet_want rfl (fun K hK => ?_); refine quiet_load_mid 41 _ rfl gF (p.2 * 4) (by first | rfl | (simp; done)) (setC (foN m p.2)).toList _ (fun w' ⟨n, e⟩ => e ▸ f3.out n) Tryd.underlying41 rfl (sizeSetL _) ?_; refine hK _ ?_; clear hK K; simp only [Act.put, List.setIfInBounds_toArray, List.set_cons_zero, List.set_cons_succ]
        rw [show (setC (foN m p.2)).toList.toArray = setC (foN m p.2) from rfl]
        iterate 1 (go_big_quiet_step (fail))
        refine wpQuiet_nil ?_
        clear f1 f2 f3 hι F
        show wpList _ _ _ _ _ _
        have HTW : Hid (Tab w9) := Lib.hid (HT.out.below (HF9.out.below HS.out HQ0.out.low.1 HQ0.out.low.2.2.2.1 HQ0.out.low.2.2.2.2 (fun g hg => (HQ0.out.own.lt g hg).1)) HTG.out)
        have HEN := Lib.hid (enter_any s mb gF gM gB gO x m svj ⟨Sj.B, upd Sj.O r how, Sj.op⟩ k (foN m p.2) how w9 HQ9.out HSW9.out HN.out HKL.out HFT8.out (ok_more HQQ.out HKB.out) HTW.out)
        go_wp2_with (go_at_call 57; refine HEN.out.mono ?_; rintro e w10 ⟨rfl, sv2, hq10, hf10⟩; have HQ10 := Lib.hid hq10; have HF10 := Lib.hid hf10; clear hq10 hf10)
        refine NoPanic.normal ?_
        go_wp2_with fail
        go_roundw
        case rel => exact ⟨j + 1, sv2, by rw [HW1.out], HJ.out, Lib.hid (by rw [HSE.out]; exact HQ10.out), Lib.hid (HF9.out.trans HF10.out), Lib.hid (HP9.out.of (HF10.out.keep HO.out HP9.out.lt)), Lib.hid (HF10.out.off HO.out HP9.out.lt)⟩
        case measure => rw [HW1.out]; exact meas9 HJ.out
      · have hd3 : decide (((Sj.O r : Nat) : Int) < ((how : Nat) : Int)) = false := decide_eq_false (by omega)
        have hd4 : decide (Sj.O r < how) = false := decide_eq_false hlt
        have HSE : Hid (goP m p.2 how S ((lN m p.1).take (j + 1)) = Sj) := Lib.hid (HSJ.out.trans (HGS.out.trans (if_neg hlt)))
        clear hlt HGS
        go_wp2_with fail
        refine NoPanic.normal ?_
        go_wp2_with fail
        go_roundw
        case rel => exact ⟨j + 1, svj, by rw [HW1.out], HJ.out, Lib.hid (by rw [HSE.out]; exact HQ6.out), HF6, HP6, HO⟩
        case measure => rw [HW1.out]; exact meas9 HJ.out
    · have hdd : decide ((j : Int) < (l.length : Int)) = false := decide_eq_false (by omega)
      have hd2 : decide (j < l.length) = false := decide_eq_false hlt
      have HE : Hid (goP m p.2 how S ((lN m p.1).take j) = goP m p.2 how S (lN m p.1)) := Lib.hid (by rw [show j = l.length by omega]; exact HEND.out)
      rw [HE.out] at HQ
      go_wp2_with fail
      go_end0
      exact ⟨rfl, svj, HQ.out, HF.out⟩
end Ft
end Go.Proofs.YtghbgfkkdknmnaaDoor
