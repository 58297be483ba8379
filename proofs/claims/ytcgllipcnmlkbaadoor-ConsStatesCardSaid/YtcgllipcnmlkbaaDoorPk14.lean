/- Of: the places. -/
import Derived.Test.YtcgllipcnmlkbaaDoorPk13
namespace Go.Proofs.YtcgllipcnmlkbaaDoor
open Go.RowKit Sets Tr Rx Sp
theorem parts_take (N : List Nd) (R : List (Int × Bool)) (j : Nat) (hj : j < R.length) : (parts N R).take (j + 1) = (parts N R).take j ++ [(abs N (tr N (R.getD j default).1.toNat), (R.getD j default).2)] := by
  unfold parts
  rw [← List.map_take, ← List.map_take, take_snoc R j hj, List.map_append]
  rfl
theorem of_len {N : List Nd} {R : List (Int × Bool)} (h : Right N R) (hp : plOf N R ≤ 63) : (Sp.md (parts N R)).s.length = plOf N R := by
  have e : plOf N R = min ((parts N R).map fun x => Tz.plXz x.1).sum cap := by
    unfold plOf places parts
    rw [rightB_true h, if_pos rfl, List.map_map]
    congr 2
    refine List.map_congr_left (fun p hp => ?_)
    have := h.rts p.1 (List.mem_map_of_mem hp)
    obtain ⟨t, ht, hr⟩ := is_of_low h.low p.1.toNat (by omega)
    simp only [Function.comp]
    rw [← hr, tr_of ht]
    exact Tz.pl_Xz h.snd t ht
  rw [e] at hp ⊢
  unfold cap at *
  rw [Sp.md_places _ (by omega)]
  omega
theorem MadeAt.of {w : World} {B : Nat} {nv sv fv fi la em nt : Value} {m : Sp.Md} (h : MdAt w B nv sv fv m.s m.f fi m.fi la m.la em m.em nt m.nt) {A : Nat} (hA : A ≤ B) : MadeAt A w sv fi la fv em nt m :=
  ⟨own_mono h.at_.os (by omega), own_mono h.o1 (by omega), own_mono h.o2 (by omega), own_mono h.at_.of (by omega), own_mono h.o3 (by omega), own_mono h.o4 (by omega)⟩
theorem MdAt.first {w : World} (nv : Value) : MdAt ((w.alloc (.cells #[nv, .slice none 0 0, .slice none 0 0] 76)).alloc (.cells nilMd 46)) w.heap.size nv (.slice none 0 0) (.slice none 0 0) [] [] (.slice none 0 0) [] (.slice none 0 0) [] (.slice none 0 0) [] (.slice none 0 0) [] := by
  refine ⟨⟨?_, World.ownsRow_nil _ _ _ _, World.ownsRow_nil _ _ _ _⟩, ?_, World.ownsRow_nil _ _ _ _, World.ownsRow_nil _ _ _ _, World.ownsRow_nil _ _ _ _, World.ownsRow_nil _ _ _ _, ?_, ?_, ?_, ?_⟩
  · unfold MRow
    rw [Below.heap_alloc _ _ _ (by simp)]
    exact heap_alloc_new w _
  · have := heap_alloc_new (w.alloc (.cells #[nv, .slice none 0 0, .slice none 0 0] 76)) (.cells nilMd 46)
    rw [show (w.alloc (.cells #[nv, .slice none 0 0, .slice none 0 0] 76)).heap.size = w.heap.size + 1 from by simp] at this
    exact this
  all_goals (intro g hg; cases hg)
theorem next8 {j n : Nat} (h : j < n) (hn : n ≤ 20) : wrap64 ((j : Int) + 1) = ((j + 1 : Nat) : Int) := by unfold wrap64; omega
theorem meas8 {j n : Nat} (h : j < n) : ((n : Int) - ((j + 1 : Nat) : Int)).toNat < ((n : Int) - (j : Int)).toNat := by omega
set_option maxHeartbeats 6400000 in
set_option maxRecDepth 100000 in
theorem of_right (nv pv : Value) (N : List Nd) (R : List (Int × Bool)) (w : World) (hN : NodesAt w nv N) (hP : PartsAt w pv R) (hr : rightB N R = true) (hp : plOf N R ≤ 63) (hT : Tab w) (hg : 0 < w.heap.size) :
    Calls Tryd.prog 21 #[.agg #[nv, pv]] w (OfEnd N R w) := by
  have HRt := fun w hN hP => right_any nv pv N R w hN hP
  have HPl := fun w hN hP => places_any nv pv N R w hN hP
  have HRi := Lib.hid (rightB_iff.1 hr)
  have HNA := Lib.hid (node_all w nv N hN (rightB_iff.1 hr).snd)
  obtain ⟨na, nc, hnv⟩ : ∃ a c, nv = .slice a N.length c := by obtain ⟨-, -, a, c, e, -⟩ := hN; exact ⟨a, c, e⟩
  obtain ⟨pa, pc, hpv⟩ : ∃ a c, pv = .slice a R.length c := by obtain ⟨-, -, a, c, e, -⟩ := hP; exact ⟨a, c, e⟩
  subst hnv hpv
  have hal1 := (Below.refl w.heap.size w).alloc (Nat.le_refl _) (.cells #[.slice na N.length nc, .slice pa R.length pc] 39)
  have hal2 := hal1.alloc (by simp) (.cells nilMd 46)
  have HRt := Lib.hid (HRt _ (hN.kept hal2) (hP.kept hal2))
  rw [hr] at HRt
  have HB := Lib.hid hal2
  have HD : Hid (((w.alloc (.cells #[.slice na N.length nc, .slice pa R.length pc] 39)).alloc (.cells nilMd 46)).heap[w.heap.size + 1]? = some (.cells nilMd 46 (0, 0))) := Lib.hid (by
    have := heap_alloc_new (w.alloc (.cells #[.slice na N.length nc, .slice pa R.length pc] 39)) (.cells nilMd 46)
    rw [show (w.alloc (.cells #[.slice na N.length nc, .slice pa R.length pc] 39)).heap.size = w.heap.size + 1 from by simp] at this
    exact this)
  have HR := Lib.hid hr
  have HPp := Lib.hid hp
  have HN := Lib.hid (hN.kept hal2)
  have HP := Lib.hid (hP.kept hal2)
  have HP0 := Lib.hid hP
  have HT := Lib.hid hT
  have HGG := Lib.hid hg
  have hdp : decide ((63 : Int) < (plOf N R : Nat)) = false := decide_eq_false (by omega)
  clear hal1 hal2 hN hP hr hp hT hg
  unfold nilMd mdV at *
  go_enter Tryd.func21, Tryd.ntmps21
  go_wp2_with (first
    | (go_at_call 30; refine HRt.out.mono ?_; rintro e w3 ⟨rfl, hb3⟩; have HD3 := Lib.hid ((hb3.block _ (Array.getElem?_eq_some_iff.1 HD.out).1).trans HD.out); have HB3 := Lib.hid (HB.out.trans (hb3.mono (by have := (Array.getElem?_eq_some_iff.1 HD.out).1; omega))); have HP3 := Lib.hid (HPl w3 (HN.out.kept hb3) (HP.out.kept hb3)); have ht0 : w3.cell? ⟨w.heap.size, 0, none⟩ = some (.slice na N.length nc) := ((hb3.cell (by simp; omega)).trans (by simp)); have ht1 : w3.cell? ⟨w.heap.size, 1, none⟩ = some (.slice pa R.length pc) := ((hb3.cell (by simp; omega)).trans (by simp)); clear hb3)
    | (go_at_call 31; refine HP3.out.mono ?_; rintro e w4 ⟨rfl, hb4⟩; have HD4 := Lib.hid ((hb4.block _ (Array.getElem?_eq_some_iff.1 HD3.out).1).trans HD3.out); have HB4 := Lib.hid (HB3.out.trans (hb4.mono HB3.out.size)); have hu0 : w4.cell? ⟨w.heap.size, 0, none⟩ = some (.slice na N.length nc) := (hb4.cell (by have := (Array.getElem?_eq_some_iff.1 HD3.out).1; simp only; omega)).trans ht0; have hu1 : w4.cell? ⟨w.heap.size, 1, none⟩ = some (.slice pa R.length pc) := (hb4.cell (by have := (Array.getElem?_eq_some_iff.1 HD3.out).1; simp only; omega)).trans ht1; have hsz4 := (Array.getElem?_eq_some_iff.1 HD4.out).1; have hsz5 : w.heap.size < w4.heap.size := (by omega); have hsz6 : w.heap.size < w4.heap.size + 1 := (by omega); clear hb4 ht0 ht1))
  have HM0 : Hid (MdAt ((w4.alloc (.cells #[.slice na N.length nc, .slice none 0 0, .slice none 0 0] 76)).alloc (.cells #[.slice none 0 0, .slice none 0 0, .slice none 0 0, .slice none 0 0, .slice none 0 0, .slice none 0 0] 46)) w4.heap.size (.slice na N.length nc) (.slice none 0 0) (.slice none 0 0) [] [] (.slice none 0 0) [] (.slice none 0 0) [] (.slice none 0 0) [] (.slice none 0 0) []) := Lib.hid (MdAt.first _)
  have HB0 : Hid (Below w4.heap.size w4 ((w4.alloc (.cells #[.slice na N.length nc, .slice none 0 0, .slice none 0 0] 76)).alloc (.cells #[.slice none 0 0, .slice none 0 0, .slice none 0 0, .slice none 0 0, .slice none 0 0, .slice none 0 0] 46))) := Lib.hid (((Below.refl w4.heap.size w4).alloc (Nat.le_refl _) _).alloc (by simp) _)
  clear HRt HPl HB HD HN HP HD3 HB3 HP3 hu0 hu1 hsz6
  generalize ((w4.alloc (.cells #[.slice na N.length nc, .slice none 0 0, .slice none 0 0] 76)).alloc (.cells #[.slice none 0 0, .slice none 0 0, .slice none 0 0, .slice none 0 0, .slice none 0 0, .slice none 0 0] 46)) = w5 at *
  clear w3
  generalize w4.heap.size = M at *
  go_loopw [23] (fun x wr => ∃ (j : Nat) (sv fv fi la em nt : Value), x = .int .i64 j ∧ j ≤ R.length ∧ Hid (MdAt wr M (.slice na N.length nc) sv fv (Sp.md ((parts N R).take j)).s (Sp.md ((parts N R).take j)).f fi (Sp.md ((parts N R).take j)).fi la (Sp.md ((parts N R).take j)).la em (Sp.md ((parts N R).take j)).em nt (Sp.md ((parts N R).take j)).nt) ∧ Hid (Below M w4 wr)) (fun x _ => ((R.length : Int) - intOf x).toNat)
  case atStart => exact ⟨0, _, _, _, _, _, _, rfl, Nat.zero_le _, HM0, HB0⟩
  case round =>
    obtain ⟨j, sv, fv, fi, la, em, nt, rfl, hj, HMa, HBa⟩ := hrel
    clear HM0 HB0
    generalize hwr : wr = w1 at *
    clear hwr wr w5
    by_cases hlt : j < R.length
    case neg =>
      have hje : j = R.length := by omega
      subst hje
      have hd : decide ((R.length : Int) < (R.length : Int)) = false := decide_eq_false (by omega)
      have hd2 : decide (R.length < R.length) = false := decide_eq_false (by omega)
      have hm := HMa.out
      rw [List.take_of_length_le (by unfold parts; rw [List.length_map]; exact Nat.le_refl _)] at hm
      have HMb := Lib.hid hm
      clear hm HMa
      obtain ⟨c0, c1, c2⟩ := HMb.out.at_.row.cells
      have hlM := HMb.out.at_.row.lt
      have hlD := HMb.out.lt
      obtain ⟨sa, sc, hsv⟩ := own_slice HMb.out.at_.os
      obtain ⟨fa, fc, hfv⟩ := own_slice HMb.out.at_.of
      have hrow := HMb.out.row
      have k0 : w1.cell? ⟨M + 1, 0, none⟩ = some (.slice none 0 0) := by unfold mdC at hrow; simp [World.cell?, hrow]
      have k3 : w1.cell? ⟨M + 1, 3, none⟩ = some (.slice none 0 0) := by unfold mdC at hrow; simp [World.cell?, hrow]
      have f0 := HMb.out.frozen 0
      have f3 := HMb.out.frozen 3
      have HSV := Lib.hid hsv
      have HFV := Lib.hid hfv
      have HRow := Lib.hid hrow
      clear hrow
      rw [hsv] at c1
      rw [hfv] at c2
      clear hsv hfv
      generalize (Sp.md (parts N R)).s.length = ns at *
      generalize (Sp.md (parts N R)).f.length = nf at *
      go_wp2_with fail
      refine region_mix [(false, 0), (false, 1), (false, 2), (false, 3), (false, 4), (true, 5), (false, 6)] (fun w' => w'.heap[M]? = w1.heap[M]?) (by kernel_rfl) (by kernel_rfl) rfl ?_
      simp only [planOps, List.map_cons, List.map_nil, List.getD_cons_zero, List.getD_cons_succ, List.length_cons, List.length_nil, List.drop_succ_cons, List.drop_zero]
      refine mix_seg (seg := [_, _, _, _, _]) rfl rfl ?_
      intro ι hι F' hF'
      have g1 : ∀ n, (F' n).cell? ⟨M, 1, none⟩ = some (.slice sa ns sc) := fun n => (World.cell?_of_block (w := w1) (hF' n)).trans c1
      have g2 : ∀ n, (F' n).cell? ⟨M, 2, none⟩ = some (.slice fa nf fc) := fun n => (World.cell?_of_block (w := w1) (hF' n)).trans c2
      repeat (go_big_quiet_step (fail))
      refine wpQuiet_nil ?_
      clear g1 g2 hF' hι F'
      refine mix_eff (fun K hK => ?_)
      go_wp2
      have hcM : (w1.setCell ⟨M + 1, 0, none⟩ (.slice sa ns sc)).drew.heap[M]? = w1.heap[M]? := Below.heap_setCell _ _ _ _ (by simp only; omega)
      refine mix_on hK hcM ?_
      clear hK K
      refine mix_seg (seg := [_]) rfl hcM ?_
      intro ι hι F' hF'
      repeat (go_big_quiet_step (fail))
      refine wpQuiet_nil ?_
      clear hF' hι F' hcM
      show wpList _ _ _ _ _ _
      go_wp2
      refine NoPanic.normal ?_
      have hoff1 := off_row HMb.out.at_.os HRow.out (by decide)
      have hoff2 := off_row HMb.out.at_.of HRow.out (by decide)
      have hfinal : ((w1.setCell ⟨M + 1, 0, none⟩ (.slice sa ns sc)).setCell ⟨M + 1, 3, none⟩ (.slice fa nf fc)).heap[M + 1]? = some (.cells (mdV sv fi la fv em nt) 46 (0, 0)) := by
        have h5 := HRow.out
        unfold mdC at h5
        rw [HSV.out, HFV.out]
        simp [World.setCell, Array.getElem?_modify, h5, mdV]
      have HFin := Lib.hid hfinal
      have HMade : Hid (MadeAt w.heap.size ((w1.setCell ⟨M + 1, 0, none⟩ (.slice sa ns sc)).setCell ⟨M + 1, 3, none⟩ (.slice fa nf fc)) sv fi la fv em nt (Sp.md (parts N R))) := Lib.hid (by
        have hk : ∀ g, g ≠ M + 1 → ((w1.setCell ⟨M + 1, 0, none⟩ (.slice sa ns sc)).setCell ⟨M + 1, 3, none⟩ (.slice fa nf fc)).heap[g]? = w1.heap[g]? := fun g hg => by
          rw [Below.heap_setCell _ _ _ _ hg, Below.heap_setCell _ _ _ _ hg]
        exact ⟨own_mono (own_kept HMb.out.at_.os fun g hg => hk g (hoff1 g hg)) (by omega), own_mono (own_kept HMb.out.o1 fun g hg => hk g (by have := (HMb.out.o1.lt g hg).1; omega)) (by omega), own_mono (own_kept HMb.out.o2 fun g hg => hk g (by have := (HMb.out.o2.lt g hg).1; omega)) (by omega),
          own_mono (own_kept HMb.out.at_.of fun g hg => hk g (hoff2 g hg)) (by omega), own_mono (own_kept HMb.out.o3 fun g hg => hk g (by have := (HMb.out.o3.lt g hg).1; omega)) (by omega), own_mono (own_kept HMb.out.o4 fun g hg => hk g (by have := (HMb.out.o4.lt g hg).1; omega)) (by omega)⟩)
      have HBf : Hid (Below M w4 ((w1.setCell ⟨M + 1, 0, none⟩ (.slice sa ns sc)).setCell ⟨M + 1, 3, none⟩ (.slice fa nf fc))) := Lib.hid (HBa.out.trans ⟨rfl, rfl, rfl, by simp, fun k hk => by rw [Below.heap_setCell _ _ _ _ (by simp only; omega), Below.heap_setCell _ _ _ _ (by simp only; omega)]⟩)
      have hone : (mdV sv fi la fv em nt).all (·.oneCell') = true := by
        obtain ⟨a1, b1, e1⟩ := own_slice HMb.out.o1
        obtain ⟨a2, b2, e2⟩ := own_slice HMb.out.o2
        obtain ⟨a3, b3, e3⟩ := own_slice HMb.out.o3
        obtain ⟨a4, b4, e4⟩ := own_slice HMb.out.o4
        rw [HSV.out, HFV.out, e1, e2, e3, e4]
        unfold mdV
        simp [Value.oneCell']
      clear hfinal hoff1 hoff2 k0 k3 f0 f3 c0 c1 c2 hlM hlD HMb HBa HRow
      generalize ((w1.setCell ⟨M + 1, 0, none⟩ (.slice sa ns sc)).setCell ⟨M + 1, 3, none⟩ (.slice fa nf fc)) = w6 at *
      have HD6 : Hid (w6.drew.heap[w.heap.size + 1]? = some (.cells nilMd 46 (0, 0))) := Lib.hid ((HBf.out.block _ hsz4).trans HD4.out)
      have HFin2 : Hid (w6.drew.heap[M + 1]? = some (.cells (mdV sv fi la fv em nt) 46 (0, 0))) := HFin
      go_wp2_with (first
        | (refine wpList_get_made rfl _ rfl (M + 1) (mdV sv fi la fv em nt) rfl rfl HFin2.out ?_)
        | (refine wpList_put_made rfl _ _ rfl (w.heap.size + 1) _ (mdV sv fi la fv em nt) rfl hone rfl rfl rfl HD6.out ?_; intro hE7; have HE7 := Lib.hid hE7; clear hE7))
      refine bodyPost_ret (v := .tuple #[.agg (mdV sv fi la fv em nt), .int .i64 0]) (results_made (p := 2) (q := 3) Tryd.results21 _ _ (w.heap.size + 1) _ _ rfl rfl HE7.out rfl) rfl ⟨HB4.out.trans ((HBf.out.mono (by omega)).drew.trans ⟨rfl, rfl, rfl, by simp [World.setRow], fun k hk => setRow_other _ _ _ _ (by omega)⟩), .inr (.inr ⟨HR.out, HPp.out, sv, fi, la, fv, em, nt, rfl, ?_⟩)⟩
      have hM := HMade.out
      have hk : ∀ {A s n : Nat} {e : TypeId} {v : Value} {xs : List Value}, w6.ownsRow A e s v n xs → e ≠ 46 → (w6.drew.setRow (w.heap.size + 1) (mdV sv fi la fv em nt)).ownsRow A e s v n xs := fun h5 h6 => own_kept h5 fun g hg => setRow_other _ _ _ _ (off_row (w := w6.drew) (h5 : World.ownsRow w6.drew _ _ _ _ _ _) HD6.out h6 g hg)
      exact ⟨hk hM.s (by decide), hk hM.fi (by decide), hk hM.la (by decide), hk hM.f (by decide), hk hM.em (by decide), hk hM.nt (by decide)⟩
    case pos =>
      have hd : decide ((j : Int) < (R.length : Int)) = true := decide_eq_true (by omega)
      have hd2 : decide (j < R.length) = true := decide_eq_true hlt
      have HBw := Lib.hid (HB4.out.trans (HBa.out.mono (by omega)))
      obtain ⟨pb, po, rfl, hr0, hok⟩ := HP0.out.at hlt
      have hr1 := range_kept hr0 HBw.out
      have hrt := HRi.out.rts (R.getD j default).1 (List.mem_map.2 ⟨_, (by rw [List.getD_eq_getElem?_getD, List.getElem?_eq_getElem hlt]; exact List.getElem_mem hlt), rfl⟩)
      have hpt := parts_take N R j hlt
      have hle := Sp.md_take_le (parts N R) (j + 1)
      rw [of_len HRi.out HPp.out, hpt, Sp.md_snoc] at hle
      have hle2 : (Sp.md ((parts N R).take j)).s.length + (mk (abs N (tr N (R.getD j default).1.toNat))).s.length ≤ 63 := by
        have h5 : (Sp.mdMore (Sp.md ((parts N R).take j)) (abs N (tr N (R.getD j default).1.toNat), (R.getD j default).2)).s.length = (Sp.md ((parts N R).take j)).s.length + (mk (abs N (tr N (R.getD j default).1.toNat))).s.length := List.length_append
        rw [h5] at hle
        have := HPp.out
        omega
      have hlens := Sp.md_len ((parts N R).take j)
      have hsml := Sp.md_small ((parts N R).take j) (by omega)
      obtain ⟨X, hX⟩ : ∃ X, X = R.getD j default := ⟨_, rfl⟩
      rw [← hX] at hr1 hok hrt hpt hle2
      clear hX hle hr0
      obtain ⟨rt, bn⟩ := X
      simp only at hrt hpt hle2
      obtain ⟨k, rfl⟩ : ∃ k : Nat, rt = (k : Int) := ⟨rt.toNat, by omega⟩
      rw [Int.toNat_natCast] at hpt hle2
      have p0 : w1.cell? ⟨pb, po + j * 2, none⟩ = some (.int .i64 k) := hr1 0 _ rfl
      have p1 : w1.cell? ⟨pb, po + j * 2 + 1, none⟩ = some (.bool bn) := hr1 1 _ rfl
      obtain ⟨t, ht, htr⟩ := is_of_low HRi.out.low k (by omega)
      have e1 : tr N k = t := by rw [← htr]; exact tr_of ht
      rw [e1] at hpt hle2
      have hnc := HNA.out t ht
      unfold NodeC at hnc
      rw [htr] at hnc
      clear ht e1 hr1 hrt
      have HNC := Lib.hid hnc
      have HPT : Hid (Sp.md ((parts N R).take (j + 1)) = Sp.mdMore (Sp.md ((parts N R).take j)) (abs N t, bn)) := Lib.hid (by rw [hpt, Sp.md_snoc])
      have HLN := Lib.hid (Sp.md_len ((parts N R).take j))
      have hltk : ((parts N R).take j).length = j := by rw [List.length_take]; unfold parts; rw [List.length_map]; omega
      rw [hltk] at HLN
      clear hltk
      clear hnc HBw
      generalize hga : mk (abs N t) = a at *
      have HMK := Lib.hid hga
      clear hga
      clear hpt
      generalize Sp.md ((parts N R).take j) = m at *
      have hMM := HMa.out
      have hlM := hMM.lt
      have hal := (Below.refl w1.heap.size w1).alloc (Nat.le_refl _) (.cells #[.int .i64 (k : Int), .bool bn] 78)
      have HM2 := Lib.hid (hMM.below hal)
      have HB2 := Lib.hid (HBa.out.trans (hal.mono (by omega)))
      have HPB : Hid ((w1.alloc (.cells #[.int .i64 (k : Int), .bool bn] 78)).heap[w1.heap.size]? = some (.cells #[.int .i64 (k : Int), .bool bn] 78 (0, 0))) := Lib.hid (heap_alloc_new w1 _)
      have HC2 := Lib.hid (HNC.out M sv fv m.s m.f _ HM2.out.at_ (HB4.out.trans (HB2.out.mono (by omega))) (by omega) hlens.1 hsml hle2 (HT.out.below (HB4.out.trans (HB2.out.mono (by omega))) HGG.out) (by have := HGG.out; omega))
      clear hMM hal hlens hsml HMa HBa HNC
      go_wp2_with fail
      refine HC2.out.mono ?_
      rintro e w3 ⟨rfl, sv3, fv3, hM3, hF3⟩
      have HM3 := Lib.hid (HM2.out.node hF3 hM3)
      have HB3 := Lib.hid (HB2.out.trans hF3.below)
      have HP3 := Lib.hid (hF3.keep HM2.out.at_ HPB.out (by decide) (by decide) (by decide))
      clear hM3 hF3 HM2 HB2 HPB HC2 p0 p1
      generalize w1.heap.size = pq at *
      clear w1
      obtain ⟨f2, l2, e2, hf2, hl2, he2⟩ : ∃ f2 l2 e2, f2 = a.fi <<< m.s.length ∧ l2 = a.la <<< m.s.length ∧ e2 = a.em := ⟨_, _, _, rfl, rfl, rfl⟩
      have hen : enV m.s.length a = .agg (en3 f2 l2 e2) := by rw [hf2, hl2, he2]; rfl
      rw [hen]
      have HMO : Hid (Sp.mdMore m (abs N t, bn) = ⟨m.s ++ a.s, m.f ++ up m.s.length a.f, m.fi ++ [f2], m.la ++ [l2], m.em ++ [e2], m.nt ++ [bn]⟩) := Lib.hid (by rw [hf2, hl2, he2, ← HMK.out]; rfl)
      clear hen hf2 hl2 he2
      have hlt3 := HM3.out.lt
      have hpm : pq ≠ M + 1 := by omega
      have hpq : pq < w3.heap.size := (Array.getElem?_eq_some_iff.1 HP3.out).1
      have hal := (Below.refl w3.heap.size w3).alloc (Nat.le_refl _) (.cells #[.int .u64 f2, .int .u64 l2, .bool e2] 80)
      have HM4 := Lib.hid (HM3.out.below hal)
      have HB5 := Lib.hid (HB3.out.trans (hal.mono (by omega)))
      have HP4 := Lib.hid ((hal.block _ hpq).trans HP3.out)
      have HR4 : Hid (ERow (w3.alloc (.cells #[.int .u64 f2, .int .u64 l2, .bool e2] 80)) w3.heap.size f2 l2 e2) := Lib.hid (ERow.new w3 f2 l2 e2)
      have hlj : m.fi.length ≤ 1000 ∧ m.la.length ≤ 1000 ∧ m.em.length ≤ 1000 ∧ m.nt.length ≤ 1000 := by
        have h5 := HLN.out
        have h6 := HRi.out.few.2.1
        omega
      have HLJ := Lib.hid hlj
      have hsz : (w3.alloc (.cells #[.int .u64 f2, .int .u64 l2, .bool e2] 80)).heap.size = w3.heap.size + 1 := by simp
      have HSZ := Lib.hid hsz
      clear hal HM3 HB3 HP3 hlj hsz
      clear HSZ
      go_upto_region 11 with (refine wpList_lay_ends rfl _ _ rfl f2 l2 e2 rfl rfl ?_)
      have hrm : w3.heap.size ≠ M + 1 := by omega
      have hrM : M + 1 < w3.heap.size := hlt3
      generalize (w3.alloc (.cells #[.int .u64 f2, .int .u64 l2, .bool e2] 80)) = v0 at *
      generalize w3.heap.size = r at *
      clear w3
      obtain ⟨r0, r1, r2⟩ := HR4.out.cells
      obtain ⟨c1, c2, c4, c5⟩ := HM4.out.cells
      have q1 : v0.cell? ⟨pq, 1, none⟩ = some (.bool bn) := by simp [World.cell?, HP4.out]
      have s1 := HR4.out.lt
      have s2 := HM4.out.lt
      have s3 := (Array.getElem?_eq_some_iff.1 HP4.out).1
      go_upto_region 12 with (refine wpList_push_fi rfl _ _ rfl HM4.out v0.heap.size rfl rfl rfl HLJ.out.1 ?_; intro ga6 gc6 w6 hfz d1 d2 d4 d5 hl HM6 HB6 HK6)
      have HR6 := Lib.hid (ERow.kept (show ERow w6 r f2 l2 e2 from HK6.out _ _ _ _ HR4.out (by decide) (by decide) hrm) (Below.heap_setCell w6 ⟨M + 1, 1, none⟩ (.slice ga6 (m.fi.length + 1) gc6) r hrm))
      have HP6 := Lib.hid ((Below.heap_setCell w6 ⟨M + 1, 1, none⟩ (.slice ga6 (m.fi.length + 1) gc6) pq hpm).trans (HK6.out _ _ _ _ HP4.out (by decide) (by decide) hpm))
      have HC6 := Lib.hid (HB5.out.trans HB6.out)
      clear r0 r1 r2 c1 c2 c4 c5 q1 s1 s2 s3 hfz d1 d2 d4 d5 hl HK6 HB6 HM4 HR4 HP4 HB5
      generalize w6.setCell ⟨M + 1, 1, none⟩ (.slice ga6 (m.fi.length + 1) gc6) = v6 at *
      clear w6
      obtain ⟨r0, r1, r2⟩ := HR6.out.cells
      obtain ⟨c1, c2, c4, c5⟩ := HM6.out.cells
      have q1 : v6.cell? ⟨pq, 1, none⟩ = some (.bool bn) := by simp [World.cell?, HP6.out]
      have s1 := HR6.out.lt
      have s2 := HM6.out.lt
      have s3 := (Array.getElem?_eq_some_iff.1 HP6.out).1
      go_upto_region 13 with (refine wpList_push_la rfl _ _ rfl HM6.out v6.heap.size rfl rfl rfl HLJ.out.2.1 ?_; intro ga7 gc7 w7 hfz d1 d2 d4 d5 hl HM7 HB7 HK7)
      have HR7 := Lib.hid (ERow.kept (show ERow w7 r f2 l2 e2 from HK7.out _ _ _ _ HR6.out (by decide) (by decide) hrm) (Below.heap_setCell w7 ⟨M + 1, 2, none⟩ (.slice ga7 (m.la.length + 1) gc7) r hrm))
      have HP7 := Lib.hid ((Below.heap_setCell w7 ⟨M + 1, 2, none⟩ (.slice ga7 (m.la.length + 1) gc7) pq hpm).trans (HK7.out _ _ _ _ HP6.out (by decide) (by decide) hpm))
      have HC7 := Lib.hid (HC6.out.trans HB7.out)
      clear r0 r1 r2 c1 c2 c4 c5 q1 s1 s2 s3 hfz d1 d2 d4 d5 hl HK7 HB7 HM6 HR6 HP6 HC6
      generalize w7.setCell ⟨M + 1, 2, none⟩ (.slice ga7 (m.la.length + 1) gc7) = v7 at *
      clear w7
      obtain ⟨r0, r1, r2⟩ := HR7.out.cells
      obtain ⟨c1, c2, c4, c5⟩ := HM7.out.cells
      have q1 : v7.cell? ⟨pq, 1, none⟩ = some (.bool bn) := by simp [World.cell?, HP7.out]
      have s1 := HR7.out.lt
      have s2 := HM7.out.lt
      have s3 := (Array.getElem?_eq_some_iff.1 HP7.out).1
      go_upto_region 14 with (refine wpList_push_em rfl _ _ rfl HM7.out v7.heap.size rfl rfl rfl HLJ.out.2.2.1 ?_; intro ga8 gc8 w8 hfz d1 d2 d4 d5 hl HM8 HB8 HK8)
      have HR8 := Lib.hid (ERow.kept (show ERow w8 r f2 l2 e2 from HK8.out _ _ _ _ HR7.out (by decide) (by decide) hrm) (Below.heap_setCell w8 ⟨M + 1, 4, none⟩ (.slice ga8 (m.em.length + 1) gc8) r hrm))
      have HP8 := Lib.hid ((Below.heap_setCell w8 ⟨M + 1, 4, none⟩ (.slice ga8 (m.em.length + 1) gc8) pq hpm).trans (HK8.out _ _ _ _ HP7.out (by decide) (by decide) hpm))
      have HC8 := Lib.hid (HC7.out.trans HB8.out)
      clear r0 r1 r2 c1 c2 c4 c5 q1 s1 s2 s3 hfz d1 d2 d4 d5 hl HK8 HB8 HM7 HR7 HP7 HC7
      generalize w8.setCell ⟨M + 1, 4, none⟩ (.slice ga8 (m.em.length + 1) gc8) = v8 at *
      clear w8
      obtain ⟨r0, r1, r2⟩ := HR8.out.cells
      obtain ⟨c1, c2, c4, c5⟩ := HM8.out.cells
      have q1 : v8.cell? ⟨pq, 1, none⟩ = some (.bool bn) := by simp [World.cell?, HP8.out]
      have s1 := HR8.out.lt
      have s2 := HM8.out.lt
      have s3 := (Array.getElem?_eq_some_iff.1 HP8.out).1
      go_upto_region 15 with (refine wpList_push_nt rfl _ _ rfl HM8.out v8.heap.size rfl rfl rfl HLJ.out.2.2.2 ?_; intro ga9 gc9 w9 hfz d1 d2 d4 d5 hl HM9 HB9 HK9)
      have HR9 := Lib.hid (ERow.kept (show ERow w9 r f2 l2 e2 from HK9.out _ _ _ _ HR8.out (by decide) (by decide) hrm) (Below.heap_setCell w9 ⟨M + 1, 5, none⟩ (.slice ga9 (m.nt.length + 1) gc9) r hrm))
      have HP9 := Lib.hid ((Below.heap_setCell w9 ⟨M + 1, 5, none⟩ (.slice ga9 (m.nt.length + 1) gc9) pq hpm).trans (HK9.out _ _ _ _ HP8.out (by decide) (by decide) hpm))
      have HC9 := Lib.hid (HC8.out.trans HB9.out)
      clear r0 r1 r2 c1 c2 c4 c5 q1 s1 s2 s3 hfz d1 d2 d4 d5 hl HK9 HB9 HM8 HR8 HP8 HC8
      generalize w9.setCell ⟨M + 1, 5, none⟩ (.slice ga9 (m.nt.length + 1) gc9) = v9 at *
      clear w9
      have HW1 := Lib.hid (next8 hlt HRi.out.few.2.1)
      go_wp2_with fail
      go_roundw
      case rel =>
        refine ⟨j + 1, sv3, fv3, .slice ga6 (m.fi.length + 1) gc6, .slice ga7 (m.la.length + 1) gc7, .slice ga8 (m.em.length + 1) gc8, .slice ga9 (m.nt.length + 1) gc9, by rw [HW1.out], hlt, ?_, HC9⟩
        rw [HPT.out, HMO.out]
        exact HM9
      case measure =>
        rw [HW1.out]
        exact meas8 hlt
end Go.Proofs.YtcgllipcnmlkbaaDoor
