/- The document's Same. -/
import Derived.Test.YtlbaecjmfgahgaaDoorNfQ
import Derived.Test.YtlbaecjmfgahgaaDoorNf9
namespace Go.Proofs.YtlbaecjmfgahgaaDoor
open Go.RowKit Sets Nf
namespace Nf
def sameB (m n : Mc) : Bool := decide (m.sp = n.sp ∧ m.fi = n.fi ∧ m.fo = n.fo ∧ m.la = n.la ∧ m.em = n.em)
theorem same_sp {m n : Mc} (h : m.sp ≠ n.sp) : sameB m n = false := decide_eq_false (fun e => h e.1)
theorem same_fi {m n : Mc} (h : m.fi ≠ n.fi) : sameB m n = false := decide_eq_false (fun e => h e.2.1)
theorem same_fo {m n : Mc} (h : m.fo ≠ n.fo) : sameB m n = false := decide_eq_false (fun e => h e.2.2.1)
theorem same_la {m n : Mc} (h : m.la ≠ n.la) : sameB m n = false := decide_eq_false (fun e => h e.2.2.2.1)
theorem same_em {m n : Mc} (h : m.em ≠ n.em) : sameB m n = false := decide_eq_false (fun e => h e.2.2.2.2)
theorem quiet_drewN {P : Program} {f : FuncId} {args : Array Value} {w : World} {n : Nat} {v : Value} (h : Calls P f args (w.drewN n) fun e w' => e = .returned v ∧ ∃ k, w' = (w.drewN n).drewN k) :
    Calls P f args (w.drewN n) fun e w'' => e = .returned v ∧ ∃ m, w'' = w.drewN m :=
  h.mono fun _ _ ⟨he, k, hk⟩ => ⟨he, n + k, by rw [hk, World.drewN_drewN]⟩
theorem len_ne {α : Type} {l k : List α} (h : ¬ l.length = k.length) : l ≠ k := fun e => h (by rw [e])
set_option maxHeartbeats 6400000 in
set_option maxRecDepth 100000 in
theorem rsame_any (x y : Ma) (m n : Mc) (w : World) (h : MAt w x m) (hy : MAt w y n) (hf : Fine m) (hg : Fine n) :
    Calls Tryd.prog 9 #[.agg (mc x m), .agg (mc y n)] w fun e w' => e = .returned (.bool (sameB m n)) ∧ Below w.heap.size w w' := by
  have HM0 := Lib.hid h
  have HN0 := Lib.hid hy
  have HF := Lib.hid hf
  have HG := Lib.hid hg
  clear h hy hf hg
  go_enter Tryd.func9, Tryd.ntmps9
  go_upto_region 1 with fail
  have hb1 := (Below.refl w.heap.size w).alloc (Nat.le_refl _) (.cells (mc x m) 27)
  have HX1 := Lib.hid (BoxM.new w x m)
  have HM1 := Lib.hid (HM0.out.kept hb1)
  have HN1 := Lib.hid (HN0.out.kept hb1)
  obtain ⟨B, hBq⟩ : ∃ B, Hid (w.heap.size = B) := ⟨_, Lib.hid rfl⟩
  have HB1 : Hid (Below B w (w.alloc (.cells (mc x m) 27))) := Lib.hid (by rw [← hBq.out]; exact hb1)
  have HZ : Hid ((w.alloc (.cells (mc x m) 27)).heap.size = B + 1) := Lib.hid (by rw [← hBq.out]; simp)
  rw [hBq.out] at HX1
  try simp only [hBq.out]
  clear hb1
  generalize w.alloc (.cells (mc x m) 27) = w1 at *
  have hb2 := (Below.refl w1.heap.size w1).alloc (Nat.le_refl _) (.cells (mc y n) 27)
  have HY := Lib.hid (BoxM.new w1 y n)
  have HX := Lib.hid (HX1.out.kept hb2 HX1.out.lt)
  have HM := Lib.hid (HM1.out.kept hb2)
  have HN := Lib.hid (HN1.out.kept hb2)
  have HB := Lib.hid (HB1.out.trans (hb2.mono (by rw [HZ.out]; omega)))
  rw [HZ.out] at HY
  clear hb2 HX1 HM1 HN1 HB1 HM0 HN0
  generalize w1.alloc (.cells (mc y n) 27) = w2 at *
  clear HZ w1
  have HXL := Lib.hid HX.out.lt
  have HYL := Lib.hid HY.out.lt
  have c0 := HX.out.c0
  have c1 := HX.out.c1
  have c2 := HX.out.c2
  have c3 := HX.out.c3
  have c4 := HX.out.c4
  have e0 := HY.out.c0
  have e1 := HY.out.c1
  have e2 := HY.out.c2
  have e3 := HY.out.c3
  have e4 := HY.out.c4
  by_cases hsp : m.sp.length = n.sp.length
  case neg =>
    have hdsp : (((m.sp.length : Nat) : Int) != ((n.sp.length : Nat) : Int)) = true := by rw [bne_iff_ne]; omega
    have HR := Lib.hid (same_sp (len_ne hsp))
    clear hsp
    go_wp2_with fail
    go_ret
    exact ⟨by rw [HR.out]; rfl, by rw [hBq.out]; exact HB.out⟩
  have hdsp : (((m.sp.length : Nat) : Int) != ((n.sp.length : Nat) : Int)) = false := by rw [hsp]; simp
  have HEsp := Lib.hid hsp
  clear hsp
  by_cases hfo : m.fo.length = n.fo.length
  case neg =>
    have hdfo : (((m.fo.length : Nat) : Int) != ((n.fo.length : Nat) : Int)) = true := by rw [bne_iff_ne]; omega
    have HR := Lib.hid (same_fo (len_ne hfo))
    clear hfo
    go_wp2_with fail
    go_ret
    exact ⟨by rw [HR.out]; rfl, by rw [hBq.out]; exact HB.out⟩
  have hdfo : (((m.fo.length : Nat) : Int) != ((n.fo.length : Nat) : Int)) = false := by rw [hfo]; simp
  have HEfo := Lib.hid hfo
  clear hfo
  by_cases hla : m.la.length = n.la.length
  case neg =>
    have hdla : (((m.la.length : Nat) : Int) != ((n.la.length : Nat) : Int)) = true := by rw [bne_iff_ne]; omega
    have HR := Lib.hid (same_la (len_ne hla))
    clear hla
    go_wp2_with fail
    go_ret
    exact ⟨by rw [HR.out]; rfl, by rw [hBq.out]; exact HB.out⟩
  have hdla : (((m.la.length : Nat) : Int) != ((n.la.length : Nat) : Int)) = false := by rw [hla]; simp
  have HEla := Lib.hid hla
  clear hla
  by_cases hem : m.em = n.em
  case neg =>
    have HR := Lib.hid (same_em hem)
    have hem2 : m.em = !n.em := by cases h1 : m.em <;> cases h2 : n.em <;> simp_all
    rw [hem2] at c4
    clear hem hem2
    cases hn : n.em with
    | true =>
      rw [hn] at c4 e4
      clear hn
      have c4' : w2.cell? ⟨B, 4, none⟩ = some (.bool false) := c4
      clear c4
      go_wp2_with fail
      go_ret
      exact ⟨by rw [HR.out]; rfl, by rw [hBq.out]; exact HB.out⟩
    | false =>
      rw [hn] at c4 e4
      clear hn
      have c4' : w2.cell? ⟨B, 4, none⟩ = some (.bool true) := c4
      clear c4
      go_wp2_with fail
      go_ret
      exact ⟨by rw [HR.out]; rfl, by rw [hBq.out]; exact HB.out⟩
  rw [hem] at c4
  have HEem := Lib.hid hem
  clear hem
  have hdem : (n.em != n.em) = false := by simp
  have HAL := Lib.hid (ralike_any x.fa y.fa x.fc y.fc m.fi n.fi w2 HM.out.fi HN.out.fi HF.out.fi)
  by_cases hfi : m.fi = n.fi
  case neg =>
    have HR := Lib.hid (same_fi hfi)
    rw [decide_eq_false hfi] at HAL
    clear hfi
    go_wp2_with (go_at_call 25; refine HAL.out.mono ?_; rintro e w3 ⟨rfl, k, rfl⟩; clear HAL)
    go_ret
    exact ⟨by rw [HR.out]; rfl, by rw [hBq.out]; exact HB.out.trans ((below_drewN (Below.refl _ _) k).mono (Nat.le_of_lt HXL.out))⟩
  rw [decide_eq_true hfi] at HAL
  have HEfi := Lib.hid hfi
  clear hfi
  go_wp2_with (go_at_call 25; refine HAL.out.mono ?_; rintro e w3 ⟨rfl, k, rfl⟩; clear HAL)
  have HD := Lib.hid (below_drewN (Below.refl w2.heap.size w2) k)
  generalize w2.drewN k = w3 at *
  clear c0 c1 c2 c3 c4 e0 e1 e2 e3 e4
  go_loopw [5] (fun i wr => ∃ j : Nat, i = .int .i64 j ∧ j ≤ m.sp.length ∧ Hid (Below w2.heap.size w2 wr) ∧ Hid (∀ t, t < j → m.sp.getD t (0, 0) = n.sp.getD t (0, 0))) (fun i _ => ((m.sp.length : Int) - intOf i).toNat)
  case atStart => exact ⟨0, rfl, Nat.zero_le _, HD, Lib.hid (fun t ht => by omega)⟩
  case round =>
    clear HD w3
    obtain ⟨j, rfl, hj, HD, HI⟩ := hrel
    generalize hwr : wr = w4 at *
    clear hwr wr
    have HXr := Lib.hid (HX.out.kept HD.out HXL.out)
    have HYr := Lib.hid (HY.out.kept HD.out HYL.out)
    have HMr := Lib.hid (HM.out.kept HD.out)
    have HNr := Lib.hid (HN.out.kept HD.out)
    have HXl := Lib.hid HXr.out.lt
    have HYl := Lib.hid HYr.out.lt
    have HRB : Hid (∀ w', Below w4.heap.size w4 w' → Below w2.heap.size w2 w') := Lib.hid (fun w' h => HD.out.trans (h.mono HD.out.size))
    have HRE : Hid (∀ w', Below w2.heap.size w2 w' → Below w.heap.size w w') := Lib.hid (fun w' h => by rw [hBq.out]; exact HB.out.trans (h.mono (Nat.le_of_lt HXL.out)))
    by_cases hlt : j < m.sp.length
    case pos =>
      have hdd : decide ((j : Int) < (m.sp.length : Int)) = true := decide_eq_true (by omega)
      have hd2 : decide (j < m.sp.length) = true := decide_eq_true hlt
      have hj1 : (j : Int) < (m.sp.length : Int) := by omega
      have hj2 : (j : Int) < (n.sp.length : Int) := by have := HEsp.out; omega
      have hj2n : j < n.sp.length := by have := HEsp.out; omega
      have HW1 : Hid (wrap64 ((j : Int) + 1) = ((j + 1 : Nat) : Int)) := Lib.hid (nat_wrap (by have := HF.out.sp; omega))
      have HJ := Lib.hid hlt
      have HNE : Hid (m.sp.getD j (0, 0) ≠ n.sp.getD j (0, 0) → sameB m n = false) := Lib.hid (fun h => same_sp (fun e => h (by rw [e])))
      have HS : Hid (m.sp.getD j (0, 0) = n.sp.getD j (0, 0) → ∀ t, t < j + 1 → m.sp.getD t (0, 0) = n.sp.getD t (0, 0)) := Lib.hid (fun h t ht => by
        rcases Nat.lt_or_ge t j with h1 | h1
        · exact HI.out t h1
        · have : t = j := by omega
          subst this; exact h)
      obtain ⟨b1, o1, hx1, hr1⟩ := HMr.out.sp j hlt
      obtain ⟨b2, o2, hx2, hr2⟩ := HNr.out.sp j hj2n
      have c0 := HXr.out.c0
      have e0 := HYr.out.c0
      rw [hx1] at c0
      rw [hx2] at e0
      have HR1 := Lib.hid hr1
      have HR2 := Lib.hid hr2
      have HP1 : Hid ((m.sp.getD j (0, 0)).1 < 2 ^ 256) := Lib.hid (HF.out.set _ (getD_mem hlt)).1
      have HP2 : Hid ((n.sp.getD j (0, 0)).1 < 2 ^ 256) := Lib.hid (HG.out.set _ (getD_mem hj2n)).1
      clear hlt hj2n hx1 hx2 hr1 hr2
      generalize m.sp.getD j (0, 0) = p1 at *
      generalize n.sp.getD j (0, 0) = p2 at *
      go_upto_region 6 with fail
      refine region_fam (by kernel_rfl) (by kernel_rfl) ?_
      intro ι hι F hF hX
      have q0 := fun k => ((hF k).cell (p := ⟨B, 0, none⟩) HXl.out).trans c0
      have q1 := fun k => ((hF k).cell (p := ⟨B + 1, 0, none⟩) HYl.out).trans e0
      have Q2 := Lib.hid (fun k => (show (F k).rangeAt b1 (o1 + j * 5) (sp5 p1) from fun t v hv => ((hF k).cell (World.block_lt_of_cell? _ _ (HR1.out t v hv))).trans (HR1.out t v hv)))
      have Q3 := Lib.hid (fun k => (show (F k).rangeAt b2 (o2 + j * 5) (sp5 p2) from fun t v hv => ((hF k).cell (World.block_lt_of_cell? _ _ (HR2.out t v hv))).trans (HR2.out t v hv)))
      iterate 4 (go_big_quiet_step (fail))
      refine BigFrame.wpQuiet_want rfl (fun K hK => ?_); refine quiet_load_mid 41 _ rfl b1 (o1 + j * 5) rfl (sp5 p1) _ (fun w' ⟨k, e⟩ => e ▸ Q2.out k) Tryd.underlying41 rfl (sizeSpot p1) ?_; refine hK _ ?_; clear hK K; simp only [Act.put, List.setIfInBounds_toArray, List.set_cons_zero, List.set_cons_succ]
      iterate 4 (go_big_quiet_step (fail))
      refine BigFrame.wpQuiet_want rfl (fun K hK => ?_); refine quiet_load_mid 41 _ rfl b2 (o2 + j * 5) rfl (sp5 p2) _ (fun w' ⟨k, e⟩ => e ▸ Q3.out k) Tryd.underlying41 rfl (sizeSpot p2) ?_; refine hK _ ?_; clear hK K; simp only [Act.put, List.setIfInBounds_toArray, List.set_cons_zero, List.set_cons_succ]
      refine BigFrame.wpQuiet_want rfl (fun K hK => ?_); refine quiet_neqS 41 _ _ _ rfl (row5 p1) (row5 p2) rfl rfl (by kernel_rfl) (decide (p1 = p2)) (fun w' => eqSpot p1 p2 HP1.out HP2.out w') ?_; refine hK _ ?_; clear hK K; simp only [Act.put, List.setIfInBounds_toArray, List.set_cons_zero, List.set_cons_succ]
      refine wpQuiet_nil ?_
      rintro _ ⟨k, rfl⟩
      have HBn := Lib.hid (hF k)
      generalize F k = w5 at *
      clear hF hX k F hι q0 q1 Q2 Q3
      by_cases hpq : p1 = p2
      · have HS2 := Lib.hid (HS.out hpq)
        rw [decide_eq_true hpq]
        clear hpq
        go_wp2_with fail
        go_roundw
        case rel => exact ⟨j + 1, by rw [HW1.out], HJ.out, Lib.hid (HRB.out _ HBn.out), HS2⟩
        case measure => rw [HW1.out]; exact meas8 HJ.out
      · have HR := Lib.hid (HNE.out hpq)
        rw [decide_eq_false hpq]
        clear hpq
        go_wp2_with fail
        go_ret
        exact ⟨by rw [HR.out]; rfl, HRE.out _ (HRB.out _ HBn.out)⟩
    case neg =>
      have hdd : decide ((j : Int) < (m.sp.length : Int)) = false := decide_eq_false (by omega)
      have hd2 : decide (j < m.sp.length) = false := decide_eq_false hlt
      have HQsp : Hid (m.sp = n.sp) := Lib.hid (ext_getD (0, 0) HEsp.out (fun i hi => HI.out i (by omega)))
      have c0 := HXr.out.c0
      clear hlt
      go_wp2_with fail
      clear c0 hdd hd2 hj HI HXr HYr HMr HNr HXl HYl HRB HRE
      go_loopw [6] (fun i wr => ∃ j : Nat, i = .int .i64 j ∧ j ≤ m.la.length ∧ Hid (Below w2.heap.size w2 wr) ∧ Hid (∀ t, t < j → m.la.getD t false = n.la.getD t false)) (fun i _ => ((m.la.length : Int) - intOf i).toNat)
      case atStart => exact ⟨0, rfl, Nat.zero_le _, HD, Lib.hid (fun t ht => by omega)⟩
      case round =>
        clear HD w4
        obtain ⟨j, rfl, hj, HD, HI⟩ := hrel
        generalize hwr : wr = w6 at *
        clear hwr wr
        have HXr := Lib.hid (HX.out.kept HD.out HXL.out)
        have HYr := Lib.hid (HY.out.kept HD.out HYL.out)
        have HMr := Lib.hid (HM.out.kept HD.out)
        have HNr := Lib.hid (HN.out.kept HD.out)
        have HXl := Lib.hid HXr.out.lt
        have HYl := Lib.hid HYr.out.lt
        have HRB : Hid (∀ w', Below w6.heap.size w6 w' → Below w2.heap.size w2 w') := Lib.hid (fun w' h => HD.out.trans (h.mono HD.out.size))
        have HRE : Hid (∀ w', Below w2.heap.size w2 w' → Below w.heap.size w w') := Lib.hid (fun w' h => by rw [hBq.out]; exact HB.out.trans (h.mono (Nat.le_of_lt HXL.out)))
        by_cases hlt : j < m.la.length
        case pos =>
          have hdd : decide ((j : Int) < (m.la.length : Int)) = true := decide_eq_true (by omega)
          have hd2 : decide (j < m.la.length) = true := decide_eq_true hlt
          have hj1 : (j : Int) < (m.la.length : Int) := by omega
          have hj2 : (j : Int) < (n.la.length : Int) := by have := HEla.out; omega
          have hj2n : j < n.la.length := by have := HEla.out; omega
          have HW1 : Hid (wrap64 ((j : Int) + 1) = ((j + 1 : Nat) : Int)) := Lib.hid (nat_wrap (by have := HF.out.la; omega))
          have HJ := Lib.hid hlt
          have HNE : Hid (m.la.getD j false ≠ n.la.getD j false → sameB m n = false) := Lib.hid (fun h => same_la (fun e => h (by rw [e])))
          have HS : Hid (m.la.getD j false = n.la.getD j false → ∀ t, t < j + 1 → m.la.getD t false = n.la.getD t false) := Lib.hid (fun h t ht => by
            rcases Nat.lt_or_ge t j with h1 | h1
            · exact HI.out t h1
            · have : t = j := by omega
              subst this; exact h)
          obtain ⟨b1, o1, hx1, hr1⟩ := HMr.out.la j hlt
          obtain ⟨b2, o2, hx2, hr2⟩ := HNr.out.la j hj2n
          have c3 := HXr.out.c3
          have e3 := HYr.out.c3
          rw [hx1] at c3
          rw [hx2] at e3
          clear hlt hj2n hx1 hx2
          cases h1 : m.la.getD j false <;> cases h2 : n.la.getD j false <;> rw [h1] at hr1 HNE HS <;> rw [h2] at hr2 HNE HS <;> clear h1 h2
          · have HS2 := Lib.hid (HS.out rfl)
            go_wp2_with fail
            go_quiet (fail)
            go_wp2_with fail
            go_roundw
            case rel => exact ⟨j + 1, by rw [HW1.out], HJ.out, Lib.hid (HRB.out _ (below_drewN (Below.refl _ _) _)), HS2⟩
            case measure => rw [HW1.out]; exact meas8 HJ.out
          · have HR := Lib.hid (HNE.out (by decide))
            go_wp2_with fail
            go_quiet (fail)
            go_wp2_with fail
            go_ret
            exact ⟨by rw [HR.out]; rfl, HRE.out _ (HRB.out _ (below_drewN (Below.refl _ _) _))⟩
          · have HR := Lib.hid (HNE.out (by decide))
            go_wp2_with fail
            go_quiet (fail)
            go_wp2_with fail
            go_ret
            exact ⟨by rw [HR.out]; rfl, HRE.out _ (HRB.out _ (below_drewN (Below.refl _ _) _))⟩
          · have HS2 := Lib.hid (HS.out rfl)
            go_wp2_with fail
            go_quiet (fail)
            go_wp2_with fail
            go_roundw
            case rel => exact ⟨j + 1, by rw [HW1.out], HJ.out, Lib.hid (HRB.out _ (below_drewN (Below.refl _ _) _)), HS2⟩
            case measure => rw [HW1.out]; exact meas8 HJ.out
        case neg =>
          have hdd : decide ((j : Int) < (m.la.length : Int)) = false := decide_eq_false (by omega)
          have hd2 : decide (j < m.la.length) = false := decide_eq_false hlt
          have HQla : Hid (m.la = n.la) := Lib.hid (ext_getD false HEla.out (fun i hi => HI.out i (by omega)))
          have c3 := HXr.out.c3
          clear hlt
          go_wp2_with fail
          clear c3 hdd hd2 hj HI HXr HYr HMr HNr HXl HYl HRB HRE
          go_loopw [7] (fun i wr => ∃ j : Nat, i = .int .i64 j ∧ j ≤ m.fo.length ∧ Hid (Below w2.heap.size w2 wr) ∧ Hid (∀ t, t < j → m.fo.getD t [] = n.fo.getD t [])) (fun i _ => ((m.fo.length : Int) - intOf i).toNat)
          case atStart => exact ⟨0, rfl, Nat.zero_le _, HD, Lib.hid (fun t ht => by omega)⟩
          case round =>
            clear HD w6
            obtain ⟨j, rfl, hj, HD, HI⟩ := hrel
            generalize hwr : wr = w8 at *
            clear hwr wr
            have HXr := Lib.hid (HX.out.kept HD.out HXL.out)
            have HYr := Lib.hid (HY.out.kept HD.out HYL.out)
            have HMr := Lib.hid (HM.out.kept HD.out)
            have HNr := Lib.hid (HN.out.kept HD.out)
            have HXl := Lib.hid HXr.out.lt
            have HYl := Lib.hid HYr.out.lt
            have HRB : Hid (∀ w', Below w8.heap.size w8 w' → Below w2.heap.size w2 w') := Lib.hid (fun w' h => HD.out.trans (h.mono HD.out.size))
            have HRE : Hid (∀ w', Below w2.heap.size w2 w' → Below w.heap.size w w') := Lib.hid (fun w' h => by rw [hBq.out]; exact HB.out.trans (h.mono (Nat.le_of_lt HXL.out)))
            by_cases hlt : j < m.fo.length
            case pos =>
              have hdd : decide ((j : Int) < (m.fo.length : Int)) = true := decide_eq_true (by omega)
              have hd2 : decide (j < m.fo.length) = true := decide_eq_true hlt
              have hj1 : (j : Int) < (m.fo.length : Int) := by omega
              have hj2 : (j : Int) < (n.fo.length : Int) := by have := HEfo.out; omega
              have hj2n : j < n.fo.length := by have := HEfo.out; omega
              have HW1 : Hid (wrap64 ((j : Int) + 1) = ((j + 1 : Nat) : Int)) := Lib.hid (nat_wrap (by have := HF.out.fo; omega))
              have HJ := Lib.hid hlt
              have HNE : Hid (m.fo.getD j [] ≠ n.fo.getD j [] → sameB m n = false) := Lib.hid (fun h => same_fo (fun e => h (by rw [e])))
              have HS : Hid (m.fo.getD j [] = n.fo.getD j [] → ∀ t, t < j + 1 → m.fo.getD t [] = n.fo.getD t []) := Lib.hid (fun h t ht => by
                rcases Nat.lt_or_ge t j with h1 | h1
                · exact HI.out t h1
                · have : t = j := by omega
                  subst this; exact h)
              obtain ⟨b1, o1, x1, k1, hx1, hr1, hn1⟩ := HMr.out.fo j hlt
              obtain ⟨b2, o2, x2, k2, hx2, hr2, hn2⟩ := HNr.out.fo j hj2n
              have c2 := HXr.out.c2
              have e2 := HYr.out.c2
              rw [hx1] at c2
              rw [hx2] at e2
              have HAL := Lib.hid (fun wz (hz : Below w8.heap.size w8 wz) => ralike_any x1 x2 k1 k2 (m.fo.getD j []) (n.fo.getD j []) wz (hn1.kept hz) (hn2.kept hz) (HF.out.each _ (getD_mem hlt)).1)
              clear hlt hj2n hx1 hx2 hn1 hn2
              generalize m.fo.getD j [] = l1 at *
              generalize n.fo.getD j [] = l2 at *
              by_cases hpq : l1 = l2
              case pos =>
                have HS2 := Lib.hid (HS.out hpq)
                rw [decide_eq_true hpq] at HAL
                clear hpq
                go_wp2_with fail
                go_quiet ((go_at_call 25; exact quiet_drewN (HAL.out _ (below_drewN (Below.refl _ _) _))))
                go_wp2_with fail
                go_roundw
                case rel => exact ⟨j + 1, by rw [HW1.out], HJ.out, Lib.hid (HRB.out _ (below_drewN (Below.refl _ _) _)), HS2⟩
                case measure => rw [HW1.out]; exact meas8 HJ.out
              case neg =>
                have HR := Lib.hid (HNE.out hpq)
                rw [decide_eq_false hpq] at HAL
                clear hpq
                go_wp2_with fail
                go_quiet ((go_at_call 25; exact quiet_drewN (HAL.out _ (below_drewN (Below.refl _ _) _))))
                go_wp2_with fail
                go_ret
                exact ⟨by rw [HR.out]; rfl, HRE.out _ (HRB.out _ (below_drewN (Below.refl _ _) _))⟩
            case neg =>
              have hdd : decide ((j : Int) < (m.fo.length : Int)) = false := decide_eq_false (by omega)
              have hd2 : decide (j < m.fo.length) = false := decide_eq_false hlt
              have HQfo : Hid (m.fo = n.fo) := Lib.hid (ext_getD [] HEfo.out (fun i hi => HI.out i (by omega)))
              have c2 := HXr.out.c2
              have HR : Hid (sameB m n = true) := Lib.hid (decide_eq_true ⟨HQsp.out, HEfi.out, HQfo.out, HQla.out, HEem.out⟩)
              clear hlt
              go_wp2_with fail
              go_ret
              exact ⟨by rw [HR.out]; rfl, HRE.out _ HD.out⟩
end Nf
end Go.Proofs.YtlbaecjmfgahgaaDoor
