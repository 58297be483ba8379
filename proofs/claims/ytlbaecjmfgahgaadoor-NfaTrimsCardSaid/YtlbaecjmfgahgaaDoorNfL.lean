/- The document's Right. -/
import Derived.Test.YtlbaecjmfgahgaaDoorNfK
namespace Go.Proofs.YtlbaecjmfgahgaaDoor
open Go.RowKit Sets Nf
namespace Nf
set_option maxHeartbeats 6400000 in
set_option maxRecDepth 100000 in
theorem rright_any (x : Ma) (m : Mc) (w : World) (h : MAt w x m) (hf : Fine m) :
    Calls Tryd.prog 11 #[.agg (mc x m)] w fun e w' => e = .returned (.bool (rightM m)) ∧ Below w.heap.size w w' := by
  have HM0 := Lib.hid h
  have HF := Lib.hid hf
  clear h hf
  go_enter Tryd.func11, Tryd.ntmps11
  go_upto_region 1 with fail
  have HX := Lib.hid (BoxM.new w x m)
  have HB := Lib.hid ((Below.refl w.heap.size w).alloc (Nat.le_refl _) (.cells (mc x m) 27))
  have HM := Lib.hid (HM0.out.kept HB.out)
  have c0 := HX.out.c0
  have c1 := HX.out.c1
  have c2 := HX.out.c2
  have c3 := HX.out.c3
  generalize w.alloc (.cells (mc x m) 27) = w1 at *
  obtain ⟨B, hBq⟩ : ∃ B, Hid (w.heap.size = B) := ⟨_, Lib.hid rfl⟩
  have HBs : Hid (Below B w w1) := Lib.hid (by rw [← hBq.out]; exact HB.out)
  rw [hBq.out] at HX c0 c1 c2 c3 ⊢
  clear HB
  have HBL := Lib.hid HX.out.lt
  by_cases hsh : m.sp.length ≤ 250 ∧ m.fo.length = m.sp.length ∧ m.la.length = m.sp.length
  · obtain ⟨s1, s2, s3⟩ := hsh
    have d1 : decide ((250 : Int) < (m.sp.length : Int)) = false := decide_eq_false (by omega)
    have d2 : (((m.fo.length : Nat) : Int) != ((m.sp.length : Nat) : Int)) = false := by rw [s2]; simp
    have d3 : (((m.la.length : Nat) : Int) != ((m.sp.length : Nat) : Int)) = false := by rw [s3]; simp
    have HRR : Hid (rightM m = (m.sp.all (fun s => decide (s.2 ≤ 2)) && (m.fo.all (rise m.sp.length) && rise m.sp.length m.fi))) := Lib.hid (by
      unfold rightM; rw [decide_eq_true s1, decide_eq_true s2, decide_eq_true s3]; rfl)
    have HS2 := Lib.hid s2
    clear s1 s2 s3
    have HRI := Lib.hid (rlist_any x.fa x.fc m.sp.length m.fi w1 HM.out.fi HF.out.fi HF.out.sp)
    cases hr : rise m.sp.length m.fi
    · rw [hr] at HRI
      have HR : Hid (rightM m = false) := Lib.hid (by rw [HRR.out, hr, Bool.and_false, Bool.and_false])
      clear hr
      go_wp2_with (go_at_call 30; refine HRI.out.mono ?_; rintro e w2 ⟨rfl, hb2⟩; have HB2 := Lib.hid hb2; clear hb2)
      go_ret
      exact ⟨by rw [HR.out]; rfl, by rw [hBq.out]; exact HBs.out.trans (HB2.out.mono (Nat.le_of_lt HBL.out))⟩
    · rw [hr] at HRI
      have HRR2 : Hid (rightM m = (m.sp.all (fun s => decide (s.2 ≤ 2)) && m.fo.all (rise m.sp.length))) := Lib.hid (by rw [HRR.out, hr, Bool.and_true])
      clear hr HRR
      go_wp2_with (go_at_call 30; refine HRI.out.mono ?_; rintro e w2 ⟨rfl, hb2⟩; have HB2 := Lib.hid hb2; have HX2 := Lib.hid (HX.out.kept hb2 HX.out.lt); clear hb2)
      have HBt : Hid (Below B w w2) := Lib.hid (HBs.out.trans (HB2.out.mono (Nat.le_of_lt HBL.out)))
      clear HRI c0 c1 c2 c3 HX HBs HBL HM
      go_loopw [4] (fun i wr => ∃ j : Nat, i = .int .i64 j ∧ j ≤ m.sp.length ∧ Hid (BoxM wr B x m) ∧ Hid (Below B w wr) ∧ Hid ((m.sp.take j).all (fun s => decide (s.2 ≤ 2)) = true) ∧ Hid ((m.fo.take j).all (rise m.sp.length) = true)) (fun i _ => ((m.sp.length : Int) - intOf i).toNat)
      case atStart => exact ⟨0, rfl, Nat.zero_le _, HX2, HBt, Lib.hid (by simp), Lib.hid (by simp)⟩
      case round =>
        obtain ⟨j, rfl, hj, HXr, HBr, HA, HO⟩ := hrel
        generalize hwr : wr = w3 at *
        clear hwr wr HX2 HBt HB2 w2
        have c0 := HXr.out.c0
        have c2 := HXr.out.c2
        have HM3 := Lib.hid (HM0.out.kept (hBq.out ▸ HBr.out))
        by_cases hlt : j < m.sp.length
        · have hdd : decide ((j : Int) < (m.sp.length : Int)) = true := decide_eq_true (by omega)
          have hd2 : decide (j < m.sp.length) = true := decide_eq_true hlt
          have hlo : j < m.fo.length := by rw [HS2.out]; exact hlt
          obtain ⟨b, o, hsa, hc⟩ := HM3.out.sp j hlt
          obtain ⟨b2, o2, a2, cp2, hoa, hc2, hn2⟩ := HM3.out.fo j hlo
          rw [hsa] at c0
          rw [hoa] at c2
          clear hsa hoa
          have HS := Lib.hid (all_snoc (fun s => decide (s.2 ≤ 2)) m.sp (0, 0) j hlt)
          have HST := Lib.hid (@all_stop _ (fun s => decide (s.2 ≤ 2)) m.sp (0, 0) j hlt)
          have HSo := Lib.hid (all_snoc (rise m.sp.length) m.fo [] j hlo)
          have HSTo := Lib.hid (@all_stop _ (rise m.sp.length) m.fo [] j hlo)
          have HK := Lib.hid (HF.out.each _ (getD_mem (d := []) hlo))
          have HW1 : Hid (wrap64 ((j : Int) + 1) = ((j + 1 : Nat) : Int)) := Lib.hid (nat_wrap (by have := HF.out.sp; omega))
          have HJ := Lib.hid hlt
          have hjs : (j : Int) < (m.sp.length : Int) := by omega
          have hjo : (j : Int) < (m.fo.length : Int) := by omega
          clear hlt hlo
          generalize m.sp.getD j (0, 0) = Y at *
          generalize m.fo.getD j [] = L at *
          have ht : w3.cell? ⟨b, o + j * 5 + 4, none⟩ = some (.int .u8 Y.2) := hc 4 _ rfl
          have HRL := Lib.hid (rlist_any a2 cp2 m.sp.length L w3 hn2 HK.out.1 HF.out.sp)
          clear hc hn2
          have HBL := Lib.hid HXr.out.lt
          by_cases hk : Y.2 ≤ 2
          · have hk2 : decide ((2 : Int) < (Y.2 : Int)) = false := decide_eq_false (by omega)
            have hk3 : decide (2 < Y.2) = false := decide_eq_false (by omega)
            cases hr : rise m.sp.length L
            · have HR : Hid (rightM m = false) := Lib.hid (by rw [HRR2.out, HSTo.out hr, Bool.and_false])
              rw [hr] at HRL
              clear hr hk
              go_wp2_with (go_at_call 30; refine HRL.out.mono ?_; rintro e w4 ⟨rfl, hb4⟩; have HB4 := Lib.hid hb4; clear hb4)
              go_ret
              exact ⟨by rw [HR.out]; rfl, by rw [hBq.out]; exact HBr.out.trans (HB4.out.mono (Nat.le_of_lt HBL.out))⟩
            · have HA3 : Hid ((m.sp.take (j + 1)).all (fun s => decide (s.2 ≤ 2)) = true) := Lib.hid (by rw [HS.out, HA.out, decide_eq_true hk]; rfl)
              have HO3 : Hid ((m.fo.take (j + 1)).all (rise m.sp.length) = true) := Lib.hid (by rw [HSo.out, HO.out, hr]; rfl)
              rw [hr] at HRL
              clear hr hk
              go_wp2_with (go_at_call 30; refine HRL.out.mono ?_; rintro e w4 ⟨rfl, hb4⟩; have HB4 := Lib.hid hb4; clear hb4)
              go_roundw
              case rel => exact ⟨j + 1, by rw [HW1.out], HJ.out, Lib.hid (HXr.out.kept HB4.out HXr.out.lt), Lib.hid (HBr.out.trans (HB4.out.mono (Nat.le_of_lt HBL.out))), HA3, HO3⟩
              case measure => rw [HW1.out]; exact meas8 HJ.out
          · have hk2 : decide ((2 : Int) < (Y.2 : Int)) = true := decide_eq_true (by omega)
            have hk3 : decide (2 < Y.2) = true := decide_eq_true (by omega)
            have HR : Hid (rightM m = false) := Lib.hid (by rw [HRR2.out, HST.out (decide_eq_false hk), Bool.false_and])
            clear hk
            go_wp2_with fail
            go_ret
            exact ⟨by rw [HR.out]; rfl, by rw [hBq.out]; exact HBr.out⟩
        · have hdd : decide ((j : Int) < (m.sp.length : Int)) = false := decide_eq_false (by omega)
          have hd2 : decide (j < m.sp.length) = false := decide_eq_false hlt
          have HR : Hid (rightM m = true) := Lib.hid (by rw [HRR2.out, ← all_take _ m.sp j (by omega), ← all_take _ m.fo j (by rw [HS2.out]; omega), HA.out, HO.out]; rfl)
          clear hlt
          go_wp2_with fail
          go_ret
          exact ⟨by rw [HR.out]; rfl, by rw [hBq.out]; exact HBr.out⟩
  · have HR : Hid (rightM m = false) := Lib.hid (by
      rw [Bool.eq_false_iff]
      intro h
      have h2 := (right_iff m).1 h
      exact hsh ⟨h2.many, h2.fol, h2.lal⟩)
    by_cases s1 : m.sp.length ≤ 250
    · have d1 : decide ((250 : Int) < (m.sp.length : Int)) = false := decide_eq_false (by omega)
      by_cases s2 : m.fo.length = m.sp.length
      · have s3 : ¬ m.la.length = m.sp.length := fun e => hsh ⟨s1, s2, e⟩
        have d2 : (((m.fo.length : Nat) : Int) != ((m.sp.length : Nat) : Int)) = false := by rw [s2]; simp
        have d3 : (((m.la.length : Nat) : Int) != ((m.sp.length : Nat) : Int)) = true := by rw [bne_iff_ne]; omega
        clear s1 s2 s3 hsh
        go_wp2_with fail
        go_ret
        exact ⟨by rw [HR.out]; rfl, by rw [hBq.out]; exact HBs.out⟩
      · have d2 : (((m.fo.length : Nat) : Int) != ((m.sp.length : Nat) : Int)) = true := by rw [bne_iff_ne]; omega
        clear s1 s2 hsh
        go_wp2_with fail
        go_ret
        exact ⟨by rw [HR.out]; rfl, by rw [hBq.out]; exact HBs.out⟩
    · have d1 : decide ((250 : Int) < (m.sp.length : Int)) = true := decide_eq_true (by omega)
      clear s1 hsh
      go_wp2_with fail
      go_ret
      exact ⟨by rw [HR.out]; rfl, by rw [hBq.out]; exact HBs.out⟩
end Nf
end Go.Proofs.YtlbaecjmfgahgaaDoor
