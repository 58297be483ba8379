/- Several texts in one. -/
import Derived.Test.YtghbgfkkdknmnaaDoorPqB3
import Derived.Deep.CutRange
import Derived.Deep.CutBlock
namespace Go.Proofs.YtghbgfkkdknmnaaDoor
open Go.RowKit Sets Nf
namespace Nf
theorem in_last (S c q : Nat) (hq : c / 64 = q) : (((wd S q / 2 ^ (c % 64) : Nat) : Int) % 2 == 1) = S.testBit c := by
  have h1 : (wd S q).testBit (c % 64) = S.testBit c := by
    rw [testBit_wd, decide_eq_true (Nat.mod_lt _ (by decide)), Bool.true_and]
    congr 1; omega
  rw [← h1, Nat.testBit_eq_decide_div_mod_eq]
  rw [Bool.eq_iff_iff, beq_iff_eq, decide_eq_true_iff]
  omega
theorem half_pow (n i : Nat) : n / 2 ^ i / 2 = n / 2 ^ (i + 1) := by rw [Nat.pow_succ, Nat.div_div_eq_div_mul]
set_option maxHeartbeats 6400000 in
set_option maxRecDepth 100000 in
theorem inN_any (S c : Nat) (w : World) (hc : c < 256) :
    Calls Tryd.prog 44 #[.agg (setC S), .int .u8 c] w fun e w' => e = .returned (.bool (S.testBit c)) ∧ Below w.heap.size w w' := by
  have HC := Lib.hid hc
  go_enter Tryd.func44, Tryd.ntmps44
  go_upto_region 1 with fail
  have HS := Lib.hid (SetB.new w S)
  have HB := Lib.hid ((Below.refl w.heap.size w).alloc (Nat.le_refl _) (.cells (setC S) 41))
  have HQ : ∃ q, q < 4 ∧ c / 64 = q := ⟨_, by omega, rfl⟩
  obtain ⟨q, hq4, hq⟩ := HQ
  have hcell := HS.out.cell hq4
  generalize w.alloc (.cells (setC S) 41) = w1 at *
  have HWL := Lib.hid (wd_lt S q)
  have HL := Lib.hid (in_last S c q hq)
  have HP := Lib.hid (half_pow (wd S q))
  have hq2 : (c : Int).tdiv 64 = (q : Int) := by rw [Int.tdiv_eq_ediv_of_nonneg (by omega)]; omega
  have hm2 : (c : Int).tmod 64 = ((c % 64 : Nat) : Int) := by rw [Int.tmod_eq_emod_of_nonneg (by omega)]; omega
  have hqw : IntKind.u8.wrap (q : Int) = (q : Int) := by unfold IntKind.wrap; simp [IntKind.signed, IntKind.bits]; omega
  have hmw : IntKind.u8.wrap ((c % 64 : Nat) : Int) = ((c % 64 : Nat) : Int) := by unfold IntKind.wrap; simp [IntKind.signed, IntKind.bits]; omega
  have hq5 : (q : Int) < 4 := by omega
  have HM : Hid (c % 64 < 64) := Lib.hid (Nat.mod_lt _ (by decide))
  clear hq hc
  generalize c % 64 = r at *
  have hr64 : r < 64 := HM.out
  generalize wd S q = z at *
  go_wp2_with fail
  go_loopw [5, 6] (fun x i wr => ∃ k : Nat, i = .int .u8 k ∧ x = .int .u64 ((z / 2 ^ k : Nat) : Int) ∧ k ≤ r ∧ wr = w1) (fun _ i _ => (r - (intOf i).toNat))
  case atStart => exact ⟨0, rfl, by rw [Nat.pow_zero, Nat.div_one], Nat.zero_le _, rfl⟩
  case round =>
    obtain ⟨k, rfl, rfl, hk, rfl⟩ := hrel
    have HP2 := Lib.hid (HP.out k)
    have hk1 : IntKind.u8.wrap ((k : Int) + 1) = ((k + 1 : Nat) : Int) := by unfold IntKind.wrap; simp [IntKind.signed, IntKind.bits]; omega
    by_cases hlt : k < r
    · have hdd : decide ((k : Int) < (r : Int)) = true := decide_eq_true (by omega)
      have hd2 : decide (k < r) = true := decide_eq_true hlt
      have HZ : Hid (((z / 2 ^ k : Nat) : Int) / 2 = ((z / 2 ^ (k + 1) : Nat) : Int)) := Lib.hid (by rw [← HP2.out]; omega)
      have HJ := Lib.hid hlt
      have HZL : Hid (z / 2 ^ (k + 1) < 18446744073709551616) := Lib.hid (Nat.lt_of_le_of_lt (Nat.div_le_self _ _) HWL.out)
      have HSU : Hid (((z / 2 ^ (k + 1) : Nat) : Int) = ((z / 2 ^ (k + 1) : Nat) : Int)) := Lib.hid rfl
      generalize z / 2 ^ k = y at *
      generalize hy2 : z / 2 ^ (k + 1) = y2 at *
      have HY2 := Lib.hid hy2
      clear hlt hy2 HSU
      have hw2 : IntKind.u64.wrap ((y : Int) / 2) = (y2 : Int) := by rw [HZ.out, IntKind.wrap_u64]; have := HZL.out; omega
      go_wp2_with fail
      go_roundw
      case rel => exact ⟨k + 1, rfl, by rw [HY2.out], HJ.out, by first | rfl | trivial⟩
      case measure => have := HJ.out; simp only [intOf]; omega
    · have hkr : k = r := by omega
      subst hkr
      have hdd : decide ((k : Int) < (k : Int)) = false := decide_eq_false (by omega)
      have hlz : ∀ y : Nat, ((y : Int) % 2 == 1) = ((y : Int) % 2 == 1) := fun _ => rfl
      generalize z / 2 ^ k = y at *
      go_wp2_with fail
      go_ret
      exact ⟨by rw [← HL.out]; rfl, HB.out⟩
set_option maxHeartbeats 3200000 in
set_option maxRecDepth 100000 in
theorem hasN_any (a : Option Addr) (cap : Nat) (k : Int) (l : List Int) (w : World) (h : NumsIn w a l) (hl : l.length ≤ 1000) :
    Calls Tryd.prog 43 #[.slice a l.length cap, .int .i64 k] w fun e w' => e = .returned (.bool (l.contains k)) ∧ w = w' := by
  have HN := Lib.hid h
  have HL := Lib.hid hl
  clear h hl
  go_enter Tryd.func43, Tryd.ntmps43
  go_wp2_with fail
  go_loopw [5] (fun i wr => ∃ j : Nat, i = .int .i64 j ∧ j ≤ l.length ∧ wr = w ∧ Hid ((l.take j).contains k = false)) (fun i _ => ((l.length : Int) - intOf i).toNat)
  case atStart => exact ⟨0, rfl, Nat.zero_le _, rfl, Lib.hid (by simp)⟩
  case round =>
    obtain ⟨j, rfl, hj, rfl, HI⟩ := hrel
    by_cases hlt : j < l.length
    · have hdd : decide ((j : Int) < (l.length : Int)) = true := decide_eq_true (by omega)
      have hd2 : decide (j < l.length) = true := decide_eq_true hlt
      obtain ⟨b, o, rfl, hc⟩ := HN.out j hlt
      have HM : Hid (l.getD j 0 ∈ l) := Lib.hid (getD_mem hlt)
      have HT : Hid (l.getD j 0 ≠ k → (l.take (j + 1)).contains k = false) := Lib.hid (fun hne => by
        rw [List.take_succ_eq_append_getElem hlt, Bool.eq_false_iff]
        intro hh
        rw [List.contains_iff_mem, List.mem_append, List.mem_singleton] at hh
        rw [List.getD_eq_getElem?_getD, List.getElem?_eq_getElem hlt] at hne
        rcases hh with hh | hh
        · have h3 := HI.out
          rw [Bool.eq_false_iff] at h3
          exact h3 (List.contains_iff_mem.2 hh)
        · exact hne hh.symm)
      have HW1 : Hid (wrap64 ((j : Int) + 1) = ((j + 1 : Nat) : Int)) := Lib.hid (nat_wrap (by have := HL.out; omega))
      have HJ := Lib.hid hlt
      clear hlt
      generalize l.getD j 0 = z at *
      by_cases hz : z = k
      · have hb : (z == k) = true := by rw [beq_iff_eq]; exact hz
        have HR : Hid (l.contains k = true) := Lib.hid (List.contains_iff_mem.2 (hz ▸ HM.out))
        clear hz
        go_wp2_with fail
        go_ret
        exact ⟨by rw [HR.out]; rfl, rfl⟩
      · have hb : (z == k) = false := by rw [beq_eq_false_iff_ne]; exact hz
        have HI2 := Lib.hid (HT.out hz)
        clear hz
        go_wp2_with fail
        go_roundw
        case rel => exact ⟨j + 1, by rw [HW1.out], HJ.out, by first | rfl | trivial, HI2⟩
        case measure => rw [HW1.out]; exact meas8 HJ.out
    · have hdd : decide ((j : Int) < (l.length : Int)) = false := decide_eq_false (by omega)
      have hd2 : decide (j < l.length) = false := decide_eq_false hlt
      have HR : Hid (l.contains k = false) := Lib.hid (by rw [← HI.out, List.take_of_length_le (by omega)])
      clear hlt
      go_wp2_with fail
      go_ret
      exact ⟨by rw [HR.out]; rfl, rfl⟩
def lowAt (l : List Int) (j : Nat) : Int := if j = 0 then 0 else l.getD (j - 1) 0 + 1
set_option maxHeartbeats 6400000 in
set_option maxRecDepth 100000 in
theorem rlist_any (a : Option Addr) (cap n : Nat) (l : List Int) (w : World) (h : NumsIn w a l) (hl : l.length ≤ 1000) (hn : n ≤ 1000) :
    Calls Tryd.prog 58 #[.slice a l.length cap, .int .i64 n] w fun e w' => e = .returned (.bool (rise n l)) ∧ Below w.heap.size w w' := by
  have HX : Hid (rise n l = riseF n (lowAt l 0) (l.drop 0)) := Lib.hid rfl
  have HN := Lib.hid h
  have HL := Lib.hid hl
  have HB := Lib.hid hn
  clear h hl hn
  go_enter Tryd.func58, Tryd.ntmps58
  go_wp2_with fail
  go_loopw [5] (fun i wr => ∃ (j k : Nat), i = .int .i64 j ∧ j ≤ l.length ∧ wr = w.drewN k ∧ Hid (0 ≤ lowAt l j ∧ rise n l = riseF n (lowAt l j) (l.drop j))) (fun i _ => ((l.length : Int) - intOf i).toNat)
  case atStart => exact ⟨0, 0, rfl, Nat.zero_le _, by rw [World.drewN_zero], Lib.hid ⟨by unfold lowAt; simp, HX.out⟩⟩
  case round =>
    obtain ⟨j, q, rfl, hj, rfl, HI⟩ := hrel
    by_cases hlt : j < l.length
    · have hdd : decide ((j : Int) < (l.length : Int)) = true := decide_eq_true (by omega)
      have hd2 : decide (j < l.length) = true := decide_eq_true hlt
      obtain ⟨b, o, rfl, hc⟩ := HN.out j hlt
      have HS := Lib.hid (riseF_drop n (lowAt l j) l j hlt)
      have HW1 : Hid (wrap64 ((j : Int) + 1) = ((j + 1 : Nat) : Int)) := Lib.hid (nat_wrap (by have := HL.out; omega))
      have HNX : Hid (lowAt l (j + 1) = l.getD j 0 + 1) := Lib.hid (by unfold lowAt; rw [if_neg (by omega), Nat.add_sub_cancel])
      have HJ := Lib.hid hlt
      have hjl : (j : Int) < (l.length : Int) := by omega
      by_cases h1 : l.getD j 0 < 0
      · have hd3 : decide (l.getD j 0 < 0) = true := decide_eq_true h1
        have HR : Hid (rise n l = false) := Lib.hid (by rw [HI.out.2, HS.out, decide_eq_false (by have := HI.out.1; omega), Bool.false_and])
        clear h1 hlt
        generalize l.getD j 0 = z at *
        go_wp2_with fail
        go_quiet (fail)
        go_wp2_with fail
        go_ret
        exact ⟨by rw [HR.out]; rfl, below_drewN (below_drewN (Below.refl _ _) _) _⟩
      · have hd3 : decide (l.getD j 0 < 0) = false := decide_eq_false h1
        by_cases h2 : (n : Int) ≤ l.getD j 0
        · have hd4 : decide ((n : Int) ≤ l.getD j 0) = true := decide_eq_true h2
          have HR : Hid (rise n l = false) := Lib.hid (by rw [HI.out.2, HS.out, decide_eq_false (p := l.getD j 0 < (n : Int)) (by omega), Bool.false_and, Bool.and_false])
          clear h1 h2 hlt
          generalize l.getD j 0 = z at *
          go_wp2_with fail
          go_quiet (fail)
          go_wp2_with fail
          go_ret
          exact ⟨by rw [HR.out]; rfl, below_drewN (below_drewN (Below.refl _ _) _) _⟩
        · have hd4 : decide ((n : Int) ≤ l.getD j 0) = false := decide_eq_false h2
          have HRG : Hid (lowAt l j ≤ l.getD j 0 → rise n l = riseF n (lowAt l (j + 1)) (l.drop (j + 1)) ∧ 0 ≤ lowAt l (j + 1)) := Lib.hid (fun h => ⟨by
            rw [HI.out.2, HS.out, decide_eq_true h, decide_eq_true (p := l.getD j 0 < (n : Int)) (by omega), Bool.true_and, Bool.true_and, HNX.out], by rw [HNX.out]; omega⟩)
          have HRB : Hid (¬ lowAt l j ≤ l.getD j 0 → rise n l = false) := Lib.hid (fun h => by rw [HI.out.2, HS.out, decide_eq_false h, Bool.false_and])
          have HLA : Hid (lowAt l j = if j = 0 then 0 else l.getD (j - 1) 0 + 1) := Lib.hid rfl
          have HPC : Hid (0 < j → w.cell? ⟨b, o + (j - 1), none⟩ = some (.int .i64 (l.getD (j - 1) 0))) := Lib.hid (fun h => by
            obtain ⟨b', o', e, hc'⟩ := HN.out (j - 1) (by omega)
            injection e with e
            injection e with e1 e2
            subst e1 e2
            exact hc')
          have hz0 : ¬ l.getD j 0 < 0 := h1
          clear h2 hlt HNX HS HI
          generalize l.getD j 0 = z at *
          by_cases hj0 : j = 0
          · subst hj0
            have hd5 : decide ((0 : Int) < ((0 : Nat) : Int)) = false := by decide
            have HRG2 := Lib.hid (HRG.out (by rw [HLA.out, if_pos rfl]; omega))
            clear h1 hz0
            have hj0 : (0 : Int) < (l.length : Int) := by have := HJ.out; omega
            have hc0 : w.cell? ⟨b, o, none⟩ = some (.int .i64 z) := hc
            go_wp2_with fail
            go_quiet (fail)
            go_wp2_with fail
            go_roundw
            case rel => exact ⟨1, _, by first | rfl | rw [HW1.out], HJ.out, rfl, Lib.hid ⟨HRG2.out.2, HRG2.out.1⟩⟩
            case measure => have := HJ.out; simp [intOf]; omega
          · obtain ⟨p, hp⟩ : ∃ p, Hid (j = p + 1) := ⟨j - 1, Lib.hid (by omega)⟩
            have hd5 : decide ((0 : Int) < (j : Int)) = true := decide_eq_true (by omega)
            have hd5' : decide (0 < j) = true := decide_eq_true (by omega)
            have hcp := HPC.out (by omega)
            rw [hp.out, Nat.add_sub_cancel] at hcp
            have HLA2 : Hid (lowAt l j = l.getD p 0 + 1) := Lib.hid (by rw [HLA.out, if_neg hj0, hp.out, Nat.add_sub_cancel])
            have hpl : (p : Int) < (l.length : Int) := by have h3 := HJ.out; have h4 := hp.out; omega
            have hw : wrap64 ((j : Int) - 1) = (p : Int) := by have h3 := HJ.out; have h4 := hp.out; have h5 := HL.out; unfold wrap64; omega
            generalize l.getD p 0 = y at *
            by_cases h5 : z ≤ y
            · have hd6 : decide (z ≤ y) = true := decide_eq_true h5
              have HR := Lib.hid (HRB.out (by rw [HLA2.out]; omega))
              clear h1 hz0 h5 hj0
              go_wp2_with fail
              go_quiet (fail)
              go_wp2_with fail
              go_ret
              exact ⟨by rw [HR.out]; rfl, below_drewN (below_drewN (Below.refl _ _) _) _⟩
            · have hd6 : decide (z ≤ y) = false := decide_eq_false h5
              have HRG2 := Lib.hid (HRG.out (by rw [HLA2.out]; omega))
              clear h1 hz0 h5 hj0
              go_wp2_with fail
              go_quiet (fail)
              go_wp2_with fail
              go_roundw
              case rel => exact ⟨j + 1, _, by first | rfl | rw [HW1.out], HJ.out, rfl, Lib.hid ⟨HRG2.out.2, HRG2.out.1⟩⟩
              case measure => rw [HW1.out]; exact meas8 HJ.out
    · have hdd : decide ((j : Int) < (l.length : Int)) = false := decide_eq_false (by omega)
      have hd2 : decide (j < l.length) = false := decide_eq_false hlt
      have HR : Hid (rise n l = true) := Lib.hid (by rw [HI.out.2, riseF_end _ _ _ _ (by omega)])
      clear hlt
      go_wp2_with fail
      go_ret
      exact ⟨by rw [HR.out]; rfl, below_drewN (Below.refl _ _) _⟩
end Nf
end Go.Proofs.YtghbgfkkdknmnaaDoor
namespace Go.Proofs.YtghbgfkkdknmnaaDoor
open Go.RowKit Sets Nf
namespace Nf
set_option maxHeartbeats 6400000 in
set_option maxRecDepth 100000 in
theorem rright_any (x : Ma) (m : Mc) (w : World) (h : MAt w x m) (hf : Fine m) :
    Calls Tryd.prog 32 #[.agg (mc x m)] w fun e w' => e = .returned (.bool (rightM m)) ∧ Below w.heap.size w w' := by
  have HM0 := Lib.hid h
  have HF := Lib.hid hf
  clear h hf
  go_enter Tryd.func32, Tryd.ntmps32
  go_upto_region 1 with fail
  have HX := Lib.hid (BoxM.new w x m)
  have HB := Lib.hid ((Below.refl w.heap.size w).alloc (Nat.le_refl _) (.cells (mc x m) 27))
  have HM := Lib.hid (HM0.out.kept HB.out)
  have c0 := HX.out.c0
  have c1 := HX.out.c1
  have c2 := HX.out.c2
  have c3 := HX.out.c3
  generalize w.alloc (.cells (mc x m) 27) = w1 at *
  obtain ⟨B, hBq⟩ : ∃ B, Hid (w.heap.size = B) := ⟨_, Lib.hid rfl⟩
  have HBs : Hid (Below B w w1) := Lib.hid (by rw [← hBq.out]; exact HB.out)
  rw [hBq.out] at HX c0 c1 c2 c3 ⊢
  clear HB
  have HBL := Lib.hid HX.out.lt
  by_cases hsh : m.sp.length ≤ 250 ∧ m.fo.length = m.sp.length ∧ m.la.length = m.sp.length
  · obtain ⟨s1, s2, s3⟩ := hsh
    have d1 : decide ((250 : Int) < (m.sp.length : Int)) = false := decide_eq_false (by omega)
    have d2 : (((m.fo.length : Nat) : Int) != ((m.sp.length : Nat) : Int)) = false := by rw [s2]; simp
    have d3 : (((m.la.length : Nat) : Int) != ((m.sp.length : Nat) : Int)) = false := by rw [s3]; simp
    have HRR : Hid (rightM m = (m.sp.all (fun s => decide (s.2 ≤ 2)) && (m.fo.all (rise m.sp.length) && rise m.sp.length m.fi))) := Lib.hid (by
      unfold rightM; rw [decide_eq_true s1, decide_eq_true s2, decide_eq_true s3]; rfl)
    have HS2 := Lib.hid s2
    clear s1 s2 s3
    have HRI := Lib.hid (rlist_any x.fa x.fc m.sp.length m.fi w1 HM.out.fi HF.out.fi HF.out.sp)
    cases hr : rise m.sp.length m.fi
    · rw [hr] at HRI
      have HR : Hid (rightM m = false) := Lib.hid (by rw [HRR.out, hr, Bool.and_false, Bool.and_false])
      clear hr
      go_wp2_with (go_at_call 58; refine HRI.out.mono ?_; rintro e w2 ⟨rfl, hb2⟩; have HB2 := Lib.hid hb2; clear hb2)
      go_ret
      exact ⟨by rw [HR.out]; rfl, by rw [hBq.out]; exact HBs.out.trans (HB2.out.mono (Nat.le_of_lt HBL.out))⟩
    · rw [hr] at HRI
      have HRR2 : Hid (rightM m = (m.sp.all (fun s => decide (s.2 ≤ 2)) && m.fo.all (rise m.sp.length))) := Lib.hid (by rw [HRR.out, hr, Bool.and_true])
      clear hr HRR
      go_wp2_with (go_at_call 58; refine HRI.out.mono ?_; rintro e w2 ⟨rfl, hb2⟩; have HB2 := Lib.hid hb2; have HX2 := Lib.hid (HX.out.kept hb2 HX.out.lt); clear hb2)
      have HBt : Hid (Below B w w2) := Lib.hid (HBs.out.trans (HB2.out.mono (Nat.le_of_lt HBL.out)))
      clear HRI c0 c1 c2 c3 HX HBs HBL HM
      go_loopw [4] (fun i wr => ∃ j : Nat, i = .int .i64 j ∧ j ≤ m.sp.length ∧ Hid (BoxM wr B x m) ∧ Hid (Below B w wr) ∧ Hid ((m.sp.take j).all (fun s => decide (s.2 ≤ 2)) = true) ∧ Hid ((m.fo.take j).all (rise m.sp.length) = true)) (fun i _ => ((m.sp.length : Int) - intOf i).toNat)
      case atStart => exact ⟨0, rfl, Nat.zero_le _, HX2, HBt, Lib.hid (by simp), Lib.hid (by simp)⟩
      case round =>
        obtain ⟨j, rfl, hj, HXr, HBr, HA, HO⟩ := hrel
        generalize hwr : wr = w3 at *
        clear hwr wr HX2 HBt HB2 w2
        have c0 := HXr.out.c0
        have c2 := HXr.out.c2
        have HM3 := Lib.hid (HM0.out.kept (hBq.out ▸ HBr.out))
        by_cases hlt : j < m.sp.length
        · have hdd : decide ((j : Int) < (m.sp.length : Int)) = true := decide_eq_true (by omega)
          have hd2 : decide (j < m.sp.length) = true := decide_eq_true hlt
          have hlo : j < m.fo.length := by rw [HS2.out]; exact hlt
          obtain ⟨b, o, hsa, hc⟩ := HM3.out.sp j hlt
          obtain ⟨b2, o2, a2, cp2, hoa, hc2, hn2⟩ := HM3.out.fo j hlo
          rw [hsa] at c0
          rw [hoa] at c2
          clear hsa hoa
          have HS := Lib.hid (all_snoc (fun s => decide (s.2 ≤ 2)) m.sp (0, 0) j hlt)
          have HST := Lib.hid (@all_stop _ (fun s => decide (s.2 ≤ 2)) m.sp (0, 0) j hlt)
          have HSo := Lib.hid (all_snoc (rise m.sp.length) m.fo [] j hlo)
          have HSTo := Lib.hid (@all_stop _ (rise m.sp.length) m.fo [] j hlo)
          have HK := Lib.hid (HF.out.each _ (getD_mem (d := []) hlo))
          have HW1 : Hid (wrap64 ((j : Int) + 1) = ((j + 1 : Nat) : Int)) := Lib.hid (nat_wrap (by have := HF.out.sp; omega))
          have HJ := Lib.hid hlt
          have hjs : (j : Int) < (m.sp.length : Int) := by omega
          have hjo : (j : Int) < (m.fo.length : Int) := by omega
          clear hlt hlo
          generalize m.sp.getD j (0, 0) = Y at *
          generalize m.fo.getD j [] = L at *
          have ht : w3.cell? ⟨b, o + j * 5 + 4, none⟩ = some (.int .u8 Y.2) := hc 4 _ rfl
          have HRL := Lib.hid (rlist_any a2 cp2 m.sp.length L w3 hn2 HK.out.1 HF.out.sp)
          clear hc hn2
          have HBL := Lib.hid HXr.out.lt
          by_cases hk : Y.2 ≤ 2
          · have hk2 : decide ((2 : Int) < (Y.2 : Int)) = false := decide_eq_false (by omega)
            have hk3 : decide (2 < Y.2) = false := decide_eq_false (by omega)
            cases hr : rise m.sp.length L
            · have HR : Hid (rightM m = false) := Lib.hid (by rw [HRR2.out, HSTo.out hr, Bool.and_false])
              rw [hr] at HRL
              clear hr hk
              go_wp2_with (go_at_call 58; refine HRL.out.mono ?_; rintro e w4 ⟨rfl, hb4⟩; have HB4 := Lib.hid hb4; clear hb4)
              go_ret
              exact ⟨by rw [HR.out]; rfl, by rw [hBq.out]; exact HBr.out.trans (HB4.out.mono (Nat.le_of_lt HBL.out))⟩
            · have HA3 : Hid ((m.sp.take (j + 1)).all (fun s => decide (s.2 ≤ 2)) = true) := Lib.hid (by rw [HS.out, HA.out, decide_eq_true hk]; rfl)
              have HO3 : Hid ((m.fo.take (j + 1)).all (rise m.sp.length) = true) := Lib.hid (by rw [HSo.out, HO.out, hr]; rfl)
              rw [hr] at HRL
              clear hr hk
              go_wp2_with (go_at_call 58; refine HRL.out.mono ?_; rintro e w4 ⟨rfl, hb4⟩; have HB4 := Lib.hid hb4; clear hb4)
              go_roundw
              case rel => exact ⟨j + 1, by rw [HW1.out], HJ.out, Lib.hid (HXr.out.kept HB4.out HXr.out.lt), Lib.hid (HBr.out.trans (HB4.out.mono (Nat.le_of_lt HBL.out))), HA3, HO3⟩
              case measure => rw [HW1.out]; exact meas8 HJ.out
          · have hk2 : decide ((2 : Int) < (Y.2 : Int)) = true := decide_eq_true (by omega)
            have hk3 : decide (2 < Y.2) = true := decide_eq_true (by omega)
            have HR : Hid (rightM m = false) := Lib.hid (by rw [HRR2.out, HST.out (decide_eq_false hk), Bool.false_and])
            clear hk
            go_wp2_with fail
            go_ret
            exact ⟨by rw [HR.out]; rfl, by rw [hBq.out]; exact HBr.out⟩
        · have hdd : decide ((j : Int) < (m.sp.length : Int)) = false := decide_eq_false (by omega)
          have hd2 : decide (j < m.sp.length) = false := decide_eq_false hlt
          have HR : Hid (rightM m = true) := Lib.hid (by rw [HRR2.out, ← all_take _ m.sp j (by omega), ← all_take _ m.fo j (by rw [HS2.out]; omega), HA.out, HO.out]; rfl)
          clear hlt
          go_wp2_with fail
          go_ret
          exact ⟨by rw [HR.out]; rfl, by rw [hBq.out]; exact HBr.out⟩
  · have HR : Hid (rightM m = false) := Lib.hid (by
      rw [Bool.eq_false_iff]
      intro h
      have h2 := (right_iff m).1 h
      exact hsh ⟨h2.many, h2.fol, h2.lal⟩)
    by_cases s1 : m.sp.length ≤ 250
    · have d1 : decide ((250 : Int) < (m.sp.length : Int)) = false := decide_eq_false (by omega)
      by_cases s2 : m.fo.length = m.sp.length
      · have s3 : ¬ m.la.length = m.sp.length := fun e => hsh ⟨s1, s2, e⟩
        have d2 : (((m.fo.length : Nat) : Int) != ((m.sp.length : Nat) : Int)) = false := by rw [s2]; simp
        have d3 : (((m.la.length : Nat) : Int) != ((m.sp.length : Nat) : Int)) = true := by rw [bne_iff_ne]; omega
        clear s1 s2 s3 hsh
        go_wp2_with fail
        go_ret
        exact ⟨by rw [HR.out]; rfl, by rw [hBq.out]; exact HBs.out⟩
      · have d2 : (((m.fo.length : Nat) : Int) != ((m.sp.length : Nat) : Int)) = true := by rw [bne_iff_ne]; omega
        clear s1 s2 hsh
        go_wp2_with fail
        go_ret
        exact ⟨by rw [HR.out]; rfl, by rw [hBq.out]; exact HBs.out⟩
    · have d1 : decide ((250 : Int) < (m.sp.length : Int)) = true := decide_eq_true (by omega)
      clear s1 hsh
      go_wp2_with fail
      go_ret
      exact ⟨by rw [HR.out]; rfl, by rw [hBq.out]; exact HBs.out⟩
end Nf
end Go.Proofs.YtghbgfkkdknmnaaDoor
namespace Go.Proofs.YtghbgfkkdknmnaaDoor
open Go.RowKit Sets Nf
namespace Nf
def frP (m : Mc) (l : List Int) (k : Nat) : Bool := l.any fun i => (m.fo.getD i.toNat []).contains (k : Int)
def stepP (m : Mc) (l : List Int) (start : Bool) (c k : Nat) : Bool := ((start && m.fi.contains (k : Int)) || frP m l k) && (stN m k).testBit c
def stepL (m : Mc) (l : List Int) (start : Bool) (c j : Nat) : List Int := ((List.range j).filter (stepP m l start c)).map fun k : Nat => (k : Int)
theorem stepL_succ (m : Mc) (l : List Int) (start : Bool) (c j : Nat) : stepL m l start c (j + 1) = if stepP m l start c j then stepL m l start c j ++ [(j : Int)] else stepL m l start c j := by
  unfold stepL
  rw [List.range_succ, List.filter_append, List.map_append, List.filter_cons]
  by_cases h : stepP m l start c j = true
  · rw [if_pos h, if_pos h]; rfl
  · rw [if_neg h, if_neg h]; simp
theorem stepL_len (m : Mc) (l : List Int) (start : Bool) (c j : Nat) : (stepL m l start c j).length ≤ j := by
  unfold stepL
  rw [List.length_map]
  refine Nat.le_trans (List.length_filter_le _ _) ?_
  rw [List.length_range]; exact Nat.le_refl _
theorem stepL_mem (m : Mc) (l : List Int) (start : Bool) (c j : Nat) (i : Int) : i ∈ stepL m l start c j ↔ ∃ k : Nat, i = k ∧ k < j ∧ stepP m l start c k = true := by
  unfold stepL
  simp only [List.mem_map, List.mem_filter, List.mem_range]
  constructor
  · rintro ⟨k, ⟨h1, h2⟩, rfl⟩; exact ⟨k, rfl, h1, h2⟩
  · rintro ⟨k, rfl, h1, h2⟩; exact ⟨k, ⟨h1, h2⟩, rfl⟩
theorem frP_take (m : Mc) (l : List Int) (k n : Nat) (h : n < l.length) : frP m (l.take (n + 1)) k = (frP m (l.take n) k || (m.fo.getD (l.getD n 0).toNat []).contains (k : Int)) := by
  unfold frP
  exact any_snoc _ l 0 n h
theorem frP_of (m : Mc) (l : List Int) (k n : Nat) (h : frP m (l.take n) k = true) : frP m l k = true := by
  unfold frP at *
  rw [List.any_eq_true] at *
  obtain ⟨x, hx, h⟩ := h
  exact ⟨x, List.mem_of_mem_take hx, h⟩
set_option maxHeartbeats 6400000 in
set_option maxRecDepth 100000 in
theorem rstep_any (x : Ma) (m : Mc) (w : World) (h : MAt w x m) (hf : Fine m) (a : Option Addr) (cap : Nat) (l : List Int) (hl : NumsIn w a l) (hll : l.length ≤ 1000) (hlr : ∀ i ∈ l, 0 ≤ i ∧ i < m.fo.length) (start : Bool) (c : Nat) (hc : c < 256) :
    Calls Tryd.prog 21 #[.agg (mc x m), .slice a l.length cap, .bool start, .int .u8 c] w fun e w' => ∃ v, e = .returned v ∧ OwnN w.heap.size w' v (stepL m l start c m.sp.length) ∧ Below w.heap.size w w' := by
  have HM0 := Lib.hid h
  have HF := Lib.hid hf
  have HL0 := Lib.hid hl
  have HLL := Lib.hid hll
  have HLR := Lib.hid hlr
  have HC := Lib.hid hc
  clear h hf hl hll hlr hc
  go_enter Tryd.func21, Tryd.ntmps21
  go_upto_region 1 with fail
  have HX := Lib.hid (BoxM.new w x m)
  have HB := Lib.hid ((Below.refl w.heap.size w).alloc (Nat.le_refl _) (.cells (mc x m) 27))
  have HM := Lib.hid (HM0.out.kept HB.out)
  have HL := Lib.hid (HL0.out.kept HB.out)
  generalize w.alloc (.cells (mc x m) 27) = w1 at *
  obtain ⟨B, hBq⟩ : ∃ B, Hid (w.heap.size = B) := ⟨_, Lib.hid rfl⟩
  have HBs : Hid (Below B w w1) := Lib.hid (by rw [← hBq.out]; exact HB.out)
  rw [hBq.out] at HX ⊢
  clear HB HM0 HL0
  have HBL := Lib.hid HX.out.lt
  go_wp2_with fail
  go_loopw [9, 10] (fun v i wr => ∃ j : Nat, i = .int .i64 j ∧ j ≤ m.sp.length ∧ Hid (OwnN w1.heap.size wr v (stepL m l start c j)) ∧ Hid (Below w1.heap.size w1 wr)) (fun _ i _ => ((m.sp.length : Int) - intOf i).toNat)
  case atStart => exact ⟨0, rfl, Nat.zero_le _, Lib.hid (OwnN.nil _ _), Lib.hid (Below.refl _ _)⟩
  case round =>
    rename_i v0 i0
    obtain ⟨j, rfl, hj, HO, HB⟩ := hrel
    generalize hwr : wr = w2 at *
    clear hwr wr
    have HX2 := Lib.hid (HX.out.kept HB.out HBL.out)
    have HM2 := Lib.hid (HM.out.kept HB.out)
    have HL2 := Lib.hid (HL.out.kept HB.out)
    have c0 := HX2.out.c0
    have c1 := HX2.out.c1
    have c2 := HX2.out.c2
    by_cases hlt : j < m.sp.length
    · have hdd : decide ((j : Int) < (m.sp.length : Int)) = true := decide_eq_true (by omega)
      have hd2 : decide (j < m.sp.length) = true := decide_eq_true hlt
      have HJ := Lib.hid hlt
      have hjl : (j : Int) < (m.sp.length : Int) := by omega
      have HW1 : Hid (wrap64 ((j : Int) + 1) = ((j + 1 : Nat) : Int)) := Lib.hid (nat_wrap (by have := HF.out.sp; omega))
      obtain ⟨b, o, hsa, hrow⟩ := HM2.out.sp j hlt
      rw [hsa] at c0
      have HT := Lib.hid (stepL_succ m l start c j)
      have HP : Hid (stepP m l start c j = (((start && m.fi.contains (j : Int)) || frP m l j) && (stN m j).testBit c)) := Lib.hid rfl
      clear hlt hsa
      have HHS := Lib.hid (hasN_any x.fa x.fc (j : Int) m.fi w2 HM2.out.fi HF.out.fi)
      generalize m.fi.contains (j : Int) = fc at HHS HP
      go_upto_region 5 with fail
      go_cut [11] from 13 to 61 (fun f wx => wx = w2 ∧ f = .bool (start && fc))
      case first =>
        cases start
        · go_wp2_with fail
          go_meet
          case rel => exact ⟨rfl, rfl⟩
        · go_wp2_with (go_at_call 43; refine HHS.out.mono ?_; rintro e w3 ⟨rfl, rfl⟩)
          go_meet
          case rel => exact ⟨rfl, rfl⟩
      case rest =>
        obtain ⟨rfl, rfl⟩ := hcut
        generalize wc = w2 at *
        generalize (start && fc) = fr at *
        clear HHS
        go_upto_block 2 with fail
        go_cut [11, 12] from 13 to 61 (fun f i wx => f = .bool (fr || frP m l j) ∧ (∃ n : Nat, i = .int .i64 n) ∧ ∃ k, wx = w2.drewN k)
        case first =>
          go_wp2_with fail
          go_loopw [11, 12] (fun f i wx => ∃ n k : Nat, i = .int .i64 n ∧ n ≤ l.length ∧ f = .bool (fr || frP m (l.take n) j) ∧ wx = w2.drewN k) (fun _ i _ => ((l.length : Int) - intOf i).toNat)
          case atStart => exact ⟨0, 0, rfl, Nat.zero_le _, by rw [List.take_zero]; show Value.bool fr = .bool (fr || false); rw [Bool.or_false], by rw [World.drewN_zero]⟩
          case round =>
            obtain ⟨n, k, rfl, hn, rfl, rfl⟩ := hrel
            have HD := Lib.hid (below_drewN (Below.refl w2.heap.size w2) k)
            have HL3 := Lib.hid (HL2.out.kept HD.out)
            have HM3 := Lib.hid (HM2.out.kept HD.out)
            have c2 := (HX2.out.kept HD.out HX2.out.lt).c2
            obtain ⟨w5, hw5⟩ : ∃ w5, Hid (w2.drewN k = w5) := ⟨_, Lib.hid rfl⟩
            rw [hw5.out] at HD HL3 HM3 c2 ⊢
            by_cases hnl : n < l.length
            · have hd4 : decide ((n : Int) < (l.length : Int)) = true := decide_eq_true (by omega)
              have hd5 : decide (n < l.length) = true := decide_eq_true hnl
              obtain ⟨b2, o2, rfl, hc3⟩ := HL3.out n hnl
              have HFT := Lib.hid (frP_take m l j n hnl)
              have HR := Lib.hid (HLR.out _ (getD_mem (d := 0) hnl))
              have HW2 : Hid (wrap64 ((n : Int) + 1) = ((n + 1 : Nat) : Int)) := Lib.hid (nat_wrap (by have := HLL.out; omega))
              have HN := Lib.hid hnl
              have hnl2 : (n : Int) < (l.length : Int) := by omega
              clear hnl
              generalize l.getD n 0 = z at *
              obtain ⟨t, rfl⟩ := Int.eq_ofNat_of_zero_le HR.out.1
              have htl : t < m.fo.length := by have := HR.out; omega
              have htl2 : (t : Int) < (m.fo.length : Int) := by omega
              obtain ⟨b3, o3, x3, c3, hoa, hc4, hn4⟩ := HM3.out.fo t htl
              rw [hoa] at c2
              rw [show ((t : Int)).toNat = t from by omega] at HFT
              have HE := Lib.hid (fun wz (hz : Below w5.heap.size w5 wz) => hasN_any x3 c3 (j : Int) (m.fo.getD t []) wz (hn4.kept hz) (HF.out.each _ (getD_mem htl)).1)
              clear hoa hn4 htl
              generalize m.fo.getD t [] = lt at *
              generalize lt.contains (j : Int) = fd at *
              have HFO := Lib.hid (frP_of m l j n)
              generalize frP m (l.take n) j = fe at *
              cases hfr : (fr || fe) with
              | true =>
                have HRR : Hid ((fr || frP m l j) = true) := Lib.hid (by
                  cases fr with
                  | true => rfl
                  | false => exact HFO.out hfr)
                clear hfr
                go_wp2_with fail
                go_meet
                case rel => exact ⟨by rw [HRR.out], ⟨n, rfl⟩, k, hw5.out.symm⟩
              | false =>
                have HFF : Hid ((fr || frP m (l.take (n + 1)) j) = fd) := Lib.hid (by rw [HFT.out, ← Bool.or_assoc, hfr, Bool.false_or])
                clear hfr
                go_wp2_with fail
                go_quiet ((go_at_call 43; exact Calls.quiet_of_same ((HE.out _ (below_drewN (Below.refl _ _) _)).mono fun _ _ h => ⟨h.1, h.2.symm⟩)))
                go_wp2_with fail
                go_roundw
                case rel => exact ⟨n + 1, _, by rw [HW2.out], HN.out, by rw [HFF.out], by rw [← hw5.out, World.drewN_drewN]⟩
                case measure => rw [HW2.out]; exact meas8 HN.out
            · have hd4 : decide ((n : Int) < (l.length : Int)) = false := decide_eq_false (by omega)
              have hd5 : decide (n < l.length) = false := decide_eq_false hnl
              have HTA : Hid (l.take n = l) := Lib.hid (List.take_of_length_le (by omega))
              rw [HTA.out]
              clear hnl
              generalize (fr || frP m l j) = ff at *
              go_wp2_with fail
              go_meet
              case rel => exact ⟨rfl, ⟨n, rfl⟩, k, hw5.out.symm⟩
        case rest =>
          obtain ⟨rfl, ⟨n, rfl⟩, k, rfl⟩ := hcut
          have HD := Lib.hid (below_drewN (Below.refl w2.heap.size w2) k)
          have HO3 := Lib.hid (own_stay HO.out HD.out)
          have HB3 := Lib.hid (HB.out.trans (HD.out.mono HB.out.size))
          have HX3 := Lib.hid (HX2.out.kept HD.out HX2.out.lt)
          have hrow3 := (HM2.out.kept HD.out).sp j HJ.out
          have HJ3 := HJ
          clear c0 c1 c2 hrow HX2 HM2 HL2 HO HB HD
          generalize w2.drewN k = w5 at *
          clear w2
          obtain ⟨b, o, hsa, hrow⟩ := hrow3
          have c0 := HX3.out.c0
          rw [hsa] at c0
          have HROW : Hid (w5.rangeAt b (o + j * 5) (setC (stN m j)).toList) := Lib.hid (spot_set hrow)
          have HIN := Lib.hid (inN_any (stN m j) c w5 HC.out)
          clear hrow hsa
          generalize (stN m j).testBit c = bt at *
          generalize frP m l j = fp at *
          generalize hff : (fr || fp) = ff at *
          have HFF := Lib.hid hff
          clear hff
          go_upto_region 10 with fail
          go_cut [57] from 13 to 61 (fun v wx => v = .bool (ff && bt) ∧ Hid (Below w5.heap.size w5 wx))
          case first =>
            cases ff
            · go_wp2_with fail
              go_meet
              case rel => exact ⟨rfl, Lib.hid (Below.refl _ _)⟩
            · go_wp2_with (first
                | (refine BigFrame.wpList_want rfl (fun K' hK' => ?_); refine wp_load_mid 41 _ rfl b (o + j * 5) rfl (setC (stN m j)).toList _ HROW.out Tryd.underlying41 rfl (sizeSet (stN m j)) ?_; refine hK' _ _ ?_; clear hK' K')
                | (go_at_call 44; refine HIN.out.mono ?_; rintro e w6 ⟨rfl, hb⟩; have HB6 := Lib.hid hb; clear hb HIN))
              go_meet
              case rel => exact ⟨rfl, HB6⟩
          case rest =>
            obtain ⟨rfl, HB6⟩ := hcut
            generalize hwc : wc = w6 at *
            clear hwc wc
            have HO6 := Lib.hid (own_stay HO3.out HB6.out)
            have HB7 := Lib.hid (HB3.out.trans (HB6.out.mono HB3.out.size))
            have HS7 := Lib.hid HB7.out.size
            have HLN := Lib.hid (stepL_len m l start c j)
            have HT2 : Hid (stepL m l start c (j + 1) = if (ff && bt) = true then stepL m l start c j ++ [(j : Int)] else stepL m l start c j) := Lib.hid (by rw [HT.out, HP.out])
            obtain ⟨lft, hlft⟩ : ∃ q, Hid (stepL m l start c j = q) := ⟨_, Lib.hid rfl⟩
            rw [hlft.out] at HO6 HT2 HLN
            clear HO3 HB3 HX3 c0 HIN HROW HB6 w5
            clear HT HP HFF
            have HLN2 : Hid (lft.length ≤ 100000) := Lib.hid (by have h1 := HLN.out; have h2 := HJ.out; have h3 := HF.out.sp; omega)
            cases hbb : (ff && bt) with
            | false =>
              rw [hbb] at HT2
              clear hbb
              go_wp2_with fail
              go_roundw
              case rel => exact ⟨j + 1, by rw [HW1.out], HJ.out, Lib.hid (by rw [HT2.out]; exact HO6.out), HB7⟩
              case measure => rw [HW1.out]; exact meas9 HJ.out
            | true =>
              rw [hbb] at HT2
              clear hbb
              go_wp2_with (refine wpList_pushN rfl (.tmp 58) (.tmp 60) rfl w1.heap.size _ lft j rfl HO6.out rfl HLN2.out HS7.out ?_; intro v' w8 ho8 hb8 _; have HO8 := Lib.hid ho8; have HB8 := Lib.hid (HB7.out.trans hb8); clear ho8 hb8)
              go_roundw
              case rel => exact ⟨j + 1, by rw [HW1.out], HJ.out, Lib.hid (by rw [HT2.out]; exact HO8.out), HB8⟩
              case measure => rw [HW1.out]; exact meas9 HJ.out
    · have hdd : decide ((j : Int) < (m.sp.length : Int)) = false := decide_eq_false (by omega)
      have hd2 : decide (j < m.sp.length) = false := decide_eq_false hlt
      have HE : Hid (j = m.sp.length) := Lib.hid (by omega)
      rw [HE.out] at HO
      have HZ : Hid (w.heap.size ≤ w1.heap.size) := Lib.hid (by rw [hBq.out]; exact Nat.le_of_lt HBL.out)
      clear hlt HE
      go_wp2_with fail
      go_ret
      exact ⟨_, rfl, own_mono HO.out HZ.out, by rw [hBq.out]; exact HBs.out.trans (HB.out.mono (Nat.le_of_lt HBL.out))⟩
end Nf
end Go.Proofs.YtghbgfkkdknmnaaDoor
namespace Go.Proofs.YtghbgfkkdknmnaaDoor
open Go.RowKit Sets Nf
namespace Nf
/-- the spots that the document's Run is at, having read j bytes -/
def atN (m : Mc) (w : List Nat) : Nat → List Int
  | 0 => []
  | j + 1 => stepL m (atN m w j) (decide (j = 0)) (w.getD j 0) m.sp.length
theorem frP_iff (m : Mc) (l : List Int) (k : Nat) : frP m l k = true ↔ ∃ i ∈ l, (k : Int) ∈ m.fo.getD i.toNat [] := by
  unfold frP; rw [List.any_eq_true]
  simp only [List.contains_iff_mem]
theorem at_front {m : Mc} (h : Rt m) (w : List Nat) : ∀ j, j ≤ w.length → ∀ k : Nat, (((decide (j = 0)) && m.fi.contains (k : Int)) || frP m (atN m w j) k) = (runN m w j).2.testBit k
  | 0, _, (k : Nat) => by
    show ((decide (0 = 0)) && m.fi.contains (k : Int) || frP m [] k) = (grp m.fi).testBit k
    rw [Bool.eq_iff_iff, grp_bit h.fiR]
    simp [frP]
  | j + 1, hj, (k : Nat) => by
    have ih := at_front h w j (by omega)
    have hs := runN_small h w j (by omega)
    rw [runN_succ m w j (by omega)]
    rw [decide_eq_false (by omega), Bool.false_and, Bool.false_or, Bool.eq_iff_iff, frP_iff, bh_bit]
    show (∃ i ∈ stepL m (atN m w j) (decide (j = 0)) (w.getD j 0) m.sp.length, _) ↔ _
    constructor
    · rintro ⟨i, hi, hk⟩
      obtain ⟨n, rfl, hn, hp⟩ := (stepL_mem ..).1 hi
      unfold stepP at hp
      rw [Bool.and_eq_true, ih n] at hp
      refine ⟨n, by have := h.many; omega, ?_, ?_⟩
      · rw [rd_bit]; exact ⟨by have := h.many; omega, hp⟩
      · rw [map_grp]; exact (grp_bit (foN_rise h n) k).2 hk
    · rintro ⟨n, -, h1, h2⟩
      rw [rd_bit] at h1
      rw [map_grp] at h2
      refine ⟨n, (stepL_mem ..).2 ⟨n, rfl, hs n h1.2.1, ?_⟩, (grp_bit (foN_rise h n) k).1 h2⟩
      unfold stepP
      rw [Bool.and_eq_true, ih n]
      exact h1.2
theorem at_mem {m : Mc} (h : Rt m) (w : List Nat) (j : Nat) (hj : j < w.length) (i : Int) : i ∈ atN m w (j + 1) ↔ ∃ k : Nat, i = k ∧ (runN m w (j + 1)).1.testBit k = true := by
  have hs := runN_small h w j (by omega)
  show i ∈ stepL m (atN m w j) (decide (j = 0)) (w.getD j 0) m.sp.length ↔ _
  rw [stepL_mem, runN_succ m w j hj]
  constructor
  · rintro ⟨k, rfl, hk, hp⟩
    unfold stepP at hp
    rw [Bool.and_eq_true, at_front h w j (by omega)] at hp
    exact ⟨k, rfl, by rw [rd_bit]; exact ⟨by have := h.many; omega, hp⟩⟩
  · rintro ⟨k, rfl, hk⟩
    rw [rd_bit] at hk
    refine ⟨k, rfl, hs k hk.2.1, ?_⟩
    unfold stepP
    rw [Bool.and_eq_true, at_front h w j (by omega)]
    exact hk.2
theorem at_lt (m : Mc) (w : List Nat) (j : Nat) (i : Int) (hi : i ∈ atN m w j) : 0 ≤ i ∧ i < m.sp.length := by
  cases j with
  | zero => cases hi
  | succ j =>
    obtain ⟨k, rfl, hk, -⟩ := (stepL_mem ..).1 hi
    omega
theorem at_len (m : Mc) (w : List Nat) (j : Nat) : (atN m w j).length ≤ m.sp.length := by
  cases j with
  | zero => exact Nat.zero_le _
  | succ j => exact stepL_len ..
theorem at_takes {m : Mc} (h : Rt m) (w : List Nat) (hw : w ≠ []) : (atN m w w.length).any (fun i => m.la.getD i.toNat false) = takesM m w := by
  obtain ⟨n, hn⟩ : ∃ n, w.length = n + 1 := by
    cases w with
    | nil => exact absurd rfl hw
    | cons c w => exact ⟨_, rfl⟩
  have hr : takesM m w = decide ((runS m w).1 &&& lastN m ≠ 0) := by
    unfold takesM
    rw [(right_iff m).2 h, if_neg hw, Bool.true_and]
  rw [hr, Bool.eq_iff_iff, List.any_eq_true, decide_eq_true_iff, hn, ← runN_all m w (n + 1) (by omega)]
  constructor
  · rintro ⟨i, hi, hl⟩ hz
    obtain ⟨k, rfl, hk⟩ := (at_mem h w n (by omega) i).1 hi
    have : ((runN m w (n + 1)).1 &&& lastN m).testBit k = true := by
      rw [Nat.testBit_and, Bool.and_eq_true, last_bit]
      exact ⟨hk, hl⟩
    rw [hz] at this
    simp at this
  · intro hz
    obtain ⟨k, hk⟩ := Nat.exists_testBit_of_ne_zero hz
    rw [Nat.testBit_and, Bool.and_eq_true, last_bit] at hk
    exact ⟨k, (at_mem h w n (by omega) _).2 ⟨k, rfl, hk.1⟩, hk.2⟩
set_option maxHeartbeats 6400000 in
set_option maxRecDepth 100000 in
theorem rrun_any (x : Ma) (m : Mc) (s : ByteArray) (w : World) (h : MAt w x m) (hf : Fine m) (hs : s.size ≤ 1000) :
    Calls Tryd.prog 27 #[.agg (mc x m), .string s] w fun e w' => e = .returned (.bool (takesM m (bs s))) ∧ Below w.heap.size w w' := by
  have HM := Lib.hid h
  have HF := Lib.hid hf
  have HS := Lib.hid hs
  have HLEN := Lib.hid (bs_len s)
  have HBL := Lib.hid (bs_lt s)
  clear h hf hs
  go_enter Tryd.func27, Tryd.ntmps27
  go_upto_region 1 with fail
  have HX := Lib.hid (BoxM.new w x m)
  have HB := Lib.hid ((Below.refl w.heap.size w).alloc (Nat.le_refl _) (.cells (mc x m) 27))
  generalize w.alloc (.cells (mc x m) 27) = w1 at *
  have HM1 := Lib.hid (HM.out.kept HB.out)
  have HR := Lib.hid (rright_any x m w1 HM1.out HF.out)
  cases hr : rightM m
  · rw [hr] at HR
    have HV : Hid (takesM m (bs s) = false) := Lib.hid (by unfold takesM; rw [hr]; rfl)
    clear hr
    go_wp2_with (first
      | (refine wpList_load_mach rfl (.tmp 2) rfl w.heap.size x m rfl HX.out ?_)
      | (go_at_call 32; refine HR.out.mono ?_; rintro e w2 ⟨rfl, hb2⟩; have HB2 := Lib.hid hb2; clear hb2))
    go_ret
    exact ⟨by rw [HV.out]; rfl, HB.out.trans (HB2.out.mono (Nat.le_of_lt HX.out.lt))⟩
  · rw [hr] at HR
    have HRT := Lib.hid ((right_iff m).1 hr)
    have HV : Hid (takesM m (bs s) = if bs s = [] then m.em else decide ((runS m (bs s)).1 &&& lastN m ≠ 0)) := Lib.hid (by unfold takesM; rw [hr, Bool.true_and])
    clear hr
    go_upto_region 3 with (first
      | (refine wpList_load_mach rfl (.tmp 2) rfl w.heap.size x m rfl HX.out ?_)
      | (go_at_call 32; refine HR.out.mono ?_; rintro e w2 ⟨rfl, hb2⟩; have HB2 := Lib.hid hb2; clear hb2))
    have HX2 := Lib.hid (HX.out.kept HB2.out HX.out.lt)
    have HM2 := Lib.hid (HM1.out.kept HB2.out)
    have HB3 := Lib.hid (HB.out.trans (HB2.out.mono (Nat.le_of_lt HX.out.lt)))
    generalize hBq : w.heap.size = B at *
    have HBq := Lib.hid hBq
    clear hBq HB HX HM1 HB2 HR w1
    have c4 := HX2.out.c4
    by_cases hs0 : s.size = 0
    · obtain rfl : s = ⟨#[]⟩ := by
        cases s with
        | mk d => cases d with
          | mk l => cases l with
            | nil => rfl
            | cons a l => simp [ByteArray.size] at hs0
      have HV2 : Hid (takesM m (bs ⟨#[]⟩) = m.em) := Lib.hid (by rw [HV.out]; rfl)
      clear hs0
      go_wp2_with fail
      go_ret
      exact ⟨by rw [HV2.out]; rfl, by rw [HBq.out]; exact HB3.out⟩
    · have hne : (((s.size : Nat) : Int) == 0) = false := by rw [beq_eq_false_iff_ne]; omega
      have HNE : Hid (bs s ≠ []) := Lib.hid (fun e => hs0 (by rw [← HLEN.out, e]; rfl))
      have HAT := Lib.hid (at_takes HRT.out (bs s) HNE.out)
      rw [HLEN.out] at HAT
      clear hs0 HV c4
      have HBX := Lib.hid HX2.out.lt
      go_wp2_with fail
      go_loopw [5, 6] (fun v i wr => ∃ j : Nat, i = .int .i64 j ∧ j ≤ s.size ∧ Hid (OwnN w2.heap.size wr v (atN m (bs s) j)) ∧ Hid (Below w2.heap.size w2 wr)) (fun _ i _ => ((s.size : Int) - intOf i).toNat)
      case atStart => exact ⟨0, rfl, Nat.zero_le _, Lib.hid (OwnN.nil _ _), Lib.hid (Below.refl _ _)⟩
      case round =>
        obtain ⟨j, rfl, hj, HO, HBr⟩ := hrel
        generalize hwr : wr = w7 at *
        clear hwr wr
        have HM7 := Lib.hid (HM2.out.kept HBr.out)
        have HX7 := Lib.hid (HX2.out.kept HBr.out HBX.out)
        have HBX7 := Lib.hid HX7.out.lt
        by_cases hlt : j < s.size
        · have hdd : decide ((j : Int) < (s.size : Int)) = true := decide_eq_true (by omega)
          have hd2 : decide (j < s.size) = true := decide_eq_true hlt
          have hix := index_bs s j _ rfl hlt
          have HCC : Hid ((bs s).getD j 0 < 256) := Lib.hid (HBL.out _ (getD_mem (by rw [HLEN.out]; exact hlt)))
          have HW1 : Hid (wrap64 ((j : Int) + 1) = ((j + 1 : Nat) : Int)) := Lib.hid (nat_wrap (by have := HS.out; omega))
          have HLT := Lib.hid (fun i hi => at_lt m (bs s) j i hi)
          have HLE := Lib.hid (at_len m (bs s) j)
          have HNX : Hid (atN m (bs s) (j + 1) = stepL m (atN m (bs s) j) (((j : Int)) == 0) ((bs s).getD j 0) m.sp.length) := Lib.hid (by
            rw [show (((j : Int)) == 0) = decide (j = 0) by rw [Bool.eq_iff_iff, beq_iff_eq, decide_eq_true_iff]; omega]; rfl)
          generalize (bs s).getD j 0 = c at *
          obtain ⟨a5, cap5, rfl, hn5⟩ := HO.out.nums
          have HN5 := Lib.hid (hn5.kept ((Below.refl _ _).drew))
          generalize atN m (bs s) j = l at *
          clear hn5
          have HJ := Lib.hid hlt
          clear hlt
          have HST := Lib.hid (fun st => rstep_any x m w7.drew (HM7.out.kept ((Below.refl _ _).drew)) HF.out a5 cap5 l HN5.out (by have h1 := HRT.out.many; have h2 := HLE.out; omega) (fun i hi => by have h1 := HLT.out i hi; have h2 := HRT.out.fol; omega) st c HCC.out)
          go_upto_region 9 with fail
          refine region_mix [(false, 0), (false, 1), (false, 2), (false, 3), (false, 4), (false, 5), (false, 6), (true, 7)] (fun w' => Below w7.heap.size w7 w') (by kernel_rfl) (by kernel_rfl) ((Below.refl _ _).drew) ?_
          simp only [planOps, List.map_cons, List.map_nil, List.getD_cons_zero, List.getD_cons_succ, List.length_cons, List.length_nil, List.drop_succ_cons, List.drop_zero]
          refine mix_seg (seg := [_, _, _, _, _, _, _]) (rest := [_]) rfl ((Below.refl _ _).drew) ?_
          intro ι hι F hF
          have f2 := Lib.hid (fun n => HX7.out.kept (hF n) HBX7.out)
          refine BigFrame.wpQuiet_want rfl (fun K hK => ?_); refine quiet_load_mach _ rfl B x m rfl (fun w' ⟨n, e⟩ => e ▸ f2.out n) ?_; refine hK _ ?_; clear hK K; simp only [Act.put, List.setIfInBounds_toArray, List.set_cons_zero, List.set_cons_succ]
          iterate 6 (go_big_quiet_step (fail))
          refine wpQuiet_nil ?_
          clear f2 hF hι F
          refine mix_eff (fun K hK => ?_)
          go_wp2_with (go_at_call 21; refine (HST.out _).mono ?_; rintro e w8 ⟨v, rfl, ho8, hb8⟩; have HO8 := Lib.hid ho8; have HB8 := Lib.hid (((Below.refl _ _).drew).trans hb8); clear ho8 hb8)
          refine mix_on hK HB8.out ?_
          clear hK K HST
          show wpList _ _ _ _ _ _
          go_wp2_with fail
          refine NoPanic.normal ?_
          rw [World.size_drew] at HO8
          have HO9 := Lib.hid (own_mono HO8.out HBr.out.size)
          have HB9 := Lib.hid (HBr.out.trans (HB8.out.mono HBr.out.size))
          clear HO8
          go_wp2_with fail
          go_roundw
          case rel => exact ⟨j + 1, by rw [HW1.out], HJ.out, Lib.hid (by rw [HNX.out]; exact HO9.out), HB9⟩
          case measure => rw [HW1.out]; exact meas9 HJ.out
        · have hdd : decide ((j : Int) < (s.size : Int)) = false := decide_eq_false (by omega)
          have hd2 : decide (j < s.size) = false := decide_eq_false hlt
          have HE : Hid (j = s.size) := Lib.hid (by omega)
          rw [HE.out] at HO
          have HLT := Lib.hid (fun i hi => at_lt m (bs s) s.size i hi)
          have HLE := Lib.hid (at_len m (bs s) s.size)
          obtain ⟨a5, cap5, rfl, hn5⟩ := HO.out.nums
          have HN5 := Lib.hid hn5
          generalize atN m (bs s) s.size = l at *
          clear hn5 hlt
          go_wp2_with fail
          go_loopw [7] (fun i wr => ∃ n k : Nat, i = .int .i64 n ∧ n ≤ l.length ∧ Hid ((l.take n).any (fun i => m.la.getD i.toNat false) = false) ∧ wr = w7.drewN k) (fun i _ => ((l.length : Int) - intOf i).toNat)
          case atStart => exact ⟨0, 0, rfl, Nat.zero_le _, Lib.hid (by simp), by rw [World.drewN_zero]⟩
          case round =>
            obtain ⟨n, k, rfl, hn, HA, rfl⟩ := hrel
            have c3 := HX7.out.c3
            by_cases hnl : n < l.length
            · have hd4 : decide ((n : Int) < (l.length : Int)) = true := decide_eq_true (by omega)
              have hd5 : decide (n < l.length) = true := decide_eq_true hnl
              obtain ⟨b2, o2, rfl, hc3⟩ := HN5.out n hnl
              have HFT := Lib.hid (any_snoc (fun i : Int => m.la.getD i.toNat false) l 0 n hnl)
              have HR := Lib.hid (HLT.out _ (getD_mem (d := 0) hnl))
              have HIT : Hid (m.la.getD (l.getD n 0).toNat false = true → l.any (fun i => m.la.getD i.toNat false) = true) := Lib.hid (fun h => List.any_eq_true.2 ⟨_, getD_mem hnl, h⟩)
              have HW2 : Hid (wrap64 ((n : Int) + 1) = ((n + 1 : Nat) : Int)) := Lib.hid (nat_wrap (by have h1 := HLE.out; have h2 := HRT.out.many; omega))
              have HN := Lib.hid hnl
              have hnl2 : (n : Int) < (l.length : Int) := by omega
              clear hnl
              generalize l.getD n 0 = z at *
              obtain ⟨t, rfl⟩ := Int.eq_ofNat_of_zero_le HR.out.1
              have htl : t < m.la.length := by have h1 := HR.out; have h2 := HRT.out.lal; omega
              have htl2 : (t : Int) < (m.la.length : Int) := by omega
              obtain ⟨b3, o3, hoa, hc4⟩ := HM7.out.la t htl
              rw [hoa] at c3
              rw [show ((t : Int)).toNat = t from by omega] at HFT HIT
              clear hoa htl
              cases hb : m.la.getD t false with
              | true =>
                rw [hb] at hc4 HIT
                have HRR := Lib.hid (HAT.out.symm.trans (HIT.out rfl))
                clear hb
                go_wp2_with fail
                go_quiet (fail)
                go_wp2_with fail
                go_ret
                exact ⟨by rw [HRR.out]; rfl, by rw [HBq.out]; exact HB3.out.trans ((HBr.out.trans ((below_drewN (below_drewN (Below.refl _ _) _) _).mono HBr.out.size)).mono (Nat.le_of_lt HBX.out))⟩
              | false =>
                rw [hb] at hc4 HFT
                have HA2 : Hid ((l.take (n + 1)).any (fun i => m.la.getD i.toNat false) = false) := Lib.hid (by rw [HFT.out, HA.out]; rfl)
                clear hb
                go_wp2_with fail
                go_quiet (fail)
                go_wp2_with fail
                go_roundw
                case rel => exact ⟨n + 1, _, by rw [HW2.out], HN.out, HA2, by first | rfl | rw [World.drewN_drewN]⟩
                case measure => rw [HW2.out]; exact meas8 HN.out
            · have hd4 : decide ((n : Int) < (l.length : Int)) = false := decide_eq_false (by omega)
              have hd5 : decide (n < l.length) = false := decide_eq_false hnl
              have HRR : Hid (takesM m (bs s) = false) := Lib.hid (by have e := HA.out; rw [List.take_of_length_le (by omega)] at e; exact HAT.out.symm.trans e)
              clear hnl
              go_wp2_with fail
              go_ret
              exact ⟨by rw [HRR.out]; rfl, by rw [HBq.out]; exact HB3.out.trans ((HBr.out.trans ((below_drewN (Below.refl _ _) _).mono HBr.out.size)).mono (Nat.le_of_lt HBX.out))⟩
end Nf
end Go.Proofs.YtghbgfkkdknmnaaDoor
