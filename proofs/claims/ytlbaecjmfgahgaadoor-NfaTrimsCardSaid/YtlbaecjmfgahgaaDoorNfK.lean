/- The document's In, has, list. -/
import Derived.Test.YtlbaecjmfgahgaaDoorNfJ
namespace Go.Proofs.YtlbaecjmfgahgaaDoor
open Go.RowKit Sets Nf
namespace Nf
theorem in_last (S c q : Nat) (hq : c / 64 = q) : (((wd S q / 2 ^ (c % 64) : Nat) : Int) % 2 == 1) = S.testBit c := by
  have h1 : (wd S q).testBit (c % 64) = S.testBit c := by
    rw [testBit_wd, decide_eq_true (Nat.mod_lt _ (by decide)), Bool.true_and]
    congr 1; omega
  rw [← h1, Nat.testBit_eq_decide_div_mod_eq]
  rw [Bool.eq_iff_iff, beq_iff_eq, decide_eq_true_iff]
  omega
theorem half_pow (n i : Nat) : n / 2 ^ i / 2 = n / 2 ^ (i + 1) := by rw [Nat.pow_succ, Nat.div_div_eq_div_mul]
set_option maxHeartbeats 3200000 in
set_option maxRecDepth 100000 in
theorem hasN_any (a : Option Addr) (cap : Nat) (k : Int) (l : List Int) (w : World) (h : NumsIn w a l) (hl : l.length ≤ 1000) :
    Calls Tryd.prog 46 #[.slice a l.length cap, .int .i64 k] w fun e w' => e = .returned (.bool (l.contains k)) ∧ w = w' := by
  have HN := Lib.hid h
  have HL := Lib.hid hl
  clear h hl
  go_enter Tryd.func46, Tryd.ntmps46
  go_wp2_with fail
  go_loopw [5] (fun i wr => ∃ j : Nat, i = .int .i64 j ∧ j ≤ l.length ∧ wr = w ∧ Hid ((l.take j).contains k = false)) (fun i _ => ((l.length : Int) - intOf i).toNat)
  case atStart => exact ⟨0, rfl, Nat.zero_le _, rfl, Lib.hid (by simp)⟩
  case round =>
    obtain ⟨j, rfl, hj, rfl, HI⟩ := hrel
    by_cases hlt : j < l.length
    · have hdd : decide ((j : Int) < (l.length : Int)) = true := decide_eq_true (by omega)
      have hd2 : decide (j < l.length) = true := decide_eq_true hlt
      obtain ⟨b, o, rfl, hc⟩ := HN.out j hlt
      have HM : Hid (l.getD j 0 ∈ l) := Lib.hid (getD_mem hlt)
      have HT : Hid (l.getD j 0 ≠ k → (l.take (j + 1)).contains k = false) := Lib.hid (fun hne => by
        rw [List.take_succ_eq_append_getElem hlt, Bool.eq_false_iff]
        intro hh
        rw [List.contains_iff_mem, List.mem_append, List.mem_singleton] at hh
        rw [List.getD_eq_getElem?_getD, List.getElem?_eq_getElem hlt] at hne
        rcases hh with hh | hh
        · have h3 := HI.out
          rw [Bool.eq_false_iff] at h3
          exact h3 (List.contains_iff_mem.2 hh)
        · exact hne hh.symm)
      have HW1 : Hid (wrap64 ((j : Int) + 1) = ((j + 1 : Nat) : Int)) := Lib.hid (nat_wrap (by have := HL.out; omega))
      have HJ := Lib.hid hlt
      clear hlt
      generalize l.getD j 0 = z at *
      by_cases hz : z = k
      · have hb : (z == k) = true := by rw [beq_iff_eq]; exact hz
        have HR : Hid (l.contains k = true) := Lib.hid (List.contains_iff_mem.2 (hz ▸ HM.out))
        clear hz
        go_wp2_with fail
        go_ret
        exact ⟨by rw [HR.out]; rfl, rfl⟩
      · have hb : (z == k) = false := by rw [beq_eq_false_iff_ne]; exact hz
        have HI2 := Lib.hid (HT.out hz)
        clear hz
        go_wp2_with fail
        go_roundw
        case rel => exact ⟨j + 1, by rw [HW1.out], HJ.out, by first | rfl | trivial, HI2⟩
        case measure => rw [HW1.out]; exact meas8 HJ.out
    · have hdd : decide ((j : Int) < (l.length : Int)) = false := decide_eq_false (by omega)
      have hd2 : decide (j < l.length) = false := decide_eq_false hlt
      have HR : Hid (l.contains k = false) := Lib.hid (by rw [← HI.out, List.take_of_length_le (by omega)])
      clear hlt
      go_wp2_with fail
      go_ret
      exact ⟨by rw [HR.out]; rfl, rfl⟩
def lowAt (l : List Int) (j : Nat) : Int := if j = 0 then 0 else l.getD (j - 1) 0 + 1
set_option maxHeartbeats 6400000 in
set_option maxRecDepth 100000 in
theorem rlist_any (a : Option Addr) (cap n : Nat) (l : List Int) (w : World) (h : NumsIn w a l) (hl : l.length ≤ 1000) (hn : n ≤ 1000) :
    Calls Tryd.prog 30 #[.slice a l.length cap, .int .i64 n] w fun e w' => e = .returned (.bool (rise n l)) ∧ Below w.heap.size w w' := by
  have HX : Hid (rise n l = riseF n (lowAt l 0) (l.drop 0)) := Lib.hid rfl
  have HN := Lib.hid h
  have HL := Lib.hid hl
  have HB := Lib.hid hn
  clear h hl hn
  go_enter Tryd.func30, Tryd.ntmps30
  go_wp2_with fail
  go_loopw [5] (fun i wr => ∃ (j k : Nat), i = .int .i64 j ∧ j ≤ l.length ∧ wr = w.drewN k ∧ Hid (0 ≤ lowAt l j ∧ rise n l = riseF n (lowAt l j) (l.drop j))) (fun i _ => ((l.length : Int) - intOf i).toNat)
  case atStart => exact ⟨0, 0, rfl, Nat.zero_le _, by rw [World.drewN_zero], Lib.hid ⟨by unfold lowAt; simp, HX.out⟩⟩
  case round =>
    obtain ⟨j, q, rfl, hj, rfl, HI⟩ := hrel
    by_cases hlt : j < l.length
    · have hdd : decide ((j : Int) < (l.length : Int)) = true := decide_eq_true (by omega)
      have hd2 : decide (j < l.length) = true := decide_eq_true hlt
      obtain ⟨b, o, rfl, hc⟩ := HN.out j hlt
      have HS := Lib.hid (riseF_drop n (lowAt l j) l j hlt)
      have HW1 : Hid (wrap64 ((j : Int) + 1) = ((j + 1 : Nat) : Int)) := Lib.hid (nat_wrap (by have := HL.out; omega))
      have HNX : Hid (lowAt l (j + 1) = l.getD j 0 + 1) := Lib.hid (by unfold lowAt; rw [if_neg (by omega), Nat.add_sub_cancel])
      have HJ := Lib.hid hlt
      have hjl : (j : Int) < (l.length : Int) := by omega
      by_cases h1 : l.getD j 0 < 0
      · have hd3 : decide (l.getD j 0 < 0) = true := decide_eq_true h1
        have HR : Hid (rise n l = false) := Lib.hid (by rw [HI.out.2, HS.out, decide_eq_false (by have := HI.out.1; omega), Bool.false_and])
        clear h1 hlt
        generalize l.getD j 0 = z at *
        go_wp2_with fail
        go_quiet (fail)
        go_wp2_with fail
        go_ret
        exact ⟨by rw [HR.out]; rfl, below_drewN (below_drewN (Below.refl _ _) _) _⟩
      · have hd3 : decide (l.getD j 0 < 0) = false := decide_eq_false h1
        by_cases h2 : (n : Int) ≤ l.getD j 0
        · have hd4 : decide ((n : Int) ≤ l.getD j 0) = true := decide_eq_true h2
          have HR : Hid (rise n l = false) := Lib.hid (by rw [HI.out.2, HS.out, decide_eq_false (p := l.getD j 0 < (n : Int)) (by omega), Bool.false_and, Bool.and_false])
          clear h1 h2 hlt
          generalize l.getD j 0 = z at *
          go_wp2_with fail
          go_quiet (fail)
          go_wp2_with fail
          go_ret
          exact ⟨by rw [HR.out]; rfl, below_drewN (below_drewN (Below.refl _ _) _) _⟩
        · have hd4 : decide ((n : Int) ≤ l.getD j 0) = false := decide_eq_false h2
          have HRG : Hid (lowAt l j ≤ l.getD j 0 → rise n l = riseF n (lowAt l (j + 1)) (l.drop (j + 1)) ∧ 0 ≤ lowAt l (j + 1)) := Lib.hid (fun h => ⟨by
            rw [HI.out.2, HS.out, decide_eq_true h, decide_eq_true (p := l.getD j 0 < (n : Int)) (by omega), Bool.true_and, Bool.true_and, HNX.out], by rw [HNX.out]; omega⟩)
          have HRB : Hid (¬ lowAt l j ≤ l.getD j 0 → rise n l = false) := Lib.hid (fun h => by rw [HI.out.2, HS.out, decide_eq_false h, Bool.false_and])
          have HLA : Hid (lowAt l j = if j = 0 then 0 else l.getD (j - 1) 0 + 1) := Lib.hid rfl
          have HPC : Hid (0 < j → w.cell? ⟨b, o + (j - 1), none⟩ = some (.int .i64 (l.getD (j - 1) 0))) := Lib.hid (fun h => by
            obtain ⟨b', o', e, hc'⟩ := HN.out (j - 1) (by omega)
            injection e with e
            injection e with e1 e2
            subst e1 e2
            exact hc')
          have hz0 : ¬ l.getD j 0 < 0 := h1
          clear h2 hlt HNX HS HI
          generalize l.getD j 0 = z at *
          by_cases hj0 : j = 0
          · subst hj0
            have hd5 : decide ((0 : Int) < ((0 : Nat) : Int)) = false := by decide
            have HRG2 := Lib.hid (HRG.out (by rw [HLA.out, if_pos rfl]; omega))
            clear h1 hz0
            have hj0 : (0 : Int) < (l.length : Int) := by have := HJ.out; omega
            have hc0 : w.cell? ⟨b, o, none⟩ = some (.int .i64 z) := hc
            go_wp2_with fail
            go_quiet (fail)
            go_wp2_with fail
            go_roundw
            case rel => exact ⟨1, _, by first | rfl | rw [HW1.out], HJ.out, rfl, Lib.hid ⟨HRG2.out.2, HRG2.out.1⟩⟩
            case measure => have := HJ.out; simp [intOf]; omega
          · obtain ⟨p, hp⟩ : ∃ p, Hid (j = p + 1) := ⟨j - 1, Lib.hid (by omega)⟩
            have hd5 : decide ((0 : Int) < (j : Int)) = true := decide_eq_true (by omega)
            have hd5' : decide (0 < j) = true := decide_eq_true (by omega)
            have hcp := HPC.out (by omega)
            rw [hp.out, Nat.add_sub_cancel] at hcp
            have HLA2 : Hid (lowAt l j = l.getD p 0 + 1) := Lib.hid (by rw [HLA.out, if_neg hj0, hp.out, Nat.add_sub_cancel])
            have hpl : (p : Int) < (l.length : Int) := by have h3 := HJ.out; have h4 := hp.out; omega
            have hw : wrap64 ((j : Int) - 1) = (p : Int) := by have h3 := HJ.out; have h4 := hp.out; have h5 := HL.out; unfold wrap64; omega
            generalize l.getD p 0 = y at *
            by_cases h5 : z ≤ y
            · have hd6 : decide (z ≤ y) = true := decide_eq_true h5
              have HR := Lib.hid (HRB.out (by rw [HLA2.out]; omega))
              clear h1 hz0 h5 hj0
              go_wp2_with fail
              go_quiet (fail)
              go_wp2_with fail
              go_ret
              exact ⟨by rw [HR.out]; rfl, below_drewN (below_drewN (Below.refl _ _) _) _⟩
            · have hd6 : decide (z ≤ y) = false := decide_eq_false h5
              have HRG2 := Lib.hid (HRG.out (by rw [HLA2.out]; omega))
              clear h1 hz0 h5 hj0
              go_wp2_with fail
              go_quiet (fail)
              go_wp2_with fail
              go_roundw
              case rel => exact ⟨j + 1, _, by first | rfl | rw [HW1.out], HJ.out, rfl, Lib.hid ⟨HRG2.out.2, HRG2.out.1⟩⟩
              case measure => rw [HW1.out]; exact meas8 HJ.out
    · have hdd : decide ((j : Int) < (l.length : Int)) = false := decide_eq_false (by omega)
      have hd2 : decide (j < l.length) = false := decide_eq_false hlt
      have HR : Hid (rise n l = true) := Lib.hid (by rw [HI.out.2, riseF_end _ _ _ _ (by omega)])
      clear hlt
      go_wp2_with fail
      go_ret
      exact ⟨by rw [HR.out]; rfl, below_drewN (Below.refl _ _) _⟩
end Nf
end Go.Proofs.YtlbaecjmfgahgaaDoor
