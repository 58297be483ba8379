/- Valid, and the check's own. -/
import Derived.Test.YtdklkeclcdajeaaRefV
namespace Go.Proofs.Ytdklkeclcdajeaa
open Go.RowKit Pct
theorem valid_esc (s : ByteArray) (k : Nat) (h : k < s.size) (b : Nat) (he : esc ((tx s).drop k) = some b) : valid ((tx s).drop k) = valid ((tx s).drop (k + 1)) := by
  rw [drop_tx s k h] at he ⊢; rw [valid, he]; simp
theorem valid_bad (s : ByteArray) (k : Nat) (h : k < s.size) (h37 : (tx s).getD k 0 = 37) (he : esc ((tx s).drop k) = none) : valid ((tx s).drop k) = false := by
  rw [drop_tx s k h] at he ⊢; rw [valid, he, h37]; simp
theorem valid_plain (s : ByteArray) (k : Nat) (h : k < s.size) (h37 : (tx s).getD k 0 ≠ 37) : valid ((tx s).drop k) = valid ((tx s).drop (k + 1)) := by
  have b1 := bne_iff_ne.2 h37
  rw [drop_tx s k h, valid, b1]; simp
theorem drop_end (s : ByteArray) : (tx s).drop s.size = [] := by rw [List.drop_of_length_le]; rw [← size_tx]; exact Nat.le_refl _
set_option maxHeartbeats 800000 in
theorem valid_any (s : ByteArray) (w : World) (hs : s.size ≤ 1000000000) :
    Calls Try.prog 11 #[.string s] w fun e w' => e = .returned (.bool (valid (tx s))) ∧ w = w' := by
  go_enter Try.func11, Try.ntmps11
  go_wp2
  go_loop [8] (fun i => ∃ k : Nat, k ≤ s.size ∧ i = .int .i64 k ∧ Hid (valid ((tx s).drop k) = valid (tx s))) (fun i => (s.size - intOf i).toNat)
  case atStart => exact ⟨0, by omega, rfl, Lib.hid (by rw [List.drop_zero])⟩
  case round =>
    obtain ⟨k, hk, rfl, HJ⟩ := hrel
    by_cases hlt : k < s.size
    · have hd : decide ((k : Int) < (s.size : Int)) = true := decide_eq_true (by omega)
      have ix := index_tx s k k rfl hlt
      by_cases h37 : (tx s).getD k 0 = 37
      · rw [h37] at ix
        have hsd := said_any s k w hlt hs
        cases he : esc ((tx s).drop k) with
        | none =>
          have HV := Lib.hid (HJ.out.symm.trans (valid_bad s k hlt h37 he))
          rw [he] at hsd
          simp only [valV] at hsd
          clear h37 he
          go_wp2_with fail
          refine hsd.mono ?_; rintro e w' ⟨rfl, rfl⟩
          go_wp2_with fail
          go_ret
          rw [HV.out]
          exact ⟨rfl, rfl⟩
        | some b =>
          have HV := Lib.hid ((valid_esc s k hlt b he).symm.trans HJ.out)
          rw [he] at hsd
          simp only [valV] at hsd
          clear h37 he
          go_wp2_with fail
          refine hsd.mono ?_; rintro e w' ⟨rfl, rfl⟩
          go_wp2_with fail
          go_round
          case rel => exact ⟨k + 1, by omega, by go_num, HV⟩
          case measure => simp [intOf]; omega
      · have n37 := u8_ne h37
        have HV := Lib.hid ((valid_plain s k hlt h37).symm.trans HJ.out)
        clear h37
        generalize (tx s).getD k 0 = a at *
        go_wp2_with fail
        go_round
        case rel => exact ⟨k + 1, by omega, by go_num, HV⟩
        case measure => simp [intOf]; omega
    · have : k = s.size := by omega
      subst this
      have HV := Lib.hid (HJ.out.symm.trans (by rw [drop_end]; rfl : _ = true))
      go_wp2
      go_ret
      rw [HV.out]
      exact ⟨rfl, rfl⟩
set_option maxHeartbeats 800000 in
theorem refvalid_any (s : ByteArray) (w : World) (hs : s.size ≤ 1000000000) :
    Calls Try.prog 21 #[.string s] w fun e w' => e = .returned (.bool (valid (tx s))) ∧ w = w' := by
  go_enter Try.func21, Try.ntmps21
  go_wp2
  go_loop [3] (fun i => ∃ k : Nat, k ≤ s.size ∧ i = .int .i64 k ∧ Hid (valid ((tx s).drop k) = valid (tx s))) (fun i => (s.size - intOf i).toNat)
  case atStart => exact ⟨0, by omega, rfl, Lib.hid (by rw [List.drop_zero])⟩
  case round =>
    obtain ⟨k, hk, rfl, HJ⟩ := hrel
    by_cases hlt : k < s.size
    · have hd : decide ((k : Int) < (s.size : Int)) = true := decide_eq_true (by omega)
      have ix := index_tx s k k rfl hlt
      by_cases h37 : (tx s).getD k 0 = 37
      · rw [h37] at ix
        have hsd := at_any s k w hk hs
        cases he : esc ((tx s).drop k) with
        | none =>
          have HV := Lib.hid (HJ.out.symm.trans (valid_bad s k hlt h37 he))
          rw [he] at hsd
          simp only [Option.isSome_none] at hsd
          clear h37 he
          go_wp2_with fail
          refine hsd.mono ?_; rintro e w' ⟨rfl, rfl⟩
          go_wp2_with fail
          go_ret
          rw [HV.out]
          exact ⟨rfl, rfl⟩
        | some b =>
          have HV := Lib.hid ((valid_esc s k hlt b he).symm.trans HJ.out)
          rw [he] at hsd
          simp only [Option.isSome_some] at hsd
          clear h37 he
          go_wp2_with fail
          refine hsd.mono ?_; rintro e w' ⟨rfl, rfl⟩
          go_wp2_with fail
          go_round
          case rel => exact ⟨k + 1, by omega, by go_num, HV⟩
          case measure => simp [intOf]; omega
      · have n37 : ((((tx s).getD k 0).toNat : Int) == 37) = false := by have := u8_ne h37; rw [bne_iff_ne] at this; rw [beq_eq_false_iff_ne]; exact this
        have HV := Lib.hid ((valid_plain s k hlt h37).symm.trans HJ.out)
        clear h37
        generalize (tx s).getD k 0 = a at *
        go_wp2_with fail
        go_round
        case rel => exact ⟨k + 1, by omega, by go_num, HV⟩
        case measure => simp [intOf]; omega
    · have : k = s.size := by omega
      subst this
      have HV := Lib.hid (HJ.out.symm.trans (by rw [drop_end]; rfl : _ = true))
      go_wp2
      go_ret
      rw [HV.out]
      exact ⟨rfl, rfl⟩
theorem valid_is (s : ByteArray) (r : Bool) (h : valid (tx s) = r) (w : World) (hs : s.size ≤ 1000000000) :
    Calls Try.prog 11 #[.string s] w fun e w' => e = .returned (.bool r) ∧ w = w' := by rw [← h]; exact valid_any s w hs
end Go.Proofs.Ytdklkeclcdajeaa
