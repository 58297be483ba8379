/- PercentDigits, walked. -/
import Derived.Test.YtdklkeclcdajeaaPAwk
import Derived.Test.YtdklkeclcdajeaaRefV
namespace Go.Proofs.Ytdklkeclcdajeaa
open Go.RowKit Pct Sets
theorem has_is3 (S c : Nat) (b : Bool) (w : World) (h : c < 256) (hb : S.testBit c = b) :
    Calls Try.prog 19 #[.agg #[.int .u64 (wd S 0), .int .u64 (wd S 1), .int .u64 (wd S 2), .int .u64 (wd S 3)], .int .u8 (c : Int)] w fun e w' =>
      e = .returned (.bool b) ∧ Below w.heap.size w w' := by
  rw [← hb]; have := has_any S (c : Int) w (by omega) (by omega); rw [Int.toNat_natCast] at this; exact this
set_option maxHeartbeats 1600000 in
set_option maxRecDepth 100000 in
theorem pdigits_any (w : World) :
    Calls Try.prog 4 #[] w fun e w' => e = .returned (.bool true) ∧ Below w.heap.size w w' := by
  have RD := digits_any
  have HB := hexN_bit
  generalize hexN = H at *
  go_enter Try.func4, Try.ntmps4
  go_wp2_with fail
  have HH := Lib.hid HB
  clear HB
  go_loopw [1] (fun i wr => ∃ k : Nat, k ≤ 256 ∧ i = .int .i64 k ∧ Below w.heap.size w wr) (fun i _ => (256 - intOf i).toNat)
  case atStart => exact ⟨0, by omega, rfl, Below.refl _ _⟩
  case round =>
    obtain ⟨k, hk, rfl, hb⟩ := hrel
    by_cases hlt : k < 256
    · have hd : decide ((k : Int) < 256) = true := decide_eq_true (by omega)
      have V := fun w => value_any k w hlt
      have X := fun w => hex_any k w hlt
      have R := fun w => refval_any k w hlt
      have hbit := HH.out k hlt
      cases hv : val k with
      | some x =>
        have hx := val_lt hv
        rw [hv] at V X hbit
        rw [valI_some hv] at R
        simp only [valV, Option.isSome_some] at V X hbit
        have HS := fun w => has_is3 H k true w hlt hbit
        have d0 : decide ((0 : Int) ≤ (x : Int)) = true := decide_eq_true (by omega)
        clear hv hbit
        go_wp2_with fail
        refine (V _).mono ?_; rintro e w' ⟨rfl, rfl⟩
        go_wp2_with fail
        refine (R _).mono ?_; rintro e w' ⟨rfl, rfl⟩
        go_wp2_with fail
        refine (X _).mono ?_; rintro e w' ⟨rfl, rfl⟩
        go_wp2_with fail
        refine (RD _).mono ?_; rintro e w2 ⟨rfl, hb2⟩
        replace hb2 := hb.trans (hb2.mono hb.size)
        go_wp2_with fail
        refine (HS _).mono ?_; rintro e w3 ⟨rfl, hb3⟩
        replace hb3 := hb2.trans (hb3.mono hb2.size)
        go_wp2_with fail
        go_roundw
        case rel => exact ⟨k + 1, by omega, by go_num, hb3⟩
        case measure => simp [intOf]; omega
      | none =>
        rw [hv] at V X hbit
        rw [valI_none hv] at R
        simp only [valV, Option.isSome_none] at V X hbit
        have HS := fun w => has_is3 H k false w hlt hbit
        clear hv hbit
        go_wp2_with fail
        refine (V _).mono ?_; rintro e w' ⟨rfl, rfl⟩
        go_wp2_with fail
        refine (R _).mono ?_; rintro e w' ⟨rfl, rfl⟩
        go_wp2_with fail
        refine (X _).mono ?_; rintro e w' ⟨rfl, rfl⟩
        go_wp2_with fail
        refine (RD _).mono ?_; rintro e w2 ⟨rfl, hb2⟩
        replace hb2 := hb.trans (hb2.mono hb.size)
        go_wp2_with fail
        refine (HS _).mono ?_; rintro e w3 ⟨rfl, hb3⟩
        replace hb3 := hb2.trans (hb3.mono hb2.size)
        go_wp2_with fail
        go_roundw
        case rel => exact ⟨k + 1, by omega, by go_num, hb3⟩
        case measure => simp [intOf]; omega
    · have : k = 256 := by omega
      subst this
      go_wp2_with fail
      refine (awake_any _).mono ?_
      rintro e w9 ⟨rfl, hb9⟩
      replace hb9 := hb.trans (hb9.mono hb.size)
      go_wp2_with fail
      go_ret
      exact ⟨rfl, hb9⟩
end Go.Proofs.Ytdklkeclcdajeaa
