/- PercentKnown, walked. -/
import Derived.Test.YtdklkeclcdajeaaPAwk
import Derived.Test.YtdklkeclcdajeaaVal
import Derived.Test.YtdklkeclcdajeaaOct3
namespace Go.Proofs.Ytdklkeclcdajeaa
open Go.RowKit Pct Sets
theorem value_is (c : Nat) (r : Option Nat) (h : val c = r) (w : World) (hc : c < 256) :
    Calls Try.prog 9 #[.int .u8 (c : Int)] w fun e w' => e = .returned (valV r) ∧ w = w' := by rw [← h]; exact value_any c w hc
theorem enc_full1 : enc full [195, 169] = [195, 169] := by decide +kernel
theorem enc_full2 : enc full [37] = [37, 50, 53] := by decide +kernel
theorem cnt_hex : cnt hexN = 22 := by decide +kernel
set_option maxHeartbeats 1600000 in
set_option maxRecDepth 100000 in
theorem pknown_any (w : World) :
    Calls Try.prog 3 #[] w fun e w' => e = .returned (.bool true) ∧ Below w.heap.size w w' := by
  have RF := all_any
  have E1 := enc_full1
  have E2 := enc_full2
  have RD := digits_any
  have CN := cnt_hex
  generalize full = F at *
  generalize hexN = H at *
  have H1 := Lib.hid E1
  have H2 := Lib.hid E2
  have CW := fun w => count_any H w
  rw [CN] at CW
  clear E1 E2 CN
  go_enter Try.func3, Try.ntmps3
  go_wp2_with fail
  refine (value_is 70 (some 15) (by decide) _ (by decide)).mono ?_
  rintro e w' ⟨rfl, rfl⟩
  simp only [valV]
  go_wp2_with fail
  refine (value_is 103 none (by decide) _ (by decide)).mono ?_
  rintro e w' ⟨rfl, rfl⟩
  simp only [valV]
  go_wp2_with fail
  refine (decode_is _ none (by decide) _ (by decide)).mono ?_
  rintro e w1 ⟨rfl, hb1⟩
  simp only [decV, str]
  go_wp2_with fail
  refine (decode_is _ (some []) (by decide) _ (by decide)).mono ?_
  rintro e w2 ⟨rfl, hb2⟩
  simp only [decV, str]
  go_wp2_with fail
  refine (valid_is _ false (by decide) _ (by decide)).mono ?_
  rintro e w' ⟨rfl, rfl⟩
  go_wp2_with fail
  refine (valid_is _ false (by decide) _ (by decide)).mono ?_
  rintro e w' ⟨rfl, rfl⟩
  go_wp2_with fail
  refine (valid_is _ true (by decide) _ (by decide)).mono ?_
  rintro e w' ⟨rfl, rfl⟩
  replace hb2 := hb1.trans (hb2.mono hb1.size)
  clear hb1
  go_wp2_with fail
  refine (RF _).mono ?_
  rintro e w3 ⟨rfl, hb3⟩
  replace hb3 := hb2.trans (hb3.mono hb2.size)
  clear hb2
  go_wp2_with fail
  refine (encode_is { data := #[195, 169] } F _ H1.out _ (by decide)).mono ?_
  rintro e w4 ⟨rfl, hb4⟩
  replace hb4 := hb3.trans (hb4.mono hb3.size)
  clear hb3
  simp only [str]
  go_wp2_with fail
  refine (RF _).mono ?_
  rintro e w5 ⟨rfl, hb5⟩
  replace hb5 := hb4.trans (hb5.mono hb4.size)
  clear hb4
  go_wp2_with fail
  refine (encode_is { data := #[37] } F _ H2.out _ (by decide)).mono ?_
  rintro e w6 ⟨rfl, hb6⟩
  replace hb6 := hb5.trans (hb6.mono hb5.size)
  clear hb5
  simp only [str]
  go_wp2_with fail
  refine (RD _).mono ?_
  rintro e w7 ⟨rfl, hb7⟩
  replace hb7 := hb6.trans (hb7.mono hb6.size)
  clear hb6
  go_wp2_with fail
  refine (CW _).mono ?_
  rintro e w8 ⟨rfl, hb8⟩
  replace hb8 := hb7.trans (hb8.mono hb7.size)
  clear hb7
  go_wp2_with fail
  refine (awake_any _).mono ?_
  rintro e w9 ⟨rfl, hb9⟩
  replace hb9 := hb8.trans (hb9.mono hb8.size)
  clear hb8
  go_wp2_with fail
  go_ret
  exact ⟨rfl, hb9⟩
end Go.Proofs.Ytdklkeclcdajeaa
