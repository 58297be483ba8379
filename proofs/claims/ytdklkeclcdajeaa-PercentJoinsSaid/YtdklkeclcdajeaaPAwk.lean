/- awake of stage 3's checks. -/
import Derived.Test.YtdklkeclcdajeaaDec
import Derived.Test.YtdklkeclcdajeaaEnc
import Derived.Test.YtdklkeclcdajeaaUpp
import Derived.Test.YtdklkeclcdajeaaDigs
namespace Go.Proofs.Ytdklkeclcdajeaa
open Go.RowKit Pct Sets
theorem decode_is (s : ByteArray) (r : Option (List UInt8)) (h : dec (tx s) 0 = r) (w : World) (hs : s.size ≤ 1000000000) :
    Calls Try.prog 10 #[.string s] w fun e w' => e = .returned (decV r) ∧ Below w.heap.size w w' := by rw [← h]; exact decode_any s w hs
theorem encode_is (s : ByteArray) (S : Nat) (r : List UInt8) (h : enc S (tx s) = r) (w : World) (hs : s.size ≤ 1000000000) :
    Calls Try.prog 12 #[.string s, .agg #[.int .u64 (wd S 0), .int .u64 (wd S 1), .int .u64 (wd S 2), .int .u64 (wd S 3)]] w fun e w' => e = .returned (.string (str r)) ∧ Below w.heap.size w w' := by rw [← h]; exact encode_any s S w hs
theorem upper_is (s : ByteArray) (r : List UInt8) (h : up (tx s) 0 = r) (w : World) (hs : s.size ≤ 1000000000) :
    Calls Try.prog 24 #[.string s] w fun e w' => e = .returned (.string (str r)) ∧ Below w.heap.size w w' := by rw [← h]; exact upper_any s w hs
theorem hex_is (c : Nat) (r : Bool) (h : (val c).isSome = r) (w : World) (hc : c < 256) :
    Calls Try.prog 18 #[.int .u8 (c : Int)] w fun e w' => e = .returned (.bool r) ∧ w = w' := by rw [← h]; exact hex_any c w hc
theorem enc_az : enc (rangeN 97 122) [97, 32, 98, 37] = [97, 37, 50, 48, 98, 37, 50, 53] := by decide +kernel
set_option maxHeartbeats 1600000 in
set_option maxRecDepth 100000 in
theorem awake_any (w : World) :
    Calls Try.prog 16 #[] w fun e w' => e = .returned (.bool true) ∧ Below w.heap.size w w' := by
  have RA := fun w => rng 97 122 w (by decide) (by decide)
  have EA := enc_az
  generalize rangeN 97 122 = A at *
  have HE := Lib.hid EA
  clear EA
  go_enter Try.func16, Try.ntmps16
  go_wp2_with fail
  refine (decode_is _ (some [65, 98, 37, 52, 49]) (by decide) _ (by decide)).mono ?_
  rintro e w1 ⟨rfl, hb1⟩
  simp only [decV, str]
  go_wp2_with fail
  refine (RA _).mono ?_
  rintro e w2 ⟨rfl, hb2⟩
  go_wp2_with fail
  refine (encode_is { data := #[97, 32, 98, 37] } A _ HE.out _ (by decide)).mono ?_
  rintro e w3 ⟨rfl, hb3⟩
  simp only [str]
  go_wp2_with fail
  refine (upper_is _ [37, 67, 51, 37, 65, 70, 37, 122, 122, 37] (by decide) _ (by decide)).mono ?_
  rintro e w4 ⟨rfl, hb4⟩
  simp only [str]
  go_wp2_with fail
  refine (hex_is 102 true (by decide) _ (by decide)).mono ?_
  rintro e w5 ⟨rfl, rfl⟩
  go_wp2_with fail
  refine (hex_is 103 false (by decide) _ (by decide)).mono ?_
  rintro e w5 ⟨rfl, rfl⟩
  go_wp2_with fail
  go_ret
  exact ⟨rfl, ((hb1.trans (hb2.mono hb1.size)).trans (hb3.mono (Nat.le_trans hb1.size hb2.size))).trans (hb4.mono (Nat.le_trans (Nat.le_trans hb1.size hb2.size) hb3.size))⟩
end Go.Proofs.Ytdklkeclcdajeaa
