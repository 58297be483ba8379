/- rising, Right. -/
import Derived.Test.YtlbaecjmfgahgaaDoorNf0
namespace Go.Proofs.YtlbaecjmfgahgaaDoor
open Go.RowKit Sets Nf
namespace Nf
theorem meas8 {j n : Nat} (h : j < n) : ((n : Int) - ((j + 1 : Nat) : Int)).toNat < ((n : Int) - (j : Int)).toNat := by omega
theorem nat_wrap {j : Nat} (h : j ≤ 100000) : wrap64 ((j : Int) + 1) = ((j + 1 : Nat) : Int) := by unfold wrap64; omega
theorem int_wrap {j : Int} (h0 : 0 ≤ j) (h : j ≤ 100000) : wrap64 (j + 1) = j + 1 := by unfold wrap64; omega
set_option maxHeartbeats 3200000 in
set_option maxRecDepth 100000 in
theorem rising_any (a : Option Addr) (cap n : Nat) (l : List Int) (w : World) (h : NumsIn w a l) (hl : l.length ≤ 1000) (hn : n ≤ 1000) :
    Calls Tryd.prog 38 #[.slice a l.length cap, .int .i64 n] w fun e w' => e = .returned (.bool (rise n l)) ∧ w = w' := by
  have HX : Hid (rise n l = riseF n 0 (l.drop 0)) := Lib.hid rfl
  have HN := Lib.hid h
  have HL := Lib.hid hl
  have HB := Lib.hid hn
  clear h hl hn
  go_enter Tryd.func38, Tryd.ntmps38
  go_wp2_with fail
  go_loopw [5, 10] (fun x i wr => ∃ (j : Nat) (low : Int), i = .int .i64 j ∧ x = .int .i64 low ∧ j ≤ l.length ∧ wr = w ∧ Hid (0 ≤ low ∧ low ≤ 1000 ∧ rise n l = riseF n low (l.drop j))) (fun _ i _ => ((l.length : Int) - intOf i).toNat)
  case atStart => exact ⟨0, 0, rfl, rfl, Nat.zero_le _, rfl, Lib.hid ⟨by decide, by decide, HX.out⟩⟩
  case round =>
    obtain ⟨j, low, rfl, rfl, hj, rfl, HI⟩ := hrel
    by_cases hlt : j < l.length
    · have hdd : decide ((j : Int) < (l.length : Int)) = true := decide_eq_true (by omega)
      have hd2 : decide (j < l.length) = true := decide_eq_true hlt
      obtain ⟨b, o, rfl, hc⟩ := HN.out j hlt
      have HS := Lib.hid (riseF_drop n low l j hlt)
      have HW1 : Hid (wrap64 ((j : Int) + 1) = ((j + 1 : Nat) : Int)) := Lib.hid (nat_wrap (by have := HL.out; omega))
      generalize l.getD j 0 = k at *
      by_cases h1 : k < low
      · have hd3 : decide (k < low) = true := decide_eq_true h1
        have HR : Hid (rise n l = false) := Lib.hid (by rw [HI.out.2.2, HS.out, decide_eq_false (by omega), Bool.false_and])
        clear h1
        go_wp2_with fail
        go_ret
        exact ⟨by rw [HR.out]; rfl, rfl⟩
      · have hd3 : decide (k < low) = false := decide_eq_false h1
        by_cases h2 : (n : Int) ≤ k
        · have hd4 : decide ((n : Int) ≤ k) = true := decide_eq_true h2
          have HR : Hid (rise n l = false) := Lib.hid (by rw [HI.out.2.2, HS.out, decide_eq_false (p := k < (n : Int)) (by omega), Bool.false_and, Bool.and_false])
          clear h1 h2
          go_wp2_with fail
          go_ret
          exact ⟨by rw [HR.out]; rfl, rfl⟩
        · have hd4 : decide ((n : Int) ≤ k) = false := decide_eq_false h2
          have HW2 : Hid (wrap64 (k + 1) = k + 1) := Lib.hid (int_wrap (by have := HI.out; omega) (by have := HB.out; omega))
          have HR : Hid (0 ≤ k + 1 ∧ k + 1 ≤ 1000 ∧ rise n l = riseF n (k + 1) (l.drop (j + 1))) := Lib.hid ⟨by have := HI.out; omega, by have := HB.out; omega, by rw [HI.out.2.2, HS.out, decide_eq_true (p := low ≤ k) (by omega), decide_eq_true (p := k < (n : Int)) (by omega), Bool.true_and, Bool.true_and]⟩
          clear h1 h2
          go_wp2_with fail
          go_roundw
          case rel => exact ⟨j + 1, k + 1, by rw [HW1.out], by rw [HW2.out], hlt, by first | rfl | trivial, HR⟩
          case measure => rw [HW1.out]; exact meas8 hlt
    · have hje : j = l.length := by omega
      have hdd : decide ((j : Int) < (l.length : Int)) = false := decide_eq_false (by omega)
      have hd2 : decide (j < l.length) = false := decide_eq_false hlt
      have HR : Hid (rise n l = true) := Lib.hid (by rw [HI.out.2.2, riseF_end _ _ _ _ (by omega)])
      clear hje
      go_wp2_with fail
      go_ret
      exact ⟨by rw [HR.out]; rfl, rfl⟩
end Nf
end Go.Proofs.YtlbaecjmfgahgaaDoor
