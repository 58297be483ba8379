/- setDigits. -/
import Derived.Test.YtkodhaapllmdhaaDoorStr4
namespace Go.Proofs.YtkodhaapllmdhaaDoor
open Go.RowKit
set_option maxHeartbeats 1600000 in
set_option maxRecDepth 100000 in
theorem setdigits_any (g N n cap d z : Nat) (p : Int) (f : Nat → Nat) (w : World) (hR : RowB w g N f) (hn : n ≤ N) (hu : d < 10 ^ n) (hn2 : n ≤ 19) (hN : N ≤ 100) (hp1 : -5000 ≤ p) (hp2 : p ≤ 5000) (hcap : N ≤ cap)
    (hz : z < n) (hz1 : ∀ t, t < z → d / 10 ^ t % 10 = 0) (hz2 : d / 10 ^ z % 10 ≠ 0) :
    Calls Tryd.prog 60 #[.slice (some ⟨g, 0, none⟩) N cap, .int .u64 (d : Int), .int .i64 p, .int .i64 (n : Int)] w fun e w' => e = .returned (.tuple #[.int .i64 ((n : Int) + p), .int .i64 ((n - z : Nat) : Int)]) ∧ RowB w' g N (fun j => if j < n then dg d (n - 1 - j) else f j) ∧ Below g w w' := by
  have HB := fun c w hR => base10_any g N n c d f w hR hn hu hn2 hN
  have HB' := Lib.hid HB
  have HR := Lib.hid hR
  have H1 := Lib.hid hz1
  have H2 := Lib.hid hz2
  have hd1 : decide (n ≤ N) = true := decide_eq_true hn
  have w1 : wrap64 ((n : Int) + p) = (n : Int) + p := by unfold wrap64; omega
  clear HB hR hz1 hz2 hu
  go_enter Tryd.func60, Tryd.ntmps60
  go_wp2_with fail
  refine (HB'.out _ _ HR.out).mono ?_
  rintro r w1' ⟨rfl, hrow, hbel⟩
  have HW := Lib.hid hrow
  have HL := Lib.hid hbel
  clear hrow hbel HB' HR
  go_wp2_with fail
  go_loop [3] (fun i => ∃ t : Nat, t ≤ z ∧ i = .int .i64 ((n - t : Nat) : Int)) (fun i => (intOf i).toNat)
  case atStart => exact ⟨0, Nat.zero_le _, by simp⟩
  case round =>
    obtain ⟨t, ht, rfl⟩ := hrel
    have hc := (HW.out (n - t - 1) (by omega)).1
    have hpos : decide (0 < n - t) = true := decide_eq_true (by omega)
    simp only at hc
    rw [if_pos (by omega), show n - 1 - (n - t - 1) = t by omega] at hc
    by_cases h : t < z
    · have hv : dg d t = 48 := by unfold dg; rw [H1.out t h]
      rw [hv] at hc
      have hM : 1 ≤ n - t := by omega
      have hMu : n - t ≤ 19 := by omega
      have hMN : n - t ≤ N := by omega
      generalize hq : n - t = M at *
      have HM := Lib.hid hq
      clear hq hv
      go_wp2_with fail
      go_round
      case rel => exact ⟨t + 1, by omega, by have := HM.out; rw [show n - (t + 1) = M - 1 by omega]; go_num⟩
      case measure => simp [intOf]; omega
    · have htz : t = z := by omega
      subst htz
      have hv : ((dg d t : Nat) : Int) ≠ 48 := by unfold dg; have := H2.out; omega
      have hv' : (((dg d t : Nat) : Int) == 48) = false := beq_eq_false_iff_ne.2 hv
      have hM : 1 ≤ n - t := by omega
      have hMu : n - t ≤ 19 := by omega
      have hMN : n - t ≤ N := by omega
      generalize dg d t = D at *
      generalize hq : n - t = M at *
      clear hv
      have HM := Lib.hid hq
      clear hq
      go_wp2_with fail
      go_ret2
      exact ⟨by rw [HM.out]; rfl, HW.out, HL.out⟩
end Go.Proofs.YtkodhaapllmdhaaDoor
