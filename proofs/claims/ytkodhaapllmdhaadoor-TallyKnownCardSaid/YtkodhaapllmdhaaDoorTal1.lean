/- The reference's rank and order; alike; odd; plain. -/
import Derived.Test.YtkodhaapllmdhaaDoorTal0
namespace Go.Proofs.YtkodhaapllmdhaaDoor
open Go.RowKit Rk
theorem and_exp (b : Nat) (hb : b < 2 ^ 64) : bits .and .u64 ((b : Int) / 4503599627370496) 2047 = ((b / 2 ^ 52 % 2048 : Nat) : Int) := by
  rw [show ((b : Int) / 4503599627370496) = ((b / 2 ^ 52 : Nat) : Int) by omega]
  have := u64_and ((b / 2 ^ 52 : Nat) : Int) 2047 (by omega) (by omega) (by omega) (by omega)
  rw [this, Int.toNat_natCast]
  exact congrArg Int.ofNat (Nat.and_two_pow_sub_one_eq_mod (b / 2 ^ 52) 11)
theorem and_frac (b : Nat) (hb : b < 2 ^ 64) : bits .and .u64 (b : Int) 4503599627370495 = ((b % 2 ^ 52 : Nat) : Int) := by
  have := u64_and (b : Int) 4503599627370495 (by omega) (by omega) (by omega) (by omega)
  rw [this, Int.toNat_natCast]
  exact congrArg Int.ofNat (Nat.and_two_pow_sub_one_eq_mod b 52)
set_option maxHeartbeats 1600000 in
theorem ref_rank (b : Nat) (hb : b < 2 ^ 64) (w : World) :
    Calls Tryd.prog 33 #[.float .f64 b] w fun e w' => e = .returned (.int .u64 (rk b : Int)) ∧ w = w' := by
  have h1 := bits_of b
  have e1 := and_exp b hb
  have e2 := and_frac b hb
  cases nb : nanB b
  · have hk := rk_num nb
    simp only [nanB, decide_eq_false_iff_not] at nb
    by_cases c1 : b / 2 ^ 52 % 2048 = 2047
    · have d1 : (((b / 2 ^ 52 % 2048 : Nat) : Int) == 2047) = true := beq_iff_eq.2 (by omega)
      have d2 : (((b % 2 ^ 52 : Nat) : Int) != 0) = false := by rw [bne_eq_false_iff_eq]; omega
      by_cases c : b / 2 ^ 63 = 1
      · have d3 : ((b : Int) / 9223372036854775808 == 1) = true := beq_iff_eq.2 (by omega)
        rw [if_pos c] at hk
        have w1 : IntKind.u64.wrap (9223372036854775808 - IntKind.u64.wrap ((b : Int) - 9223372036854775808)) = (rk b : Int) := by
          rw [IntKind.wrap_u64, IntKind.wrap_u64]; omega
        generalize rk b = r at *
        generalize b / 2 ^ 52 % 2048 = E at *
        generalize b % 2 ^ 52 = G at *
        have W1 := Lib.hid w1
        clear w1 hb hk nb c c1
        go_enter Tryd.func33, Tryd.ntmps33
        go_wp2_with fail
        go_ret
        exact ⟨by rw [← W1.out]; rfl, rfl⟩
      · have d3 : ((b : Int) / 9223372036854775808 == 1) = false := by rw [beq_eq_false_iff_ne]; omega
        rw [if_neg c] at hk
        have w1 : IntKind.u64.wrap (9223372036854775809 + (b : Int)) = (rk b : Int) := by
          rw [IntKind.wrap_u64]; omega
        generalize rk b = r at *
        generalize b / 2 ^ 52 % 2048 = E at *
        generalize b % 2 ^ 52 = G at *
        have W1 := Lib.hid w1
        clear w1 hb hk nb c c1
        go_enter Tryd.func33, Tryd.ntmps33
        go_wp2_with fail
        go_ret
        exact ⟨by rw [← W1.out]; rfl, rfl⟩
    · have d1 : (((b / 2 ^ 52 % 2048 : Nat) : Int) == 2047) = false := by rw [beq_eq_false_iff_ne]; omega
      by_cases c : b / 2 ^ 63 = 1
      · have d3 : ((b : Int) / 9223372036854775808 == 1) = true := beq_iff_eq.2 (by omega)
        rw [if_pos c] at hk
        have w1 : IntKind.u64.wrap (9223372036854775808 - IntKind.u64.wrap ((b : Int) - 9223372036854775808)) = (rk b : Int) := by
          rw [IntKind.wrap_u64, IntKind.wrap_u64]; omega
        generalize rk b = r at *
        generalize b / 2 ^ 52 % 2048 = E at *
        generalize b % 2 ^ 52 = G at *
        have W1 := Lib.hid w1
        clear w1 hb hk nb c c1
        go_enter Tryd.func33, Tryd.ntmps33
        go_wp2_with fail
        go_ret
        exact ⟨by rw [← W1.out]; rfl, rfl⟩
      · have d3 : ((b : Int) / 9223372036854775808 == 1) = false := by rw [beq_eq_false_iff_ne]; omega
        rw [if_neg c] at hk
        have w1 : IntKind.u64.wrap (9223372036854775809 + (b : Int)) = (rk b : Int) := by
          rw [IntKind.wrap_u64]; omega
        generalize rk b = r at *
        generalize b / 2 ^ 52 % 2048 = E at *
        generalize b % 2 ^ 52 = G at *
        have W1 := Lib.hid w1
        clear w1 hb hk nb c c1
        go_enter Tryd.func33, Tryd.ntmps33
        go_wp2_with fail
        go_ret
        exact ⟨by rw [← W1.out]; rfl, rfl⟩
  · rw [rk_nan nb]
    simp only [nanB, decide_eq_true_eq] at nb
    have d1 : (((b / 2 ^ 52 % 2048 : Nat) : Int) == 2047) = true := beq_iff_eq.2 (by omega)
    have d2 : (((b % 2 ^ 52 : Nat) : Int) != 0) = true := by rw [bne_iff_ne]; omega
    generalize b / 2 ^ 52 % 2048 = E at *
    generalize b % 2 ^ 52 = G at *
    clear hb nb
    go_enter Tryd.func33, Tryd.ntmps33
    go_wp2_with fail
    go_ret
    exact ⟨rfl, rfl⟩
theorem ref_compare (a b : Nat) (ha : a < 2 ^ 64) (hb : b < 2 ^ 64) (w : World) :
    Calls Tryd.prog 19 #[.float .f64 a, .float .f64 b] w fun e w' => e = .returned (.int .i64 (cf a b)) ∧ w = w' := by
  have h1 := fun w => ref_rank a ha w
  have h2 := fun w => ref_rank b hb w
  have H1 := Lib.hid h1
  have H2 := Lib.hid h2
  clear h1 h2 ha hb
  by_cases c1 : rk a < rk b
  · have hc : cf a b = -1 := by unfold cf; rw [if_pos c1]
    rw [hc]
    have d1 : decide (rk a < rk b) = true := decide_eq_true c1
    generalize rk a = x at *
    generalize rk b = y at *
    clear hc c1
    go_enter Tryd.func19, Tryd.ntmps19
    go_wp2_with fail
    refine (H1.out _).mono ?_
    rintro e w' ⟨rfl, rfl⟩
    go_wp2_with fail
    refine (H2.out _).mono ?_
    rintro e w' ⟨rfl, rfl⟩
    go_wp2_with fail
    go_ret
    exact ⟨rfl, rfl⟩
  · have d1 : decide (rk a < rk b) = false := decide_eq_false c1
    by_cases c2 : rk b < rk a
    · have hc : cf a b = 1 := by unfold cf; rw [if_neg c1, if_pos c2]
      rw [hc]
      have d2 : decide (rk b < rk a) = true := decide_eq_true c2
      generalize rk a = x at *
      generalize rk b = y at *
      clear hc c1 c2
      go_enter Tryd.func19, Tryd.ntmps19
      go_wp2_with fail
      refine (H1.out _).mono ?_
      rintro e w' ⟨rfl, rfl⟩
      go_wp2_with fail
      refine (H2.out _).mono ?_
      rintro e w' ⟨rfl, rfl⟩
      go_wp2_with fail
      refine (H1.out _).mono ?_
      rintro e w' ⟨rfl, rfl⟩
      go_wp2_with fail
      refine (H2.out _).mono ?_
      rintro e w' ⟨rfl, rfl⟩
      go_wp2_with fail
      go_ret
      exact ⟨rfl, rfl⟩
    · have hc : cf a b = 0 := by unfold cf; rw [if_neg c1, if_neg c2]
      rw [hc]
      have d2 : decide (rk b < rk a) = false := decide_eq_false c2
      generalize rk a = x at *
      generalize rk b = y at *
      clear hc c1 c2
      go_enter Tryd.func19, Tryd.ntmps19
      go_wp2_with fail
      refine (H1.out _).mono ?_
      rintro e w' ⟨rfl, rfl⟩
      go_wp2_with fail
      refine (H2.out _).mono ?_
      rintro e w' ⟨rfl, rfl⟩
      go_wp2_with fail
      refine (H1.out _).mono ?_
      rintro e w' ⟨rfl, rfl⟩
      go_wp2_with fail
      refine (H2.out _).mono ?_
      rintro e w' ⟨rfl, rfl⟩
      go_wp2_with fail
      go_ret
      exact ⟨rfl, rfl⟩
theorem cf_zero (a b : Nat) : (cf a b == 0) = decide (rk a = rk b) := by
  unfold cf
  split
  · rename_i h; rw [decide_eq_false (by omega)]; rfl
  · split
    · rename_i h; rw [decide_eq_false (by omega)]; rfl
    · rw [decide_eq_true (by omega)]; rfl
theorem alike_any (a b : Nat) (ha : a < 2 ^ 64) (hb : b < 2 ^ 64) (w : World) :
    Calls Tryd.prog 15 #[.float .f64 a, .float .f64 b] w fun e w' => e = .returned (.bool (decide (rk a = rk b))) ∧ w = w' := by
  have h1 := fun w => ref_compare a b ha hb w
  have h2 := cf_zero a b
  generalize cf a b = c at *
  generalize decide (rk a = rk b) = r at *
  have H1 := Lib.hid h1
  clear h1 ha hb
  go_enter Tryd.func15, Tryd.ntmps15
  go_wp2_with fail
  refine (H1.out _).mono ?_
  rintro e w' ⟨rfl, rfl⟩
  go_wp2_with fail
  go_ret
  exact ⟨rfl, rfl⟩
theorem odd_plain (b : Nat) : (nanB b || decide (b % 2 ^ 63 = 2047 * 2 ^ 52)) = !plainB b := by
  unfold nanB plainB
  rw [← Bool.decide_or, ← decide_not]
  exact decide_eq_decide.2 (by omega)
theorem odd_any (b : Nat) (hb : b < 2 ^ 64) (w : World) :
    Calls Tryd.prog 25 #[.float .f64 b] w fun e w' => e = .returned (.bool (!plainB b)) ∧ w = w' := by
  have h1 := fun w => isnan_any b hb w
  have h2 := fun w => isinf_any b hb w
  rw [← odd_plain]
  cases nb : nanB b
  · rw [nb] at h1
    rw [Bool.false_or]
    generalize decide (b % 2 ^ 63 = 2047 * 2 ^ 52) = r at *
    have H1 := Lib.hid h1
    have H2 := Lib.hid h2
    clear h1 h2 hb nb
    go_enter Tryd.func25, Tryd.ntmps25
    go_wp2_with fail
    refine (H1.out _).mono ?_
    rintro e w' ⟨rfl, rfl⟩
    go_wp2_with fail
    refine (H2.out _).mono ?_
    rintro e w' ⟨rfl, rfl⟩
    go_wp2_with fail
    go_ret
    exact ⟨rfl, rfl⟩
  · rw [nb] at h1
    rw [Bool.true_or]
    have H1 := Lib.hid h1
    clear h1 h2 hb nb
    go_enter Tryd.func25, Tryd.ntmps25
    go_wp2_with fail
    refine (H1.out _).mono ?_
    rintro e w' ⟨rfl, rfl⟩
    go_wp2_with fail
    go_ret
    exact ⟨rfl, rfl⟩
theorem ref_plain (b : Nat) (hb : b < 2 ^ 64) (w : World) :
    Calls Tryd.prog 35 #[.float .f64 b] w fun e w' => e = .returned (.bool (plainB b)) ∧ w = w' := by
  have h1 := bits_of b
  have e1 := and_exp b hb
  have d1 : (((b / 2 ^ 52 % 2048 : Nat) : Int) != 2047) = plainB b := by
    unfold plainB
    by_cases c : b % 2 ^ 63 < 2047 * 2 ^ 52
    · rw [decide_eq_true c, bne_iff_ne]; omega
    · rw [decide_eq_false c, bne_eq_false_iff_eq]; omega
  generalize plainB b = r at *
  generalize b / 2 ^ 52 % 2048 = E at *
  clear hb
  go_enter Tryd.func35, Tryd.ntmps35
  go_wp2_with fail
  go_ret
  exact ⟨rfl, rfl⟩
end Go.Proofs.YtkodhaapllmdhaaDoor
