/- ref's Affords and More. -/
import Derived.Test.YtbgafjfegjbblaaPur6
namespace Go.Proofs.Ytbgafjfegjbblaa
open Go.RowKit Dbl
theorem exp_bits (b : Nat) (hb : b < 2 ^ 64) : bits .and .i64 ((b : Int) / 4503599627370496) 2047 = ((b / 2 ^ 52 % 2048 : Nat) : Int) := by
  have h1 : ((b : Int) / 4503599627370496) = ((b / 2 ^ 52 : Nat) : Int) := by omega
  have h2 : b / 2 ^ 52 < 4096 := by omega
  rw [h1]
  generalize b / 2 ^ 52 = x at *
  have key : (BitVec.ofInt 64 (x : Int) &&& BitVec.ofInt 64 2047).toNat = x % 2048 := by
    have hm : (BitVec.ofInt 64 2047).toNat = 2 ^ 11 - 1 := by decide
    rw [BitVec.toNat_and, BitVec.toNat_ofInt, hm, Nat.and_two_pow_sub_one_eq_mod]
    omega
  show IntKind.i64.wrap ((BitVec.ofInt 64 (x : Int) &&& BitVec.ofInt 64 2047).toNat : Nat) = _
  rw [key, IntKind.wrap_i64]
  omega
theorem frac_bits (b : Nat) (hb : b < 2 ^ 64) : bits .and .u64 (b : Int) 4503599627370495 = ((b % 2 ^ 52 : Nat) : Int) := by
  have := u64_and (b : Int) 4503599627370495 (by omega) (by omega) (by omega) (by omega)
  rw [this, Int.toNat_natCast]
  exact congrArg Int.ofNat (Nat.and_two_pow_sub_one_eq_mod b 52)
def gp (G k : Nat) : Nat := G * 2 ^ k
def gq (Y k : Nat) : Nat := Y / 2 ^ k
theorem gp_zero (G : Nat) : gp G 0 = G := by simp [gp]
theorem gq_zero (G : Nat) : gq G 0 = G := by simp [gq]
theorem gp_step (G E k : Nat) (hG : G < 2 ^ 53) (hE : E < 1087) (hk : (k : Int) < (E : Int) - 1023 - 52) : IntKind.u64.wrap ((gp G k : Int) * 2) = (gp G (k + 1) : Int) := by
  have m1 : gp G k * 2 = gp G (k + 1) := by unfold gp; rw [Nat.pow_succ, Nat.mul_assoc]
  have m2 : gp G (k + 1) < 2 ^ 64 := by
    unfold gp
    have h2 : 2 ^ (k + 1) ≤ 2 ^ 11 := Nat.pow_le_pow_right (by decide) (by omega)
    have h3 := Nat.mul_le_mul (show G ≤ 2 ^ 53 - 1 by omega) h2
    have h4 : (2 ^ 53 - 1) * 2 ^ 11 < 2 ^ 64 := by decide +kernel
    exact Nat.lt_of_le_of_lt h3 h4
  generalize gp G (k + 1) = Y2 at *
  generalize gp G k = Y at *
  unfold IntKind.wrap; simp [IntKind.signed, IntKind.bits]; omega
theorem gp_lt (G k : Nat) (hG : G < 2 ^ 53) (hk : k ≤ 11) : gp G k < 2 ^ 64 := by
  unfold gp
  have h2 : 2 ^ k ≤ 2 ^ 11 := Nat.pow_le_pow_right (by decide) hk
  have h3 := Nat.mul_le_mul (show G ≤ 2 ^ 53 - 1 by omega) h2
  have h4 : (2 ^ 53 - 1) * 2 ^ 11 < 2 ^ 64 := by decide +kernel
  exact Nat.lt_of_le_of_lt h3 h4
theorem gq_wrap (Y j : Nat) (h : Y < 2 ^ 64) : IntKind.u64.wrap (gq Y j : Int) = (gq Y j : Int) := by
  have : gq Y j ≤ Y := Nat.div_le_self _ _
  generalize gq Y j = Z at *
  unfold IntKind.wrap; simp [IntKind.signed, IntKind.bits]; omega
theorem gq_step (Y k : Nat) : (gq Y k : Int).tdiv 2 = (gq Y (k + 1) : Int) := by
  rw [Int.tdiv_eq_ediv_of_nonneg (by omega)]
  have : gq Y (k + 1) = gq Y k / 2 := by unfold gq; rw [Nat.pow_succ, Nat.div_div_eq_div_mul]
  rw [this]
  omega
theorem ref_affords_zero (b : Nat) (w : World) :
    Calls Try.prog 23 #[.float .f64 b, .int .u64 0] w fun e w' => e = .returned (.bool true) ∧ w = w' := by
  go_enter Try.func23, Try.ntmps23
  go_wp2_with fail
  refine bodyPost_ret (results_tmp rfl _ _ _) rfl ?_
  exact ⟨rfl, rfl⟩
set_option maxHeartbeats 1600000 in
theorem ref_affords_some (b n : Nat) (w : World) (hb : b < 2 ^ 64) (hn : n ≤ M) (hz : n ≠ 0) :
    Calls Try.prog 23 #[.float .f64 b, .int .u64 (n : Int)] w fun e w' => e = .returned (.bool (decide (n ≤ cap b))) ∧ w = w' := by
  have h1 := bits_of b
  have hne : ((n : Int) == 0) = false := by simp; omega
  have hE := exp_bits b hb
  have hF := frac_bits b hb
  have hEl : b / 2 ^ 52 % 2048 < 2048 := Nat.mod_lt _ (by decide)
  have hFl : b % 2 ^ 52 < 2 ^ 52 := Nat.mod_lt _ (by decide)
  have hc1 := cap_bits_none b hb
  have hc2 := cap_bits_all b hb
  have hc3 := cap_bits_mid b hb
  have hS : b / 2 ^ 63 = 0 ∨ b / 2 ^ 63 = 1 := by omega
  have hsg : ((b : Int) / 9223372036854775808 == 1) = (b / 2 ^ 63 == 1) := by
    rw [show ((b : Int) / 9223372036854775808) = ((b / 2 ^ 63 : Nat) : Int) by omega]
    rcases hS with h | h <;> rw [h] <;> rfl
  generalize cap b = C at *
  generalize b / 2 ^ 52 % 2048 = E at *
  generalize b % 2 ^ 52 = F at *
  generalize b / 2 ^ 63 = S at *
  have HC1 := Lib.hid hc1
  have HC2 := Lib.hid hc2
  have HC3 := Lib.hid hc3
  have HFL := Lib.hid hFl
  clear hc1 hc2 hc3 hFl
  rcases hS with rfl | rfl
  · have hsg' : ((b : Int) / 9223372036854775808 == 1) = false := hsg
    clear hsg
    by_cases q1 : E = 2047
    · subst q1
      have hE' : bits .and .i64 ((b : Int) / 4503599627370496) 2047 = 2047 := hE
      clear hE
      by_cases q2 : F = 0
      · subst q2
        have hF' : bits .and .u64 (b : Int) 4503599627370495 = 0 := hF
        have hC := HC2.out rfl (.inl ⟨rfl, rfl⟩)
        subst hC
        have HN := Lib.hid hn
        clear hF hn HC1 HC2 HC3
        go_enter Try.func23, Try.ntmps23
        go_wp2_with fail
        refine bodyPost_ret (results_tmp rfl _ _ _) rfl ?_
        rw [decide_eq_true HN.out]
        exact ⟨rfl, rfl⟩
      · have hF0 : ((F : Int) != 0) = true := by simp; omega
        have hC := HC1.out (.inr (.inl ⟨rfl, q2⟩))
        subst hC
        clear HC1 HC2 HC3 q2
        go_enter Try.func23, Try.ntmps23
        go_wp2_with fail
        refine bodyPost_ret (results_tmp rfl _ _ _) rfl ?_
        rw [decide_eq_false (by omega)]
        exact ⟨rfl, rfl⟩
    · have hE7 : ((E : Int) == 2047) = false := beq_eq_false_iff_ne.2 (by omega)
      by_cases q2 : E = 0
      · subst q2
        have hE' : bits .and .i64 ((b : Int) / 4503599627370496) 2047 = 0 := hE
        have hC := HC1.out (.inr (.inr (by decide)))
        subst hC
        clear hE hE7 HC1 HC2 HC3 q1
        by_cases q3 : F = 0
        · subst q3
          have hF' : bits .and .u64 (b : Int) 4503599627370495 = 0 := hF
          clear hF
          go_enter Try.func23, Try.ntmps23
          go_wp2_with fail
          refine bodyPost_ret (results_tmp rfl _ _ _) rfl ?_
          rw [decide_eq_false (by omega)]
          exact ⟨rfl, rfl⟩
        · have hF0 : ((F : Int) == 0) = false := beq_eq_false_iff_ne.2 (by omega)
          clear q3
          go_enter Try.func23, Try.ntmps23
          go_wp2_with fail
          refine bodyPost_ret (results_tmp rfl _ _ _) rfl ?_
          rw [decide_eq_false (by omega)]
          exact ⟨rfl, rfl⟩
      · have hE0 : ((E : Int) == 0) = false := beq_eq_false_iff_ne.2 (by omega)
        by_cases q3 : E < 1023
        · have d1 : decide ((1087 : Int) ≤ (E : Int)) = false := decide_eq_false (by omega)
          have d2 : decide ((E : Int) < 1023) = true := decide_eq_true (by omega)
          have hC := HC1.out (.inr (.inr q3))
          subst hC
          clear HC1 HC2 HC3 q1 q2 q3
          go_enter Try.func23, Try.ntmps23
          go_wp2_with fail
          refine bodyPost_ret (results_tmp rfl _ _ _) rfl ?_
          rw [decide_eq_false (by omega)]
          exact ⟨rfl, rfl⟩
        · by_cases q4 : 1087 ≤ E
          · have d1 : decide ((1087 : Int) ≤ (E : Int)) = true := decide_eq_true (by omega)
            have hC := HC2.out rfl (.inr ⟨q4, q1⟩)
            subst hC
            have HN := Lib.hid hn
            clear HC1 HC2 HC3 q1 q2 q3 q4 hn
            go_enter Try.func23, Try.ntmps23
            go_wp2_with fail
            refine bodyPost_ret (results_tmp rfl _ _ _) rfl ?_
            rw [decide_eq_true HN.out]
            exact ⟨rfl, rfl⟩
          · have d1 : decide ((1087 : Int) ≤ (E : Int)) = false := decide_eq_false (by omega)
            have d2 : decide ((E : Int) < 1023) = false := decide_eq_false (by omega)
            have hC := HC3.out rfl (by omega) (by omega)
            have HC := Lib.hid hC
            have q5 : 1023 ≤ E := by omega
            have q6 : E < 1087 := by omega
            clear HC1 HC2 HC3 q1 q2 q3 q4 hC
            have hw : IntKind.u64.wrap ((F : Int) + 4503599627370496) = ((2 ^ 52 + F : Nat) : Int) := by
              have := HFL.out
              unfold IntKind.wrap; simp [IntKind.signed, IntKind.bits]; omega
            have hG : 2 ^ 52 + F < 2 ^ 53 := by have := HFL.out; omega
            generalize 2 ^ 52 + F = G at *
            have HG := Lib.hid hG
            clear hG
            go_enter Try.func23, Try.ntmps23
            go_wp2_with fail
            go_loop [9, 11] (fun x i => ∃ k : Nat, k ≤ E - 1075 ∧ i = .int .i64 k ∧ x = .int .u64 (gp G k : Int)) (fun _ i => 64 - (intOf i).toNat)
            case atStart => exact ⟨0, Nat.zero_le _, rfl, by rw [gp_zero]⟩
            case round =>
              obtain ⟨k, hk, rfl, rfl⟩ := hrel
              by_cases hlt : (k : Int) < (E : Int) - 1023 - 52
              · have hdk : decide ((k : Int) < (E : Int) - 1023 - 52) = true := decide_eq_true hlt
                have hx := gp_step G E k HG.out q6 hlt
                go_wp2_with fail
                go_round
                case rel => exact ⟨k + 1, by omega, by go_num, rfl⟩
                case measure => simp [intOf]; omega
              · have hdk : decide ((k : Int) < (E : Int) - 1023 - 52) = false := decide_eq_false hlt
                have hk2 : k = E - 1075 := by omega
                rw [show G * 2 ^ (E - 1075) / 2 ^ (1075 - E) = gq (gp G k) (1075 - E) by rw [hk2]; rfl] at HC
                have hYl := gp_lt G k HG.out (by omega)
                have HYL := Lib.hid hYl
                clear hk2 hk hYl
                generalize gp G k = Y at *
                go_wp2_with fail
                go_loop [9, 12] (fun x i => ∃ j : Nat, j ≤ 1075 - E ∧ i = .int .i64 (-(j : Int)) ∧ x = .int .u64 (gq Y j : Int)) (fun _ i => 64 - (- intOf i).toNat)
                case atStart => exact ⟨0, Nat.zero_le _, by simp, by rw [gq_zero]⟩
                case round =>
                  obtain ⟨j, hj, rfl, rfl⟩ := hrel
                  by_cases hlt2 : (E : Int) - 1023 - 52 < -(j : Int)
                  · have hdj : decide ((E : Int) - 1023 - 52 < -(j : Int)) = true := decide_eq_true hlt2
                    have hx := gq_step Y j
                    have hx2 := gq_wrap Y (j + 1) HYL.out
                    go_wp2_with fail
                    go_round
                    case rel => exact ⟨j + 1, by omega, by go_num, rfl⟩
                    case measure => simp [intOf]; omega
                  · have hdj : decide ((E : Int) - 1023 - 52 < -(j : Int)) = false := decide_eq_false hlt2
                    have hj2 : j = 1075 - E := by omega
                    rw [← hj2] at HC
                    clear hj2
                    go_wp2_with fail
                    go_ret
                    rw [HC.out]
                    exact ⟨rfl, rfl⟩
  · have hsg' : ((b : Int) / 9223372036854775808 == 1) = true := hsg
    have hC := HC1.out (.inl rfl)
    subst hC
    clear hsg HC1 HC2 HC3
    go_enter Try.func23, Try.ntmps23
    go_wp2_with fail
    refine bodyPost_ret (results_tmp rfl _ _ _) rfl ?_
    rw [decide_eq_false (by omega)]
    exact ⟨rfl, rfl⟩
/-- ref's Affords: what a budget affords, by its bits -/
theorem ref_affords (b n : Nat) (w : World) (hb : b < 2 ^ 64) (hn : n ≤ M) :
    Calls Try.prog 23 #[.float .f64 b, .int .u64 (n : Int)] w fun e w' => e = .returned (.bool (decide (n ≤ cap b))) ∧ w = w' := by
  by_cases hz : n = 0
  · subst hz
    rw [decide_eq_true (Nat.zero_le _)]
    exact ref_affords_zero b w
  · exact ref_affords_some b n w hb hn hz
end Go.Proofs.Ytbgafjfegjbblaa
