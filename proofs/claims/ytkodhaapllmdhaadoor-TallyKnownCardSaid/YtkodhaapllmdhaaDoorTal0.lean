/- math's small functions on doubles; the order: tally's and the reference's. -/
import Derived.Test.YtkodhaapllmdhaaDoorProg
import Derived.Test.YtkodhaapllmdhaaDoorKit
import Derived.Test.YtkodhaapllmdhaaDoorRnk
import Derived.WalkKit
import Derived.WalkLawsBesides
import Derived.WalkSpells
import Derived.Lib.Hide
namespace Go.Proofs.YtkodhaapllmdhaaDoor
open Go.RowKit Rk
theorem bits_of (b : Nat) (w : World) : (callFunc 23 #[.float .f64 b]).run Tryd.prog w = .ok (.value (.int .u64 (b : Int))) w := by
  rw [run_callFunc_extern Tryd.func23 (by kernel_rfl) (by kernel_rfl) (by kernel_rfl) (e := Extern.MathFloatBits.float64bits) (by kernel_rfl)]
  rfl
theorem from_bits (n : Nat) (w : World) : (callFunc 27 #[.int .u64 (n : Int)]).run Tryd.prog w = .ok (.value (.float .f64 n)) w := by
  rw [run_callFunc_extern Tryd.func27 (by kernel_rfl) (by kernel_rfl) (by kernel_rfl) (e := Extern.MathFloatBits.float64frombits) (by kernel_rfl)]
  rfl
theorem nan_is (w : World) :
    Calls Tryd.prog 9 #[] w fun e w' => e = .returned (.float .f64 cano) ∧ w = w' := by
  have h : ∀ w, (callFunc 27 #[.int .u64 9221120237041090561]).run Tryd.prog w = .ok (.value (.float .f64 cano)) w := fun w => from_bits cano w
  generalize cano = c at *
  go_enter Tryd.func9, Tryd.ntmps9
  go_wp2_with fail
  go_ret
  exact ⟨rfl, rfl⟩
theorem isnan_any (b : Nat) (hb : b < 2 ^ 64) (w : World) :
    Calls Tryd.prog 12 #[.float .f64 b] w fun e w' => e = .returned (.bool (nanB b)) ∧ w = w' := by
  have hr : (FloatKind.f64.format.order b b != some .eq) = nanB b := ne_self b hb
  generalize nanB b = r at *
  go_enter Tryd.func12, Tryd.ntmps12
  go_wp2_with fail
  go_ret
  exact ⟨rfl, rfl⟩
theorem isNaN_any (b : Nat) (hb : b < 2 ^ 64) (w : World) :
    Calls Tryd.prog 38 #[.float .f64 b] w fun e w' => e = .returned (.bool (nanB b)) ∧ w = w' := by
  have hr : (FloatKind.f64.format.order b b != some .eq) = nanB b := ne_self b hb
  generalize nanB b = r at *
  go_enter Tryd.func38, Tryd.ntmps38
  go_wp2_with fail
  go_ret
  exact ⟨rfl, rfl⟩
theorem andnot_top (b : Nat) (hb : b < 2 ^ 64) : bits .andNot .u64 (b : Int) 9223372036854775808 = ((b % 2 ^ 63 : Nat) : Int) := by
  have := u64_andNot (b : Int) 9223372036854775808 (by omega) (by omega) (by omega) (by omega)
  rw [this, Int.toNat_natCast]
  exact congrArg Int.ofNat (Nat.and_two_pow_sub_one_eq_mod b 63)
theorem abs_any (b : Nat) (hb : b < 2 ^ 64) (w : World) :
    Calls Tryd.prog 29 #[.float .f64 b] w fun e w' => e = .returned (.float .f64 (b % 2 ^ 63)) ∧ w = w' := by
  have h1 := bits_of b
  have h2 := from_bits (b % 2 ^ 63)
  have hx := andnot_top b hb
  generalize b % 2 ^ 63 = a at *
  clear hb
  go_enter Tryd.func29, Tryd.ntmps29
  go_wp2_with fail
  go_ret
  exact ⟨rfl, rfl⟩
theorem gt_max (b : Nat) (hb : b < 2 ^ 64) : (FloatKind.f64.format.order b 9218868437227405311 == some .gt) = (decide (b / 2 ^ 63 = 0) && decide (b % 2 ^ 63 = 2047 * 2 ^ 52)) := by
  have := gt_is b 9218868437227405311 hb (by decide)
  refine Eq.trans this ?_
  have n1 : nanB 9218868437227405311 = false := by decide +kernel
  have r1 : (9218868437227405311 : Nat) % 2 ^ 63 = 2047 * 2 ^ 52 - 1 := by decide +kernel
  rw [n1]
  cases n0 : nanB b
  · have hk := num_lt_rk 9218868437227405311 b (by decide) hb n1 n0 (by rw [r1]; omega)
    rw [show (9218868437227405311 : Nat) = 2047 * 2 ^ 52 - 1 by decide +kernel] at *
    rw [Bool.and_assoc, Bool.not_false, Bool.true_and, Bool.true_and]
    have e1 : rk (2047 * 2 ^ 52 - 1) = 2 ^ 63 + 2047 * 2 ^ 52 := by decide +kernel
    rw [e1, rk_num n0] at hk
    simp only [nanB, decide_eq_false_iff_not] at n0
    rw [← Bool.decide_and]
    apply decide_eq_decide.2
    rw [hk]
    split <;> omega
  · simp only [nanB, decide_eq_true_eq] at n0
    simp only [Bool.not_true, Bool.false_and]
    symm
    rw [Bool.and_eq_false_iff]
    right
    exact decide_eq_false (by omega)
theorem isinf_any (b : Nat) (hb : b < 2 ^ 64) (w : World) :
    Calls Tryd.prog 11 #[.float .f64 b, .int .i64 0] w fun e w' => e = .returned (.bool (decide (b % 2 ^ 63 = 2047 * 2 ^ 52))) ∧ w = w' := by
  have h1 := fun w => abs_any b hb w
  have h2 := gt_max (b % 2 ^ 63) (by omega)
  rw [Nat.mod_mod, Nat.div_eq_of_lt (Nat.mod_lt _ (by decide)), decide_eq_true (rfl : (0 : Nat) = 0), Bool.true_and] at h2
  generalize b % 2 ^ 63 = a at *
  generalize decide (a = 2047 * 2 ^ 52) = r at *
  clear hb
  have H1 := Lib.hid h1
  clear h1
  go_enter Tryd.func11, Tryd.ntmps11
  go_wp2_with fail
  refine (H1.out _).mono ?_
  rintro e w' ⟨rfl, rfl⟩
  go_wp2_with fail
  go_ret
  exact ⟨rfl, rfl⟩
theorem isinf_pos (b : Nat) (hb : b < 2 ^ 64) (w : World) :
    Calls Tryd.prog 11 #[.float .f64 b, .int .i64 1] w fun e w' => e = .returned (.bool (decide (b = 2047 * 2 ^ 52))) ∧ w = w' := by
  have h2 := gt_max b hb
  rw [← Bool.decide_and] at h2
  rw [show decide (b / 2 ^ 63 = 0 ∧ b % 2 ^ 63 = 2047 * 2 ^ 52) = decide (b = 2047 * 2 ^ 52) from decide_eq_decide.2 (by omega)] at h2
  generalize decide (b = 2047 * 2 ^ 52) = r at *
  clear hb
  go_enter Tryd.func11, Tryd.ntmps11
  go_wp2_with fail
  go_ret
  exact ⟨rfl, rfl⟩
theorem inf_pos (w : World) :
    Calls Tryd.prog 14 #[.int .i64 1] w fun e w' => e = .returned (.float .f64 9218868437227405312) ∧ w = w' := by
  have h : ∀ w, (callFunc 27 #[.int .u64 9218868437227405312]).run Tryd.prog w = .ok (.value (.float .f64 9218868437227405312)) w := fun w => from_bits _ w
  go_enter Tryd.func14, Tryd.ntmps14
  go_wp2_with fail
  go_ret
  exact ⟨rfl, rfl⟩
theorem inf_neg (w : World) :
    Calls Tryd.prog 14 #[.int .i64 (-1)] w fun e w' => e = .returned (.float .f64 18442240474082181120) ∧ w = w' := by
  have h : ∀ w, (callFunc 27 #[.int .u64 18442240474082181120]).run Tryd.prog w = .ok (.value (.float .f64 18442240474082181120)) w := fun w => from_bits _ w
  go_enter Tryd.func14, Tryd.ntmps14
  go_wp2_with fail
  go_ret
  exact ⟨rfl, rfl⟩
theorem minus_is (w : World) :
    Calls Tryd.prog 10 #[] w fun e w' => e = .returned (.float .f64 9223372036854775808) ∧ w = w' := by
  have h1 : ∀ w, (callFunc 23 #[.float .f64 0]).run Tryd.prog w = .ok (.value (.int .u64 0)) w := fun w => bits_of 0 w
  have h2 : ∀ w, (callFunc 23 #[.float .f64 13830554455654793216]).run Tryd.prog w = .ok (.value (.int .u64 13830554455654793216)) w := fun w => bits_of _ w
  have h3 : ∀ w, (callFunc 27 #[.int .u64 9223372036854775808]).run Tryd.prog w = .ok (.value (.float .f64 9223372036854775808)) w := fun w => from_bits _ w
  have b1 : bits .andNot .u64 0 9223372036854775808 = 0 := by decide +kernel
  have b2 : bits .and .u64 13830554455654793216 9223372036854775808 = 9223372036854775808 := by decide +kernel
  have b3 : bits .or .u64 0 9223372036854775808 = 9223372036854775808 := by decide +kernel
  have hc : ∀ w, Calls Tryd.prog 28 #[.float .f64 0, .float .f64 13830554455654793216] w fun e w' => e = .returned (.float .f64 9223372036854775808) ∧ w = w' := by
    intro w
    go_enter Tryd.func28, Tryd.ntmps28
    go_wp2_with fail
    go_ret
    exact ⟨rfl, rfl⟩
  have HC := Lib.hid hc
  clear hc h1 h2 h3
  go_enter Tryd.func10, Tryd.ntmps10
  go_wp2_with fail
  refine (HC.out _).mono ?_
  rintro e w' ⟨rfl, rfl⟩
  go_wp2_with fail
  go_ret
  exact ⟨rfl, rfl⟩
theorem signbit_any (b : Nat) (hb : b < 2 ^ 64) (w : World) :
    Calls Tryd.prog 37 #[.float .f64 b] w fun e w' => e = .returned (.bool (decide (b / 2 ^ 63 = 1))) ∧ w = w' := by
  have h1 := bits_of b
  have hx : decide (wrap64 (b : Int) < 0) = decide (b / 2 ^ 63 = 1) := by
    apply decide_eq_decide.2
    unfold wrap64
    omega
  generalize decide (b / 2 ^ 63 = 1) = r at *
  clear hb
  go_enter Tryd.func37, Tryd.ntmps37
  go_wp2_with fail
  go_ret
  exact ⟨rfl, rfl⟩
theorem rank_any (b : Nat) (hb : b < 2 ^ 64) (w : World) :
    Calls Tryd.prog 30 #[.float .f64 b] w fun e w' => e = .returned (.int .i64 (if b / 2 ^ 63 = 1 then 0 else 1)) ∧ w = w' := by
  have h1 := fun w => signbit_any b hb w
  by_cases c : b / 2 ^ 63 = 1
  · rw [decide_eq_true c] at h1
    rw [if_pos c]
    have H1 := Lib.hid h1
    clear h1 hb c
    go_enter Tryd.func30, Tryd.ntmps30
    go_wp2_with fail
    refine (H1.out _).mono ?_
    rintro e w' ⟨rfl, rfl⟩
    go_wp2_with fail
    go_ret
    exact ⟨rfl, rfl⟩
  · rw [decide_eq_false c] at h1
    rw [if_neg c]
    have H1 := Lib.hid h1
    clear h1 hb c
    go_enter Tryd.func30, Tryd.ntmps30
    go_wp2_with fail
    refine (H1.out _).mono ?_
    rintro e w' ⟨rfl, rfl⟩
    go_wp2_with fail
    go_ret
    exact ⟨rfl, rfl⟩
theorem cmp_nan1 (a b : Nat) (ha : a < 2 ^ 64) (hb : b < 2 ^ 64) (na : nanB a = true) (w : World) :
    Calls Tryd.prog 31 #[.float .f64 a, .float .f64 b] w fun e w' => e = .returned (.int .i64 (cf a b)) ∧ w = w' := by
  have h1 := fun w => isNaN_any a ha w
  have h2 := fun w => isNaN_any b hb w
  rw [na] at h1
  have H1 := Lib.hid h1
  cases nb : nanB b
  · have hc : cf a b = -1 := by unfold cf; rw [rk_nan na, if_pos (rk_pos nb)]
    rw [nb] at h2
    have H2 := Lib.hid h2
    rw [hc]
    clear h1 h2 ha hb na nb hc
    go_enter Tryd.func31, Tryd.ntmps31
    go_wp2_with fail
    refine (H1.out _).mono ?_
    rintro e w' ⟨rfl, rfl⟩
    go_wp2_with fail
    refine (H2.out _).mono ?_
    rintro e w' ⟨rfl, rfl⟩
    go_wp2_with fail
    go_ret
    exact ⟨rfl, rfl⟩
  · have hc : cf a b = 0 := by unfold cf; rw [rk_nan na, rk_nan nb]; rfl
    rw [nb] at h2
    have H2 := Lib.hid h2
    rw [hc]
    clear h1 h2 ha hb na nb hc
    go_enter Tryd.func31, Tryd.ntmps31
    go_wp2_with fail
    refine (H1.out _).mono ?_
    rintro e w' ⟨rfl, rfl⟩
    go_wp2_with fail
    refine (H2.out _).mono ?_
    rintro e w' ⟨rfl, rfl⟩
    go_wp2_with fail
    go_ret
    exact ⟨rfl, rfl⟩
theorem cmp_nan2 (a b : Nat) (ha : a < 2 ^ 64) (hb : b < 2 ^ 64) (na : nanB a = false) (nb : nanB b = true) (w : World) :
    Calls Tryd.prog 31 #[.float .f64 a, .float .f64 b] w fun e w' => e = .returned (.int .i64 (cf a b)) ∧ w = w' := by
  have h1 := fun w => isNaN_any a ha w
  have h2 := fun w => isNaN_any b hb w
  rw [na] at h1
  have H1 := Lib.hid h1
  have hc : cf a b = 1 := by
    have := rk_pos na
    unfold cf; rw [rk_nan nb, if_neg (by omega), if_pos this]
  rw [nb] at h2
  have H2 := Lib.hid h2
  rw [hc]
  clear h1 h2 ha hb na nb hc
  go_enter Tryd.func31, Tryd.ntmps31
  go_wp2_with fail
  refine (H1.out _).mono ?_
  rintro e w' ⟨rfl, rfl⟩
  go_wp2_with fail
  refine (H2.out _).mono ?_
  rintro e w' ⟨rfl, rfl⟩
  go_wp2_with fail
  go_ret
  exact ⟨rfl, rfl⟩
theorem cmp_num (a b : Nat) (ha : a < 2 ^ 64) (hb : b < 2 ^ 64) (na : nanB a = false) (nb : nanB b = false) (hz : ¬ (a % 2 ^ 63 = 0 ∧ b % 2 ^ 63 = 0)) (w : World) :
    Calls Tryd.prog 31 #[.float .f64 a, .float .f64 b] w fun e w' => e = .returned (.int .i64 (cf a b)) ∧ w = w' := by
  have h1 := fun w => isNaN_any a ha w
  have h2 := fun w => isNaN_any b hb w
  rw [na] at h1
  rw [nb] at h2
  have l1 : (FloatKind.f64.format.order a b == some .lt) = decide (rk a < rk b) := by
    refine (lt_is a b ha hb).trans ?_
    rw [na, nb, Bool.not_false, Bool.true_and, Bool.true_and]
    exact decide_eq_decide.2 (num_lt_rk a b ha hb na nb hz)
  have l2 : (FloatKind.f64.format.order a b == some .gt) = decide (rk b < rk a) := by
    refine (gt_is a b ha hb).trans ?_
    rw [na, nb, Bool.not_false, Bool.true_and, Bool.true_and]
    exact decide_eq_decide.2 (num_lt_rk b a hb ha nb na (fun h => hz ⟨h.2, h.1⟩))
  have H1 := Lib.hid h1
  have H2 := Lib.hid h2
  clear h1 h2 ha hb na nb hz
  by_cases c1 : rk a < rk b
  · have hc : cf a b = -1 := by unfold cf; rw [if_pos c1]
    rw [hc]
    rw [decide_eq_true c1] at l1
    clear hc c1 l2
    go_enter Tryd.func31, Tryd.ntmps31
    go_wp2_with fail
    refine (H1.out _).mono ?_
    rintro e w' ⟨rfl, rfl⟩
    go_wp2_with fail
    refine (H2.out _).mono ?_
    rintro e w' ⟨rfl, rfl⟩
    go_wp2_with fail
    go_ret
    exact ⟨rfl, rfl⟩
  · rw [decide_eq_false c1] at l1
    by_cases c2 : rk b < rk a
    · have hc : cf a b = 1 := by unfold cf; rw [if_neg c1, if_pos c2]
      rw [hc]
      rw [decide_eq_true c2] at l2
      clear hc c1 c2
      go_enter Tryd.func31, Tryd.ntmps31
      go_wp2_with fail
      refine (H1.out _).mono ?_
      rintro e w' ⟨rfl, rfl⟩
      go_wp2_with fail
      refine (H2.out _).mono ?_
      rintro e w' ⟨rfl, rfl⟩
      go_wp2_with fail
      go_ret
      exact ⟨rfl, rfl⟩
    · have hc : cf a b = 0 := by unfold cf; rw [if_neg c1, if_neg c2]
      rw [hc]
      rw [decide_eq_false c2] at l2
      clear hc c1 c2
      go_enter Tryd.func31, Tryd.ntmps31
      go_wp2_with fail
      refine (H1.out _).mono ?_
      rintro e w' ⟨rfl, rfl⟩
      go_wp2_with fail
      refine (H2.out _).mono ?_
      rintro e w' ⟨rfl, rfl⟩
      go_wp2_with fail
      go_ret
      exact ⟨rfl, rfl⟩
/-- tally.Compare, of any two doubles -/
theorem compare_any (a b : Nat) (ha : a < 2 ^ 64) (hb : b < 2 ^ 64) (w : World) :
    Calls Tryd.prog 13 #[.float .f64 a, .float .f64 b] w fun e w' => e = .returned (.int .i64 (cf a b)) ∧ w = w' := by
  have e1 : (FloatKind.f64.format.order a 0 == some .eq) = decide (a % 2 ^ 63 = 0) := eq_zero a ha
  have e2 : (FloatKind.f64.format.order b 0 == some .eq) = decide (b % 2 ^ 63 = 0) := eq_zero b hb
  by_cases hz : a % 2 ^ 63 = 0 ∧ b % 2 ^ 63 = 0
  · obtain ⟨za, zb⟩ := hz
    rw [decide_eq_true za] at e1
    rw [decide_eq_true zb] at e2
    have na : nanB a = false := by unfold nanB; rw [za]; decide +kernel
    have nb : nanB b = false := by unfold nanB; rw [zb]; decide +kernel
    have hc : wrap64 ((if a / 2 ^ 63 = 1 then 0 else 1 : Int) - (if b / 2 ^ 63 = 1 then 0 else 1)) = cf a b := by
      unfold cf
      rw [rk_num na, rk_num nb, za, zb]
      unfold wrap64
      by_cases c : a / 2 ^ 63 = 1 <;> by_cases d : b / 2 ^ 63 = 1 <;> simp [c, d]
    have h1 := fun w => rank_any a ha w
    have h2 := fun w => rank_any b hb w
    rw [← hc]
    clear hc na nb za zb ha hb
    generalize (if a / 2 ^ 63 = 1 then 0 else 1 : Int) = ra at *
    generalize (if b / 2 ^ 63 = 1 then 0 else 1 : Int) = rb at *
    have H1 := Lib.hid h1
    have H2 := Lib.hid h2
    clear h1 h2
    go_enter Tryd.func13, Tryd.ntmps13
    go_wp2_with fail
    refine (H1.out _).mono ?_
    rintro e w' ⟨rfl, rfl⟩
    go_wp2_with fail
    refine (H2.out _).mono ?_
    rintro e w' ⟨rfl, rfl⟩
    go_wp2_with fail
    go_ret
    exact ⟨rfl, rfl⟩
  · have hcmp : ∀ w, Calls Tryd.prog 31 #[.float .f64 a, .float .f64 b] w fun e w' => e = .returned (.int .i64 (cf a b)) ∧ w = w' := by
      intro w
      cases na : nanB a
      · cases nb : nanB b
        · exact cmp_num a b ha hb na nb hz w
        · exact cmp_nan2 a b ha hb na nb w
      · exact cmp_nan1 a b ha hb na w
    have HC := Lib.hid hcmp
    clear hcmp
    by_cases za : a % 2 ^ 63 = 0
    · have zb : ¬ b % 2 ^ 63 = 0 := fun h => hz ⟨za, h⟩
      rw [decide_eq_true za] at e1
      rw [decide_eq_false zb] at e2
      generalize cf a b = r at *
      clear ha hb hz za zb
      go_enter Tryd.func13, Tryd.ntmps13
      go_wp2_with fail
      refine (HC.out _).mono ?_
      rintro e w' ⟨rfl, rfl⟩
      go_wp2_with fail
      go_ret
      exact ⟨rfl, rfl⟩
    · rw [decide_eq_false za] at e1
      generalize cf a b = r at *
      clear ha hb hz za e2
      go_enter Tryd.func13, Tryd.ntmps13
      go_wp2_with fail
      refine (HC.out _).mono ?_
      rintro e w' ⟨rfl, rfl⟩
      go_wp2_with fail
      go_ret
      exact ⟨rfl, rfl⟩
end Go.Proofs.YtkodhaapllmdhaaDoor
