/- math: Abs, IsInf, IsNaN, Ldexp of 1; Bound. -/
import Derived.Test.YtbgafjfegjbblaaPur4
namespace Go.Proofs.Ytbgafjfegjbblaa
open Go.RowKit Dbl
theorem bits_of (b : Nat) (w : World) : (callFunc 36 #[.float .f64 b]).run Try.prog w = .ok (.value (.int .u64 (b : Int))) w := by
  rw [run_callFunc_extern Try.func36 (by kernel_rfl) (by kernel_rfl) (by kernel_rfl) (e := Extern.MathFloatBits.float64bits) (by kernel_rfl)]
  rfl
theorem from_bits (n : Nat) (w : World) : (callFunc 35 #[.int .u64 (n : Int)]).run Try.prog w = .ok (.value (.float .f64 n)) w := by
  rw [run_callFunc_extern Try.func35 (by kernel_rfl) (by kernel_rfl) (by kernel_rfl) (e := Extern.MathFloatBits.float64frombits) (by kernel_rfl)]
  rfl
theorem abs_is (b a : Nat) (hx : bits .andNot .u64 (b : Int) 9223372036854775808 = (a : Int)) (w : World) :
    Calls Try.prog 39 #[.float .f64 b] w fun e w' => e = .returned (.float .f64 a) ∧ w = w' := by
  have h1 := bits_of b
  have h2 := from_bits a
  go_enter Try.func39, Try.ntmps39
  go_wp2_with fail
  go_ret
  exact ⟨rfl, rfl⟩
theorem isinf_is (b a : Nat) (r : Bool) (hx : bits .andNot .u64 (b : Int) 9223372036854775808 = (a : Int))
    (hr : (FloatKind.f64.format.order a 9218868437227405311 == some .gt) = r) (w : World) :
    Calls Try.prog 26 #[.float .f64 b, .int .i64 0] w fun e w' => e = .returned (.bool r) ∧ w = w' := by
  have HX := Lib.hid hx
  clear hx
  go_enter Try.func26, Try.ntmps26
  go_wp2_with fail
  refine (abs_is b a HX.out _).mono ?_
  rintro e w' ⟨rfl, rfl⟩
  go_wp2_with fail
  go_ret
  exact ⟨rfl, rfl⟩
theorem isnan_is (b : Nat) (r : Bool) (hr : (FloatKind.f64.format.order b b != some .eq) = r) (w : World) :
    Calls Try.prog 28 #[.float .f64 b] w fun e w' => e = .returned (.bool r) ∧ w = w' := by
  go_enter Try.func28, Try.ntmps28
  go_wp2_with fail
  go_ret
  exact ⟨rfl, rfl⟩
theorem norm_one (w : World) :
    Calls Try.prog 42 #[.float .f64 4607182418800017408] w fun e w' => e = .returned (.tuple #[.float .f64 4607182418800017408, .int .i64 0]) ∧ w = w' := by
  have h1 : (FloatKind.f64.format.order 4607182418800017408 4503599627370496 == some .lt) = false := by decide +kernel
  go_enter Try.func42, Try.ntmps42
  go_wp2_with fail
  refine (abs_is 4607182418800017408 4607182418800017408 (by decide +kernel) _).mono ?_
  rintro e w' ⟨rfl, rfl⟩
  go_wp2_with fail
  go_ret2
  exact ⟨rfl, rfl⟩
theorem pow_lt64 {e : Nat} (he : e ≤ 1000) : (1023 + e) * 2 ^ 52 < 2 ^ 64 := by omega
set_option maxHeartbeats 1600000 in
theorem ldexp_in (e : Nat) (he : e ≤ 1000) (hm : Ieee.double.mul 4607182418800017408 ((1023 + e) * 2 ^ 52) = some ((1023 + e) * 2 ^ 52)) (w : World) :
    Calls Try.prog 38 #[.float .f64 4607182418800017408, .int .i64 (e : Int)] w fun r w' => r = .returned (.float .f64 ((1023 + e) * 2 ^ 52)) ∧ w = w' := by
  have h1 : (FloatKind.f64.format.order 4607182418800017408 0 == some .eq) = false := by decide +kernel
  have h2 := fun w => isinf_is 4607182418800017408 4607182418800017408 false (by decide +kernel) (by decide +kernel) w
  have h3 := fun w => isnan_is 4607182418800017408 false (by decide +kernel) w
  have h4 := norm_one
  have h5 := bits_of 4607182418800017408
  have h6 := from_bits ((1023 + e) * 2 ^ 52)
  have h7 := fun w => run_float_arith (P := Try.prog) w .mul 24 .f64 4607182418800017408 ((1023 + e) * 2 ^ 52) _ hm
  have b1 : bits .and .i64 1023 2047 = 1023 := by decide +kernel
  have b2 : bits .andNot .u64 4607182418800017408 9218868437227405312 = 0 := by decide +kernel
  have w0 : wrap64 (1023 - 1023) = 0 := by decide +kernel
  have w0' : wrap64 0 = 0 := by decide +kernel
  have w1 : wrap64 (e : Int) = (e : Int) := by unfold wrap64; omega
  have w2 : wrap64 ((e : Int) + 1023) = (e : Int) + 1023 := by unfold wrap64; omega
  have w3 : IntKind.u64.wrap ((e : Int) + 1023) = (e : Int) + 1023 := by unfold IntKind.wrap; simp [IntKind.signed, IntKind.bits]; omega
  have d1 : decide ((e : Int) < -1075) = false := decide_eq_false (by omega)
  have d2 : decide ((1023 : Int) < (e : Int)) = false := by simp; omega
  have d3 : decide ((e : Int) < -1022) = false := decide_eq_false (by omega)
  have b3 : bits .or .u64 0 (((e : Int) + 1023) * 4503599627370496) = (((1023 + e) * 2 ^ 52 : Nat) : Int) := by
    rw [show (((e : Int) + 1023) * 4503599627370496) = (((1023 + e) * 2 ^ 52 : Nat) : Int) by omega]
    have := u64_or 0 (((1023 + e) * 2 ^ 52 : Nat) : Int) (by omega) (by omega) (by omega) (by omega)
    rw [this, Int.toNat_natCast]
    simp only [Int.toNat_zero, Nat.zero_or]
  clear hm
  generalize (1023 + e) * 2 ^ 52 = X at *
  go_enter Try.func38, Try.ntmps38
  go_wp2_with fail
  refine (h2 _).mono ?_
  rintro r w' ⟨rfl, rfl⟩
  go_wp2_with fail
  refine (h3 _).mono ?_
  rintro r w' ⟨rfl, rfl⟩
  go_wp2_with fail
  refine (h4 _).mono ?_
  rintro r w' ⟨rfl, rfl⟩
  clear h2 h3 h4
  go_wp2_with fail
  go_ret
  exact ⟨rfl, rfl⟩
theorem ldexp_is (e X : Nat) (he : e ≤ 1000) (hX : (1023 + e) * 2 ^ 52 = X) (hm : Ieee.double.mul 4607182418800017408 X = some X) (w : World) :
    Calls Try.prog 19 #[.float .f64 4607182418800017408, .int .i64 (e : Int)] w fun r w' => r = .returned (.float .f64 X) ∧ w = w' := by
  have h1 := ldexp_in e he (by rw [hX]; exact hm)
  rw [hX] at h1
  have H1 := Lib.hid h1
  clear hX hm he h1
  go_enter Try.func19, Try.ntmps19
  go_wp2_with fail
  refine (H1.out _).mono ?_
  rintro r w' ⟨rfl, rfl⟩
  go_wp2_with fail
  go_ret
  exact ⟨rfl, rfl⟩
end Go.Proofs.Ytbgafjfegjbblaa
