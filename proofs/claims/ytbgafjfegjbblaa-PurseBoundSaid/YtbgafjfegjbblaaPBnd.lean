/- ref's Bound, and PurseBound. -/
import Derived.Test.YtbgafjfegjbblaaPur6
namespace Go.Proofs.Ytbgafjfegjbblaa
open Go.RowKit Dbl
/-- the double that is 2 ^ i -/
def pw (i : Nat) : Nat := (1023 + i) * 2 ^ 52
theorem pw_mul : ∀ i, i < 300 → Ieee.double.mul (pw i) 4611686018427387904 = some (pw (i + 1)) := by decide +kernel
theorem pw_zero : pw 0 = 4607182418800017408 := by decide
theorem pw_bw (k : Nat) : pw (100 + 27 * k) = bw k := by unfold pw bw; omega
set_option maxHeartbeats 800000 in
theorem ref_bound (n : Int) (w : World) :
    Calls Try.prog 25 #[.int .i64 n] w fun r w' => r = .returned (.float .f64 (bw (bk n))) ∧ w = w' := by
  have hmul : ∀ i (w : World), i < 300 → (binOp .mul 24 (.float .f64 (pw i)) (.float .f64 4611686018427387904)).run Try.prog w = .ok (.float .f64 (pw (i + 1))) w :=
    fun i w hi => run_float_arith (P := Try.prog) w .mul 24 .f64 _ _ _ (pw_mul i hi)
  have HMUL := Lib.hid hmul
  clear hmul
  go_enter Try.func25, Try.ntmps25
  go_wp2
  go_loop [3, 4] (fun b i => ∃ k : Nat, k ≤ 100 ∧ i = .int .i64 k ∧ b = .float .f64 (pw k)) (fun _ i => 100 - (intOf i).toNat)
  case atStart => exact ⟨0, by omega, rfl, by rw [pw_zero]⟩
  case round =>
    obtain ⟨k, hk, rfl, rfl⟩ := hrel
    by_cases hlt : k < 100
    · have hm := fun w => HMUL.out k w (by omega)
      have hdk : decide ((k : Int) < 100) = true := decide_eq_true (by omega)
      go_wp2
      go_round
      case rel => exact ⟨k + 1, by omega, by go_num, rfl⟩
      case measure => simp [intOf]; omega
    · have hc' : k = 100 := by omega
      subst hc'
      go_wp2
      go_loop [3, 5] (fun b i => ∃ k : Nat, k ≤ bk n ∧ i = .int .i64 k ∧ b = .float .f64 (pw (100 + 27 * k))) (fun _ i => 7 - (intOf i).toNat)
      case atStart => exact ⟨0, Nat.zero_le _, rfl, rfl⟩
      case round =>
        obtain ⟨k, hk2, rfl, rfl⟩ := hrel
        have hb7 : bk n ≤ 7 := Nat.min_le_right _ _
        by_cases hlt2 : k < bk n
        · have d1 : decide ((k : Int) < 7) = true := decide_eq_true (by omega)
          have d2 : decide ((k : Int) < n) = true := decide_eq_true (by unfold bk at hlt2; omega)
          have hk7 : k < 7 := by omega
          have HL := Lib.hid hlt2
          clear hlt2 hk2 hb7
          go_wp2
          go_loop [3, 6] (fun b i => ∃ j : Nat, j ≤ 27 ∧ i = .int .i64 j ∧ b = .float .f64 (pw (100 + 27 * k + j))) (fun _ i => 27 - (intOf i).toNat)
          case atStart => exact ⟨0, by omega, rfl, rfl⟩
          case round =>
            obtain ⟨j, hj, rfl, rfl⟩ := hrel
            by_cases hlt3 : j < 27
            · have hm := fun w => HMUL.out (100 + 27 * k + j) w (by omega)
              have hdk : decide ((j : Int) < 27) = true := decide_eq_true (by omega)
              go_wp2
              go_round
              case rel => exact ⟨j + 1, by omega, by go_num, rfl⟩
              case measure => simp [intOf]; omega
            · have hc' : j = 27 := by omega
              subst hc'
              go_wp2
              go_round
              case rel => exact ⟨k + 1, HL.out, by go_num, by rw [show 100 + 27 * k + 27 = 100 + 27 * (k + 1) by omega]⟩
              case measure => simp [intOf]; omega
        · have hkb : k = bk n := by omega
          have HK := Lib.hid hkb
          rcases Int.lt_or_le (k : Int) 7 with h7 | h7
          · have d1 : decide ((k : Int) < 7) = true := decide_eq_true h7
            have d2 : decide ((k : Int) < n) = false := decide_eq_false (by unfold bk at hkb; omega)
            clear hkb hlt2 hk2 hb7
            go_wp2
            go_ret
            exact ⟨by rw [← HK.out, ← pw_bw k]; rfl, rfl⟩
          · have d1 : decide ((k : Int) < 7) = false := decide_eq_false (by omega)
            clear hkb hlt2 hk2 hb7
            go_wp2
            go_ret
            exact ⟨by rw [← HK.out, ← pw_bw k]; rfl, rfl⟩
theorem bw_eq : ∀ k, k < 8 → Ieee.double.order (bw k) (bw k) = some .eq := by decide +kernel
theorem bw_le : ∀ i, i < 8 → ∀ j, j < 8 → i ≤ j → (Ieee.double.order (bw i) (bw j) == some .lt || Ieee.double.order (bw i) (bw j) == some .eq) = true := by decide +kernel
theorem bw_99 : ∀ k, k < 8 → Ieee.double.order (bw k) 5053038781909696512 = some .gt := by decide +kernel
theorem bw_inf : ∀ k, k < 8 → bits .andNot .u64 (bw k : Int) 9223372036854775808 = (bw k : Int) ∧ (Ieee.double.order (bw k) 9218868437227405311 == some .gt) = false := by decide +kernel
theorem ldexp_99 (w : World) :
    Calls Try.prog 19 #[.float .f64 4607182418800017408, .int .i64 99] w fun r w' => r = .returned (.float .f64 5053038781909696512) ∧ w = w' :=
  ldexp_is 99 5053038781909696512 (by decide) (by decide) (by decide +kernel) w
theorem pbound_any (a b : Int) (w : World) :
    Calls Try.prog 5 #[.int .i64 a, .int .i64 b] w fun r w' => r = .returned (.bool true) ∧ Below w.heap.size w w' := by
  have ha : bk a < 8 := Nat.lt_of_le_of_lt (Nat.min_le_right _ _) (by decide)
  have hb : bk b < 8 := Nat.lt_of_le_of_lt (Nat.min_le_right _ _) (by decide)
  have e1 : (FloatKind.f64.format.order (bw (bk a)) (bw (bk a)) == some .eq) = true := by have := bw_eq _ ha; exact beq_iff_eq.2 this
  have e2 : (FloatKind.f64.format.order (bw (bk b)) (bw (bk b)) == some .eq) = true := by have := bw_eq _ hb; exact beq_iff_eq.2 this
  have e3 : decide (b < a) = false → (FloatKind.f64.format.order (bw (bk a)) (bw (bk b)) == some .lt || FloatKind.f64.format.order (bw (bk a)) (bw (bk b)) == some .eq) = true := fun h =>
    bw_le _ ha _ hb (by have := of_decide_eq_false h; unfold bk; omega)
  have e4 : (FloatKind.f64.format.order (bw (bk a)) 5053038781909696512 == some .gt) = true := by have := bw_99 _ ha; exact beq_iff_eq.2 this
  have e5 := fun w => isinf_is (bw (bk a)) (bw (bk a)) false (bw_inf _ ha).1 (bw_inf _ ha).2 w
  have BA := bound_any a
  have BB := bound_any b
  have RA := ref_bound a
  have RB := ref_bound b
  clear ha hb
  generalize bw (bk a) = A at *
  generalize bw (bk b) = B at *
  have HE := Lib.hid e3
  clear e3
  go_enter Try.func5, Try.ntmps5
  go_wp2_with fail
  refine (BA _).mono ?_
  rintro e w' ⟨rfl, rfl⟩
  go_wp2_with fail
  refine (BB _).mono ?_
  rintro e w' ⟨rfl, rfl⟩
  go_wp2_with fail
  refine (RA _).mono ?_
  rintro e w' ⟨rfl, rfl⟩
  go_wp2_with fail
  refine (RB _).mono ?_
  rintro e w' ⟨rfl, rfl⟩
  clear BA BB RA RB
  by_cases hab : decide (b < a) = true
  · go_wp2_with fail
    refine (ldexp_99 _).mono ?_
    rintro e w' ⟨rfl, rfl⟩
    go_wp2_with fail
    refine (e5 _).mono ?_
    rintro e w' ⟨rfl, rfl⟩
    clear e5
    go_wp2_with fail
    refine (awake_any _).mono ?_
    rintro e w' ⟨rfl, hB⟩
    go_wp2_with fail
    go_ret
    exact ⟨rfl, hB⟩
  · have hab' : decide (b < a) = false := by simpa using hab
    have e3 := HE.out hab'
    clear hab
    go_wp2_with fail
    refine (ldexp_99 _).mono ?_
    rintro e w' ⟨rfl, rfl⟩
    go_wp2_with fail
    refine (e5 _).mono ?_
    rintro e w' ⟨rfl, rfl⟩
    clear e5
    go_wp2_with fail
    refine (awake_any _).mono ?_
    rintro e w' ⟨rfl, hB⟩
    go_wp2_with fail
    go_ret
    exact ⟨rfl, hB⟩
end Go.Proofs.Ytbgafjfegjbblaa
