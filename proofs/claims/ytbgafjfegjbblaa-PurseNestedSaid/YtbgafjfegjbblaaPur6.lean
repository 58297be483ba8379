/- Bound; awake. -/
import Derived.Test.YtbgafjfegjbblaaPur5
namespace Go.Proofs.Ytbgafjfegjbblaa
open Go.RowKit Dbl
/-- the double that Bound answers at k -/
def bw (k : Nat) : Nat := (1123 + 27 * k) * 2 ^ 52
/-- at which k -/
def bk (n : Int) : Nat := min n.toNat 7
theorem one_mul_bw : ∀ k, k < 8 → Ieee.double.mul 4607182418800017408 (bw k) = some (bw k) := by decide +kernel
theorem ldexp_at (z : Int) (k : Nat) (hk : k < 8) (hz : z = 100 + 27 * (k : Int)) (w : World) :
    Calls Try.prog 19 #[.float .f64 4607182418800017408, .int .i64 z] w fun r w' => r = .returned (.float .f64 (bw k)) ∧ w = w' := by
  have := ldexp_is (100 + 27 * k) (bw k) (by omega) (by unfold bw; omega) (one_mul_bw k hk) w
  rwa [show ((100 + 27 * k : Nat) : Int) = z by omega] at this
theorem bound_any (n : Int) (w : World) :
    Calls Try.prog 21 #[.int .i64 n] w fun r w' => r = .returned (.float .f64 (bw (bk n))) ∧ w = w' := by
  have hk8 : bk n < 8 := by unfold bk; omega
  have HK := Lib.hid hk8
  clear hk8
  rcases Int.lt_or_le n 0 with hn | hn
  · have hb : bk n = 0 := by unfold bk; omega
    rw [hb]
    clear HK hb
    go_enter Try.func21, Try.ntmps21
    go_wp2_with fail
    refine (ldexp_at _ 0 (by decide) (by omega) _).mono ?_
    rintro r w' ⟨rfl, rfl⟩
    go_wp2_with fail
    go_ret
    exact ⟨rfl, rfl⟩
  · rcases Int.lt_or_le 7 n with h7 | h7
    · have hb : bk n = 7 := by unfold bk; omega
      rw [hb]
      clear HK hb
      go_enter Try.func21, Try.ntmps21
      go_wp2_with fail
      refine (ldexp_at _ 7 (by decide) (by omega) _).mono ?_
      rintro r w' ⟨rfl, rfl⟩
      go_wp2_with fail
      go_ret
      exact ⟨rfl, rfl⟩
    · have hb' : (bk n : Int) = n := by unfold bk; omega
      have hb := Lib.hid hb'
      clear hb'
      generalize bk n = k at *
      go_enter Try.func21, Try.ntmps21
      go_wp2_with fail
      refine (ldexp_at _ k HK.out (by have := hb.out; omega) _).mono ?_
      rintro r w' ⟨rfl, rfl⟩
      go_wp2_with fail
      go_ret
      exact ⟨rfl, rfl⟩
theorem new_is (b : Nat) (w : World) :
    Calls Try.prog 9 #[.float .f64 b] w fun e w' => e = .returned (.pointer (some ⟨w.heap.size, 0, none⟩)) ∧ PurseAt w' w.heap.size b 0 ∧ Below w.heap.size w w' := by
  refine (new_any b w).mono ?_
  rintro e w' ⟨rfl, rfl⟩
  refine ⟨rfl, ?_, (Below.refl _ w).alloc (Nat.le_refl _) _⟩
  show (w.heap.push _)[w.heap.size]? = _
  simp
theorem spends_is (B b s : Nat) (n : Int) (t : Nat) (r : Bool) (w : World) (h : PurseAt w B b s) (hs : s ≤ M) (hn2 : n ≤ 9223372036854775807) (hr : decide (s ≤ cap b ∧ more s n ≤ cap b) = r) (ht : (if s ≤ cap b then more s n else s) = t) :
    Calls Try.prog 10 #[.pointer (some ⟨B, 0, none⟩), .int .i64 n] w fun e w' => e = .returned (.bool r) ∧ PurseAt w' B b t ∧ But B w w' := by
  subst hr ht; exact spends_any B b s n w h hs hn2
theorem over_is (B b s : Nat) (r : Bool) (w : World) (h : PurseAt w B b s) (hs : s ≤ M) (hr : (!decide (s ≤ cap b)) = r) :
    Calls Try.prog 17 #[.pointer (some ⟨B, 0, none⟩)] w fun e w' => e = .returned (.bool r) ∧ w = w' := by subst hr; exact over_any B b s w h hs
/-- awake of stage 4's checks -/
theorem awake_any (w : World) :
    Calls Try.prog 22 #[] w fun e w' => e = .returned (.bool true) ∧ Below w.heap.size w w' := by
  have e1 : (FloatKind.f64.format.order 0 0 == some .eq) = true := by decide +kernel
  have e2 : (FloatKind.f64.format.order (bw 1) (bw 1) == some .eq) = true := by decide +kernel
  have hk : bk 1 = 1 := by decide
  have HK := Lib.hid hk
  clear hk
  go_enter Try.func22, Try.ntmps22
  go_wp2_with fail
  refine (new_is _ _).mono ?_
  rintro e w0 ⟨rfl, hP, hB⟩
  go_wp2_with fail
  refine (spends_is _ _ 0 2 2 true _ hP (by decide) (by decide) (by decide +kernel) (by decide +kernel)).mono ?_
  rintro e w1 ⟨rfl, hP1, hB1⟩
  replace hB := hB1.below hB (Nat.le_refl _) hB.size
  clear hP hB1
  go_wp2_with fail
  refine (spends_is _ _ 2 1 3 false _ hP1 (by decide) (by decide) (by decide +kernel) (by decide +kernel)).mono ?_
  rintro e w2 ⟨rfl, hP, hB2⟩
  replace hB := hB2.below hB (Nat.le_refl _) hB.size
  clear hP1 hB2
  go_wp2_with fail
  refine (over_is _ _ 3 true _ hP (by decide) (by decide +kernel)).mono ?_
  rintro e w' ⟨rfl, rfl⟩
  go_wp2_with fail
  refine (spent_any _ _ 3 _ hP).mono ?_
  rintro e w' ⟨rfl, rfl⟩
  go_wp2_with fail
  refine (left_any _ _ 3 0 _ hP (by decide) ?_).mono ?_
  · unfold LeftIs; rw [if_neg (by decide +kernel)]
  rintro e w3 ⟨rfl, hB3⟩
  replace hB := hB.trans (hB3.mono hB.size)
  clear hP hB3
  go_wp2_with fail
  refine (bound_any 1 _).mono ?_
  rw [HK.out]
  rintro e w' ⟨rfl, rfl⟩
  go_wp2_with fail
  refine (ldexp_at 127 1 (by decide) (by decide) _).mono ?_
  rintro e w' ⟨rfl, rfl⟩
  go_wp2_with fail
  go_ret
  exact ⟨rfl, hB⟩
end Go.Proofs.Ytbgafjfegjbblaa
