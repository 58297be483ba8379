/- PurseKnown. -/
import Derived.Test.YtbgafjfegjbblaaPur6
namespace Go.Proofs.Ytbgafjfegjbblaa
open Go.RowKit Dbl
theorem nan_any (w : World) : Calls Try.prog 14 #[] w fun e w' => e = .returned (.float .f64 9221120237041090561) ∧ w = w' := by
  have h2 : ∀ w : World, (callFunc 35 #[.int .u64 9221120237041090561]).run Try.prog w = .ok (.value (.float .f64 9221120237041090561)) w := from_bits 9221120237041090561
  go_enter Try.func14, Try.ntmps14
  go_wp2_with fail
  go_ret
  exact ⟨rfl, rfl⟩
theorem negzero_any (w : World) : Calls Try.prog 15 #[.float .f64 0, .float .f64 13830554455654793216] w fun e w' => e = .returned (.float .f64 9223372036854775808) ∧ w = w' := by
  have h1 : ∀ w : World, (callFunc 36 #[.float .f64 0]).run Try.prog w = .ok (.value (.int .u64 0)) w := bits_of 0
  have h2 : ∀ w : World, (callFunc 36 #[.float .f64 13830554455654793216]).run Try.prog w = .ok (.value (.int .u64 13830554455654793216)) w := bits_of 13830554455654793216
  have h3 : ∀ w : World, (callFunc 35 #[.int .u64 9223372036854775808]).run Try.prog w = .ok (.value (.float .f64 9223372036854775808)) w := from_bits 9223372036854775808
  have b1 : bits .andNot .u64 0 9223372036854775808 = 0 := by decide +kernel
  have b2 : bits .and .u64 13830554455654793216 9223372036854775808 = 9223372036854775808 := by decide +kernel
  have b3 : bits .or .u64 0 9223372036854775808 = 9223372036854775808 := by decide +kernel
  go_enter Try.func15, Try.ntmps15
  go_wp2_with fail
  go_ret
  exact ⟨rfl, rfl⟩
theorem inf_pos (w : World) : Calls Try.prog 16 #[.int .i64 1] w fun e w' => e = .returned (.float .f64 9218868437227405312) ∧ w = w' := by
  have h2 : ∀ w : World, (callFunc 35 #[.int .u64 9218868437227405312]).run Try.prog w = .ok (.value (.float .f64 9218868437227405312)) w := from_bits 9218868437227405312
  go_enter Try.func16, Try.ntmps16
  go_wp2_with fail
  go_ret
  exact ⟨rfl, rfl⟩
theorem inf_neg (w : World) : Calls Try.prog 16 #[.int .i64 (-1)] w fun e w' => e = .returned (.float .f64 18442240474082181120) ∧ w = w' := by
  have h2 : ∀ w : World, (callFunc 35 #[.int .u64 18442240474082181120]).run Try.prog w = .ok (.value (.float .f64 18442240474082181120)) w := from_bits 18442240474082181120
  go_enter Try.func16, Try.ntmps16
  go_wp2_with fail
  go_ret
  exact ⟨rfl, rfl⟩
theorem Below.purse {A : Nat} {w w' : World} {B b s : Nat} (h : Below A w w') (hp : PurseAt w B b s) (hA : B < A) : PurseAt w' B b s := hp.kept (h.block B hA)
theorem bound_is (n : Int) (k : Nat) (h : bk n = k) (w : World) : Calls Try.prog 21 #[.int .i64 n] w fun r w' => r = .returned (.float .f64 (bw k)) ∧ w = w' := by subst h; exact bound_any n w
def six (i : Nat) : Nat := [9221120237041090561, 9223372036854775808, 0, 13830554455654793216, 18442240474082181120, 4607092346807469998].getD i 0
theorem six_cap : ∀ i, i < 6 → cap (six i) = 0 := by decide +kernel
set_option maxHeartbeats 1600000 in
set_option maxRecDepth 100000 in
theorem pknown_any (w : World) :
    Calls Try.prog 3 #[] w fun e w' => e = .returned (.bool true) ∧ Below w.heap.size w w' := by
  have hmf : ∀ (fn : Fn) (first cap : Array Value) (w : World), (Instr.makeFunc fn first cap).run Try.prog w = .ok (.func fn first cap) w := fun _ _ _ _ => rfl
  go_enter Try.func3, Try.ntmps3
  go_wp2_with fail
  refine (new_is _ _).mono ?_
  rintro e w0 ⟨rfl, hP, hB⟩
  go_wp2_with fail
  refine (spends_is _ _ 0 2 2 true _ hP (by decide) (by decide) (by decide +kernel) (by decide +kernel)).mono ?_
  rintro e w1 ⟨rfl, hP1, hB1⟩
  replace hB := hB1.below hB (Nat.le_refl _) hB.size
  clear hP hB1
  go_wp2_with fail
  refine (left_any _ _ 2 0 _ hP1 (by decide) ?_).mono ?_
  · unfold LeftIs; rw [if_pos (by decide +kernel)]; decide +kernel
  rintro e w2 ⟨rfl, hB2⟩
  replace hP1 := Below.purse hB2 hP1 hP1.lt
  replace hB := hB.trans (hB2.mono hB.size)
  clear hB2
  go_wp2_with fail
  refine (spends_is _ _ 2 1 3 false _ hP1 (by decide) (by decide) (by decide +kernel) (by decide +kernel)).mono ?_
  rintro e w3 ⟨rfl, hP, hB3⟩
  replace hB := hB3.below hB (Nat.le_refl _) hB.size
  clear hP1 hB3
  go_wp2_with fail
  have hC : (w3.alloc (.cells #[.bool false] 4)).cell? ⟨w3.heap.size, 0, none⟩ = some (.bool false) := by rw [World.cell?_alloc_at _ _ _ _ rfl]; rfl
  have hB4 := hB.alloc hB.size (.cells #[.bool false] 4)
  have hP4 := hP.kept (Below.heap_alloc w3 (.cells #[.bool false] 4) _ hP.lt)
  have hlt3 : w3.heap.size < (w3.alloc (.cells #[.bool false] 4)).heap.size := by simp
  generalize (w3.alloc (.cells #[.bool false] 4)) = w4 at *
  refine (run_over _ _ 3 _ _ _ _ hP4 (by decide) (by decide +kernel)).mono ?_
  rintro e w5 ⟨rfl, hw5⟩
  have hB5 : Below w4.heap.size w4 w5 := by rw [hw5]; exact (Below.refl _ _).alloc (Nat.le_refl _) _
  replace hC := (hB5.cell (p := ⟨w3.heap.size, 0, none⟩) hlt3).trans hC
  replace hlt3 := Nat.lt_of_lt_of_le hlt3 hB5.size
  replace hB := hB4.trans (hB5.mono hB4.size)
  clear hw5 hB5 hB4 hP4 hP
  generalize w3.heap.size = C at *
  clear w4 w3 w2 w1 w0
  go_wp2_with fail
  refine (nan_any _).mono ?_
  rintro e w' ⟨rfl, rfl⟩
  go_wp2_with fail
  refine (negzero_any _).mono ?_
  rintro e w' ⟨rfl, rfl⟩
  go_wp2_with fail
  refine (inf_neg _).mono ?_
  rintro e w' ⟨rfl, rfl⟩
  go_wp2_with fail
  have hcell : ∀ k, k < 6 → (w5.alloc (.cells #[.float .f64 9221120237041090561, .float .f64 9223372036854775808, .float .f64 0, .float .f64 13830554455654793216, .float .f64 18442240474082181120, .float .f64 4607092346807469998] 24)).cell? ⟨w5.heap.size, k, none⟩ = some (.float .f64 (six k)) := by
    intro k hk
    rw [World.cell?_alloc_at _ _ _ _ rfl]
    match k, hk with
    | 0, _ => rfl
    | 1, _ => rfl
    | 2, _ => rfl
    | 3, _ => rfl
    | 4, _ => rfl
    | 5, _ => rfl
  have hB6 := (Below.refl w5.heap.size w5).alloc (Nat.le_refl _) (.cells #[.float .f64 9221120237041090561, .float .f64 9223372036854775808, .float .f64 0, .float .f64 13830554455654793216, .float .f64 18442240474082181120, .float .f64 4607092346807469998] 24)
  have hlt5 : w5.heap.size < (w5.alloc (.cells #[.float .f64 9221120237041090561, .float .f64 9223372036854775808, .float .f64 0, .float .f64 13830554455654793216, .float .f64 18442240474082181120, .float .f64 4607092346807469998] 24)).heap.size := by simp
  generalize (w5.alloc (.cells #[.float .f64 9221120237041090561, .float .f64 9223372036854775808, .float .f64 0, .float .f64 13830554455654793216, .float .f64 18442240474082181120, .float .f64 4607092346807469998] 24)) = w6 at *
  replace hC := (hB6.cell (p := ⟨C, 0, none⟩) hlt3).trans hC
  replace hlt3 : C < w6.heap.size := Nat.lt_trans hlt3 hlt5
  replace hB := hB.trans (hB6.mono hB.size)
  clear hB6
  generalize w5.heap.size = g at *
  clear w5
  have HCELL := Lib.hid hcell
  have HC := Lib.hid hC
  have HB := Lib.hid hB
  have HL3 := Lib.hid hlt3
  clear hcell hC hB hlt3
  go_loopw [30] (fun i wr => ∃ k : Nat, k ≤ 6 ∧ i = .int .i64 k ∧ Below w6.heap.size w6 wr) (fun i _ => (6 - intOf i).toNat)
  case atStart => exact ⟨0, by omega, rfl, .refl _ _⟩
  case round =>
    obtain ⟨k, hk, rfl, hb⟩ := hrel
    by_cases hlt : k < 6
    · have hc := (hb.cell (p := ⟨g, k, none⟩) hlt5).trans (HCELL.out k hlt)
      have hcap := six_cap k hlt
      have hdk : decide ((k : Int) < 6) = true := decide_eq_true (by omega)
      have e0 : (FloatKind.f64.format.order 0 0 != some .eq) = false := by decide +kernel
      generalize six k = b at *
      have HCAP := Lib.hid hcap
      clear hcap
      go_wp2_with fail
      refine (new_is _ _).mono ?_
      rintro e v0 ⟨rfl, hP, hB⟩
      have hsz := hb.size
      replace hb := hb.trans (hB.mono hb.size)
      clear hB
      go_wp2_with fail
      refine (spends_is _ _ 0 0 0 true _ hP (by decide) (by decide) (by rw [HCAP.out]; decide) (by rw [HCAP.out]; decide)).mono ?_
      rintro e v1 ⟨rfl, hP1, hB1⟩
      replace hb := hB1.below hb hsz hb.size
      clear hP hB1
      go_wp2_with fail
      refine (spends_is _ _ 0 1 1 false _ hP1 (by decide) (by decide) (by rw [HCAP.out]; decide) (by rw [HCAP.out]; decide)).mono ?_
      rintro e v2 ⟨rfl, hP, hB2⟩
      replace hb := hB2.below hb hsz hb.size
      clear hP1 hB2
      go_wp2_with fail
      refine (left_any _ _ 1 0 _ hP (by decide) ?_).mono ?_
      · unfold LeftIs; rw [HCAP.out, if_neg (by decide)]
      rintro e v3 ⟨rfl, hB3⟩
      replace hP := Below.purse hB3 hP hP.lt
      replace hb := hb.trans (hB3.mono hb.size)
      clear hB3
      go_wp2_with fail
      refine (over_is _ _ 1 true _ hP (by decide) (by rw [HCAP.out]; decide)).mono ?_
      rintro e w' ⟨rfl, rfl⟩
      go_wp2_with fail
      refine (spent_any _ _ 1 _ hP).mono ?_
      rintro e w' ⟨rfl, rfl⟩
      go_wp2_with fail
      go_roundw
      case rel => exact ⟨k + 1, by omega, by go_num, hb⟩
      case measure => simp [intOf]; omega
    · have hc' : k = 6 := by omega
      subst hc'
      have hC := (hb.cell (p := ⟨C, 0, none⟩) HL3.out).trans HC.out
      have hlt3 := Nat.lt_of_lt_of_le HL3.out hb.size
      have hB := HB.out.trans (hb.mono HB.out.size)
      clear HCELL HC HB HL3 hb hlt5 hlt hk
      have e1 : (FloatKind.f64.format.order 9218868437227405312 9218868437227405312 == some .eq) = true := by decide +kernel
      have e2 : (FloatKind.f64.format.order 4922434392715952128 4922434392715952128 == some .eq) = true := by decide +kernel
      have e3 : (FloatKind.f64.format.order 0 0 == some .eq) = true := by decide +kernel
      go_wp2_with fail
      refine (inf_pos _).mono ?_
      rintro e w' ⟨rfl, rfl⟩
      go_wp2_with fail
      refine (new_is _ _).mono ?_
      rintro e v0 ⟨rfl, hI, hB0⟩
      replace hC := (hB0.cell (p := ⟨C, 0, none⟩) hlt3).trans hC
      have hCI := hlt3
      replace hlt3 := Nat.lt_of_lt_of_le hlt3 hB0.size
      have hwI := hB.size
      replace hB := hB.trans (hB0.mono hB.size)
      clear hB0
      generalize wr.heap.size = I at *
      go_wp2_with fail
      refine (ldexp_is 70 4922434392715952128 (by decide) (by decide) (by decide +kernel) _).mono ?_
      rintro e w' ⟨rfl, rfl⟩
      go_wp2_with fail
      refine (new_is _ _).mono ?_
      rintro e v1 ⟨rfl, hJ, hB1⟩
      replace hC := (hB1.cell (p := ⟨C, 0, none⟩) hlt3).trans hC
      have hIJ := hI.lt
      replace hI := Below.purse hB1 hI hI.lt
      replace hB := hB.trans (hB1.mono hB.size)
      clear hB1 hlt3
      generalize v0.heap.size = J at *
      go_wp2_with fail
      refine (spends_is _ _ 0 4611686018427387904 4611686018427387904 true _ hI (by decide) (by decide) (by decide +kernel) (by decide +kernel)).mono ?_
      rintro e v2 ⟨rfl, hI2, hB2⟩
      replace hC := hB2.cell hC (Nat.ne_of_lt hCI)
      replace hJ := hB2.purse hJ (Nat.ne_of_gt hIJ)
      replace hB := hB2.below hB hwI hB.size
      clear hI hB2
      go_wp2_with fail
      refine (spend_none _ 5 _ (.inl rfl)).mono ?_
      rintro e w' ⟨rfl, rfl⟩
      go_wp2_with fail
      refine (spends_nil 5 _).mono ?_
      rintro e v3 ⟨rfl, hB3⟩
      have hI := Below.purse hB3 hI2 hI2.lt
      replace hC := (hB3.cell (p := ⟨C, 0, none⟩) (World.block_lt_of_cell? _ _ hC)).trans hC
      replace hJ := Below.purse hB3 hJ hJ.lt
      replace hB := hB.trans (hB3.mono hB.size)
      clear hB3 hI2
      go_wp2_with fail
      refine (left_any _ _ 4611686018427387904 9218868437227405312 _ hI (by decide) ?_).mono ?_
      · unfold LeftIs; rw [if_pos (by decide +kernel)]; decide +kernel
      rintro e v4 ⟨rfl, hB4⟩
      replace hJ := Below.purse hB4 hJ hJ.lt
      replace hB := hB.trans (hB4.mono hB.size)
      clear hB4 hI hC
      go_wp2_with fail
      refine (inf_pos _).mono ?_
      rintro e w' ⟨rfl, rfl⟩
      go_wp2_with fail
      refine (left_any _ _ 0 4922434392715952128 _ hJ (by decide) ?_).mono ?_
      · unfold LeftIs; rw [if_pos (by decide +kernel)]; decide +kernel
      rintro e v5 ⟨rfl, hB5⟩
      replace hB := hB.trans (hB5.mono hB.size)
      clear hB5 hJ
      go_wp2_with fail
      refine (ldexp_is 70 4922434392715952128 (by decide) (by decide) (by decide +kernel) _).mono ?_
      rintro e w' ⟨rfl, rfl⟩
      go_wp2_with fail
      refine (spent_nil _).mono ?_
      rintro e w' ⟨rfl, rfl⟩
      go_wp2_with fail
      refine (left_nil _).mono ?_
      rintro e w' ⟨rfl, rfl⟩
      go_wp2_with fail
      refine (over_nil _).mono ?_
      rintro e w' ⟨rfl, rfl⟩
      have k0 : (FloatKind.f64.format.order (bw 0) (bw 0) == some .eq) = true := by decide +kernel
      have k7 : (FloatKind.f64.format.order (bw 7) (bw 7) == some .eq) = true := by decide +kernel
      clear e1 e2 e3
      go_wp2_with fail
      refine (bound_is 0 0 rfl _).mono ?_
      rintro e w' ⟨rfl, rfl⟩
      go_wp2_with fail
      refine (ldexp_at 100 0 (by decide) (by decide) _).mono ?_
      rintro e w' ⟨rfl, rfl⟩
      go_wp2_with fail
      refine (bound_is (-5) 0 rfl _).mono ?_
      rintro e w' ⟨rfl, rfl⟩
      go_wp2_with fail
      refine (ldexp_at 100 0 (by decide) (by decide) _).mono ?_
      rintro e w' ⟨rfl, rfl⟩
      go_wp2_with fail
      refine (bound_is 7 7 rfl _).mono ?_
      rintro e w' ⟨rfl, rfl⟩
      go_wp2_with fail
      refine (ldexp_at 289 7 (by decide) (by decide) _).mono ?_
      rintro e w' ⟨rfl, rfl⟩
      go_wp2_with fail
      refine (bound_is 8 7 rfl _).mono ?_
      rintro e w' ⟨rfl, rfl⟩
      go_wp2_with fail
      refine (ldexp_at 289 7 (by decide) (by decide) _).mono ?_
      rintro e w' ⟨rfl, rfl⟩
      go_wp2_with fail
      refine (awake_any _).mono ?_
      rintro e v6 ⟨rfl, hB6⟩
      replace hB := hB.trans (hB6.mono hB.size)
      clear hB6
      go_wp2_with fail
      go_ret
      exact ⟨rfl, hB⟩
end Go.Proofs.Ytbgafjfegjbblaa
