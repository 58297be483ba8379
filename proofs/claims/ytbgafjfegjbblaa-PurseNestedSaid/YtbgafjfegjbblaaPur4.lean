/- Floor, and what is left. -/
import Derived.Test.YtbgafjfegjbblaaPur3
import Derived.Test.YtbgafjfegjbblaaFam
namespace Go.Proofs.Ytbgafjfegjbblaa
open Go.RowKit Dbl
theorem one_float (b : Nat) (h1 : Nat → Sem Value) (h2 : Array Value → Sem Value) : Extern.MathFloor.toIntegral.match_2 (fun _ => Sem Value) #[.float .f64 b] h1 h2 = h1 b := rfl
theorem arch_floor (b : Nat) (hb : (Ieee.double.read b).isNaN = false) (w : World) : (callFunc 40 #[.float .f64 b]).run Try.prog w = .ok (.value (.float .f64 (fl b))) w := by
  rw [run_callFunc_extern Try.func40 (by kernel_rfl) (by kernel_rfl) (by kernel_rfl) (e := Extern.MathFloor.toIntegral "math.archFloor" .down) (by kernel_rfl)]
  have : (Extern.MathFloor.toIntegral "math.archFloor" .down #[.float .f64 b]).run Try.prog w = .ok (.float .f64 (fl b)) w := by
    delta Extern.MathFloor.toIntegral
    rw [one_float]
    have hd : FloatKind.f64.decode b = Ieee.double.read b := rfl
    rw [hd]
    cases h : Ieee.double.read b with
    | nan s t => rw [h] at hb; simp [Ieee.Datum.isNaN] at hb
    | infinity s => simp only [fl, h]; rfl
    | number s m i => simp only [fl, h]; rfl
  rw [this]
  rfl
theorem floor_any (b : Nat) (hb : (Ieee.double.read b).isNaN = false) (w : World) :
    Calls Try.prog 29 #[.float .f64 b] w fun e w' => e = .returned (.float .f64 (fl b)) ∧ w = w' := by
  have hf := arch_floor b hb
  go_enter Try.func29, Try.ntmps29
  go_wp2_with fail
  refine bodyPost_ret (results_tmp rfl _ _ _) rfl ?_
  exact ⟨rfl, rfl⟩
theorem floatOfNat (s : Nat) : floatOfInt .f64 (s : Int) = Ieee.double.nearest false s 0 := by
  show Ieee.double.write (.number (decide ((s : Int) < 0)) (s : Int).natAbs 0) = _
  rw [decide_eq_false (by omega), Int.natAbs_natCast]
  rfl
theorem cap_real {b : Nat} (h : 1 ≤ cap b) : (Ieee.double.read b).isNaN = false := by
  rcases cap_pos h with h | ⟨m, i, h, -⟩ <;> rw [h] <;> rfl
set_option maxHeartbeats 800000 in
theorem left_any (B b s r : Nat) (w : World) (h : PurseAt w B b s) (hs : s ≤ M) (hr : LeftIs b s r) :
    Calls Try.prog 11 #[.pointer (some ⟨B, 0, none⟩)] w fun e w' => e = .returned (.float .f64 r) ∧ Below w.heap.size w w' := by
  have hO := over_any B b s w h hs
  have hA := affords_any B b s 1 w h (by decide)
  unfold LeftIs at hr
  by_cases hin : s ≤ cap b
  · rw [decide_eq_true hin] at hO
    by_cases h1 : 1 ≤ cap b
    · rw [if_pos ⟨hin, h1⟩] at hr
      rw [decide_eq_true h1] at hA
      have hreal := cap_real h1
      have hsub := fun w => run_float_arith (P := Try.prog) w .sub 24 .f64 (fl b) (Ieee.double.nearest false s 0) r hr
      have hcv := floatOfNat s
      have HP := Lib.hid h
      have hfl := fun w => floor_any b hreal w
      clear hin h1 hr h hs hreal
      generalize fl b = F at *
      generalize Ieee.double.nearest false s 0 = S at *
      go_enter Try.func11, Try.ntmps11
      go_wp2_with fail
      refine hO.mono ?_
      rintro e w' ⟨rfl, rfl⟩
      go_wp2_with fail
      refine hA.mono ?_
      rintro e w' ⟨rfl, rfl⟩
      clear hO hA
      have HFL := Lib.hid hfl
      clear hfl
      go_wp2_with fail
      refine region_fam (by kernel_rfl) (by kernel_rfl) ?_
      intro ι hι F' hF hX
      have kP := fun n => HP.out.kept ((hF n).block B HP.out.lt)
      have c0 := fun n => (kP n).budget
      have c1 := fun n => (kP n).spent
      clear kP
      repeat (go_big_quiet_step (first
        | (go_at_call 29; exact fam_call hF hX ((HFL.out _).mono fun _ _ ⟨he, hw⟩ => ⟨he, hw ▸ Below.refl _ _⟩))))
      refine wpQuiet_nil ?_
      rintro _ ⟨n, rfl⟩
      have HB := hF n
      clear c0 c1
      generalize F' n = W2 at *
      clear hF hX n F' hι
      go_wp2_with fail
      go_ret
      exact ⟨rfl, HB⟩
    · rw [if_neg (fun q => h1 q.2)] at hr
      subst hr
      rw [decide_eq_false h1] at hA
      clear hin h1 h hs
      go_enter Try.func11, Try.ntmps11
      go_wp2_with fail
      refine hO.mono ?_
      rintro e w' ⟨rfl, rfl⟩
      go_wp2_with fail
      refine hA.mono ?_
      rintro e w' ⟨rfl, rfl⟩
      go_wp2_with fail
      refine bodyPost_ret (results_tmp rfl _ _ _) rfl ?_
      exact ⟨rfl, .refl _ _⟩
  · rw [decide_eq_false hin] at hO
    rw [if_neg (fun q => hin q.1)] at hr
    subst hr
    clear hA hin h hs
    go_enter Try.func11, Try.ntmps11
    go_wp2_with fail
    refine hO.mono ?_
    rintro e w' ⟨rfl, rfl⟩
    go_wp2_with fail
    refine bodyPost_ret (results_tmp rfl _ _ _) rfl ?_
    exact ⟨rfl, .refl _ _⟩
theorem left_nil (w : World) :
    Calls Try.prog 11 #[.pointer none] w fun e w' => e = .returned (.float .f64 0) ∧ w = w' := by
  go_enter Try.func11, Try.ntmps11
  go_wp2_with fail
  refine bodyPost_ret (results_tmp rfl _ _ _) rfl ?_
  exact ⟨rfl, rfl⟩
end Go.Proofs.Ytbgafjfegjbblaa
