/- Same. -/
import Derived.Test.YtkodhaapllmdhaaDoorTal4
namespace Go.Proofs.YtkodhaapllmdhaaDoor
open Go.RowKit Rk Go.Sort
set_option maxHeartbeats 1600000 in
theorem same_refl (t : Tl) (hf : t.fits) (w : World) :
    Calls Tryd.prog 17 #[t.val, t.val] w fun e w' => e = .returned (.bool true) ∧ Below w.heap.size w w' := by
  obtain ⟨f1, f2, f3⟩ := hf
  have c1 := fun w => compare_any t.least t.least f1 f1 w
  have c2 := fun w => compare_any t.greatest t.greatest f2 f2 w
  have c3 := fun w => compare_any t.mean t.mean f3 f3 w
  rw [cf_self] at c1 c2 c3
  have C1 := Lib.hid c1
  have C2 := Lib.hid c2
  have C3 := Lib.hid c3
  clear c1 c2 c3
  unfold Tl.val
  generalize t.many = m at *
  generalize t.odd = o at *
  generalize t.least = x at *
  generalize t.greatest = y at *
  generalize t.mean = z at *
  have hst : ∀ b a m w, Sem.run Tryd.prog (store a (.float .f64 b) m) w = stored Tryd.prog w a (.float .f64 b) m := fun b a m w => run_store Tryd.prog w a _ m rfl
  go_enter Tryd.func17, Tryd.ntmps17
  go_wp2_with fail
  refine (C1.out _).mono ?_
  rintro e w' ⟨rfl, rfl⟩
  go_wp2_with fail
  refine (C2.out _).mono ?_
  rintro e w' ⟨rfl, rfl⟩
  go_wp2_with fail
  refine (C3.out _).mono ?_
  rintro e w' ⟨rfl, rfl⟩
  go_wp2_with fail
  go_ret
  exact ⟨rfl, ((Below.refl _ w).alloc (Nat.le_refl _) _).alloc (by simp) _⟩
set_option maxHeartbeats 1600000 in
theorem same_many (t u : Tl) (h : t.many ≠ u.many) (w : World) :
    Calls Tryd.prog 17 #[t.val, u.val] w fun e w' => e = .returned (.bool false) ∧ Below w.heap.size w w' := by
  unfold Tl.val
  generalize t.many = m at *
  generalize u.many = m' at *
  have hd : ((m : Int) == (m' : Int)) = false := by rw [beq_eq_false_iff_ne]; omega
  clear h
  have hst : ∀ b a m w, Sem.run Tryd.prog (store a (.float .f64 b) m) w = stored Tryd.prog w a (.float .f64 b) m := fun b a m w => run_store Tryd.prog w a _ m rfl
  go_enter Tryd.func17, Tryd.ntmps17
  go_wp2_with fail
  go_ret
  exact ⟨rfl, ((Below.refl _ w).alloc (Nat.le_refl _) _).alloc (by simp) _⟩
end Go.Proofs.YtkodhaapllmdhaaDoor
