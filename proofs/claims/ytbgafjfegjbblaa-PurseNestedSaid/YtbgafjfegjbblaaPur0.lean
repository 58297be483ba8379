/- A purse in memory; affords, Over, Spent, New, Spend. -/
import Derived.Test.YtbgafjfegjbblaaKit
import Derived.Test.YtbgafjfegjbblaaDblL
import Derived.Test.YtbgafjfegjbblaaProg
import Derived.WalkKit
import Derived.WalkLawsBesides
import Derived.WalkSpells
import Derived.Lib.Hide
import Derived.Recover
namespace Go.Proofs.Ytbgafjfegjbblaa
open Go.RowKit Dbl
/-- a purse: its budget's bits, what was spent -/
def PurseAt (w : World) (B b s : Nat) : Prop := w.heap[B]? = some (.cells #[.float .f64 b, .int .u64 (s : Int)] 49 (0, 0))
theorem PurseAt.budget {w : World} {B b s : Nat} (h : PurseAt w B b s) : w.cell? ⟨B, 0, none⟩ = some (.float .f64 b) := by
  unfold PurseAt at h; simp [World.cell?, h]
theorem PurseAt.spent {w : World} {B b s : Nat} (h : PurseAt w B b s) : w.cell? ⟨B, 1, none⟩ = some (.int .u64 (s : Int)) := by
  unfold PurseAt at h; simp [World.cell?, h]
theorem PurseAt.frozen {w : World} {B b s : Nat} (h : PurseAt w B b s) (i : Nat) : w.frozen? ⟨B, i, none⟩ = false := by
  unfold PurseAt at h; simp [World.frozen?, h]
theorem PurseAt.lt {w : World} {B b s : Nat} (h : PurseAt w B b s) : B < w.heap.size := (Array.getElem?_eq_some_iff.1 h).1
theorem PurseAt.put {w : World} {B b s : Nat} (h : PurseAt w B b s) (s' : Nat) : PurseAt (w.setCell ⟨B, 1, none⟩ (.int .u64 (s' : Int))) B b s' := by
  unfold PurseAt at *
  simp [World.setCell, Array.getElem?_modify, h]
theorem PurseAt.kept {w w' : World} {B b s : Nat} (h : PurseAt w B b s) (hk : w'.heap[B]? = w.heap[B]?) : PurseAt w' B b s := hk.trans h
theorem affords_any (B b s n : Nat) (w : World) (h : PurseAt w B b s) (hn : n ≤ M) :
    Calls Try.prog 33 #[.pointer (some ⟨B, 0, none⟩), .int .u64 (n : Int)] w fun e w' => e = .returned (.bool (decide (n ≤ cap b))) ∧ w = w' := by
  have h0 := h.budget
  clear h
  by_cases hz : n = 0
  · subst hz
    go_enter Try.func33, Try.ntmps33
    go_wp2
    go_ret
    exact ⟨by simp, rfl⟩
  · have hne : ((n : Int) == 0) = false := by simp; omega
    by_cases h1 : (FloatKind.f64.format.order b 4895412794951729152 == some .gt || FloatKind.f64.format.order b 4895412794951729152 == some .eq) = true
    · have hc : cap b = M := cap_big (by have := h1; simp only [Bool.or_eq_true, beq_iff_eq] at this; exact this)
      go_enter Try.func33, Try.ntmps33
      go_wp2
      go_ret
      rw [hc]
      exact ⟨by simp [hn], rfl⟩
    · have h1' : (FloatKind.f64.format.order b 4895412794951729152 == some .gt || FloatKind.f64.format.order b 4895412794951729152 == some .eq) = false := by simpa using h1
      have h2' : FloatKind.f64.format.order b 4895412794951729152 ≠ some .gt ∧ FloatKind.f64.format.order b 4895412794951729152 ≠ some .eq := by simpa using h1
      clear h1
      by_cases h3 : (FloatKind.f64.format.order b 0 == some .gt) = true
      · obtain ⟨c1, c2⟩ := cap_mid h2'.1 h2'.2 (by have := h3; simp only [beq_iff_eq] at this; exact this)
        clear h2'
        have hv : floatToIntVal .f64 b .u64 = some (cap b : Int) := by
          unfold floatToIntVal
          have : (FloatKind.f64.decode b).toInt .zero = some (cap b : Int) := c1
          rw [this]
          have : IntKind.u64.min ≤ (cap b : Int) ∧ (cap b : Int) ≤ IntKind.u64.max := by
            simp only [IntKind.min, IntKind.max, IntKind.signed, IntKind.bits]
            unfold M at c2
            refine ⟨by simp, ?_⟩
            simp
            omega
          simp only [if_pos this]
        have hcv := fun w => run_convert_float_int (P := Try.prog) w 24 32 .f64 .u64 b _ (by kernel_rfl) Try.underlying32 hv
        clear c1 hv
        generalize cap b = C at *
        go_enter Try.func33, Try.ntmps33
        go_wp2
        go_ret
        exact ⟨by simp, rfl⟩
      · have h3' : (FloatKind.f64.format.order b 0 == some .gt) = false := by simpa using h3
        have hc : cap b = 0 := cap_none (by have := h3; simp only [beq_iff_eq] at this; exact this)
        clear h3 h2'
        go_enter Try.func33, Try.ntmps33
        go_wp2
        go_ret
        rw [hc]
        exact ⟨by simp [hz], rfl⟩
theorem over_any (B b s : Nat) (w : World) (h : PurseAt w B b s) (hs : s ≤ M) :
    Calls Try.prog 17 #[.pointer (some ⟨B, 0, none⟩)] w fun e w' => e = .returned (.bool (!decide (s ≤ cap b))) ∧ w = w' := by
  have h1 := h.spent
  go_enter Try.func17, Try.ntmps17
  go_wp2_with (go_at_call 33; refine (affords_any B b s s _ h hs).mono ?_; rintro e w' ⟨rfl, rfl⟩)
  go_ret
  exact ⟨rfl, rfl⟩
theorem over_nil (w : World) :
    Calls Try.prog 17 #[.pointer none] w fun e w' => e = .returned (.bool false) ∧ w = w' := by
  go_enter Try.func17, Try.ntmps17
  go_wp2
  go_ret
  exact ⟨rfl, rfl⟩
theorem spent_any (B b s : Nat) (w : World) (h : PurseAt w B b s) :
    Calls Try.prog 18 #[.pointer (some ⟨B, 0, none⟩)] w fun e w' => e = .returned (.int .u64 (s : Int)) ∧ w = w' := by
  have h1 := h.spent
  go_enter Try.func18, Try.ntmps18
  go_wp2
  go_ret
  exact ⟨rfl, rfl⟩
theorem spent_nil (w : World) :
    Calls Try.prog 18 #[.pointer none] w fun e w' => e = .returned (.int .u64 0) ∧ w = w' := by
  go_enter Try.func18, Try.ntmps18
  go_wp2
  go_ret
  exact ⟨rfl, rfl⟩
theorem new_any (b : Nat) (w : World) :
    Calls Try.prog 9 #[.float .f64 b] w fun e w' => e = .returned (.pointer (some ⟨w.heap.size, 0, none⟩)) ∧ w' = w.alloc (.cells #[.float .f64 b, .int .u64 0] 49) := by
  go_enter Try.func9, Try.ntmps9
  go_wp2
  go_ret
  exact ⟨rfl, rfl⟩
end Go.Proofs.Ytbgafjfegjbblaa
