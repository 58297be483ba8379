/- classes.Part.Right. -/
import Derived.Test.YtdhnaldjofpeeaaDoorCls0
import Derived.Test.YtdhnaldjofpeeaaDoorFam
namespace Go.Proofs.YtdhnaldjofpeeaaDoor
open Go.RowKit Sets Cls
def rightB (of : Nat → Nat) (n : Int) : Bool := match rgo of 256 with | none => false | some k => (k : Int) == n
theorem rgo_none (of : Nat → Nat) : ∀ c d, c ≤ d → rgo of c = none → rgo of d = none
  | c, 0, h, g => by have : c = 0 := by omega
                     subst this; exact g
  | c, d + 1, h, g => by
    rcases Nat.lt_or_eq_of_le h with hl | rfl
    · simp only [rgo, rgo_none of c d (by omega) g]
    · exact g
theorem rgo_le (of : Nat → Nat) : ∀ c k, rgo of c = some k → k ≤ c
  | 0, k, h => by simp [rgo] at h; omega
  | c + 1, k, h => by
    simp only [rgo] at h
    cases hq : rgo of c with
    | none => rw [hq] at h; cases h
    | some m =>
      have := rgo_le of c m hq
      rw [hq] at h
      simp only at h
      split at h
      · cases h
      · split at h <;> (injection h with h; omega)
set_option maxHeartbeats 800000 in
set_option maxRecDepth 100000 in
theorem right_any (of : Nat → Nat) (n : Int) (w : World) (hof : ∀ c, c < 256 → of c < 256) :
    Calls Tryd.prog 15 #[.agg (partC of n)] w fun e w' => e = .returned (.bool (rightB of n)) ∧ Below w.heap.size w w' := by
  have hP : PartAt (w.alloc (.cells (partC of n) 24)) w.heap.size of n := PartAt.new w of n
  have hB : Below w.heap.size w (w.alloc (.cells (partC of n) 24)) := (Below.refl _ _).alloc (Nat.le_refl _) _
  have hr := hP.range
  go_enter Tryd.func15, Tryd.ntmps15
  go_wp2_with ((refine wpList_load_mid rfl 22 (.tmp 6) rfl w.heap.size 0 rfl (ofL of) _ hr Tryd.underlying22 rfl (sizeO of) ?_))
  generalize w.alloc (.cells (partC of n) 24) = W at *
  have hcN := hP.cellN
  go_loop [3, 8] (fun m i => ∃ c k : Nat, c ≤ 256 ∧ i = .int .i64 c ∧ m = .int .i64 k ∧ Hid (rgo of c = some k)) (fun _ i => 256 - (intOf i).toNat)
  case atStart => exact ⟨0, 0, by omega, rfl, rfl, Lib.hid rfl⟩
  case round =>
    obtain ⟨c, k, hc, rfl, rfl, HK⟩ := hrel
    have hkc := rgo_le of c k HK.out
    by_cases hlt : c < 256
    · have hx := index_of of c hlt
      have ho := hof c hlt
      have hdk : decide ((c : Int) < 256) = true := decide_eq_true (by omega)
      have HN : Hid (rgo of (c + 1) = if k < of c then none else if of c = k then some (k + 1) else some k) := Lib.hid (by simp only [rgo, HK.out])
      by_cases h1 : k < of c
      · have HR : Hid (rightB of n = false) := Lib.hid (by
          have e := HN.out; rw [if_pos h1] at e
          unfold rightB; rw [rgo_none of (c + 1) 256 (by omega) e])
        go_wp2
        go_ret
        rw [HR.out]
        exact ⟨rfl, hB⟩
      · by_cases h2 : of c = k
        · have hb1 : ((of c : Int) == (k : Int)) = true := beq_iff_eq.2 (by omega)
          have HR : Hid (rgo of (c + 1) = some (k + 1)) := Lib.hid (by rw [HN.out, if_neg h1, if_pos h2])
          have H2 := Lib.hid h2
          clear h2
          go_wp2
          go_round
          case rel => exact ⟨c + 1, k + 1, by omega, by go_num, by go_num, HR⟩
          case measure => simp [intOf]; omega
        · have hb1 : ((of c : Int) == (k : Int)) = false := beq_eq_false_iff_ne.2 (by omega)
          have HR : Hid (rgo of (c + 1) = some k) := Lib.hid (by rw [HN.out, if_neg h1, if_neg h2])
          go_wp2
          go_round
          case rel => exact ⟨c + 1, k, by omega, by go_num, rfl, HR⟩
          case measure => simp [intOf]; omega
    · have hc' : c = 256 := by omega
      subst hc'
      have HR : Hid (rightB of n = ((k : Int) == n)) := Lib.hid (by unfold rightB; rw [HK.out])
      go_wp2
      go_ret
      rw [HR.out]
      exact ⟨rfl, hB⟩
end Go.Proofs.YtdhnaldjofpeeaaDoor
