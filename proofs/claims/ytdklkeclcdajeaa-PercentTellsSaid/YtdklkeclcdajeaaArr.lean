/- The 256 answers of a question asked of bytes, as an array's cells. -/
import Derived.Test.YtdklkeclcdajeaaOct0
namespace Go.Proofs.Ytdklkeclcdajeaa
open Go.RowKit Sets
/-- The 256 answers of p, as an array's cells. -/
def arr (p : Nat → Bool) : Array Value := ((List.range 256).map fun c => Value.bool (p c)).toArray
theorem arr_size (p : Nat → Bool) : (arr p).size = 256 := by simp [arr]
theorem arr_get (p : Nat → Bool) (c : Nat) (h : c < 256) : (arr p)[c]? = some (.bool (p c)) := by simp [arr, h]
theorem arr_congr (p q : Nat → Bool) (h : ∀ c, c < 256 → p c = q c) : arr p = arr q := by
  unfold arr
  congr 1
  apply List.map_congr_left
  intro c hc
  rw [h c (by simpa using hc)]
theorem arr_set (p : Nat → Bool) (c : Nat) (b : Bool) : (arr p).setIfInBounds c (.bool b) = arr (fun d => if d = c then b else p d) := by
  apply Array.ext
  · simp [arr]
  · intro i h1 h2
    simp [arr] at h2
    simp only [arr, List.getElem_toArray, List.getElem_map, List.getElem_range]
    by_cases hi : c = i
    · subst hi; simp
    · have : ¬ i = c := fun e => hi e.symm
      simp [hi, this]
theorem arr_one (p : Nat → Bool) : (arr p).all (·.oneCell') = true := by
  rw [Array.all_eq_true_iff_forall_mem]
  intro v hv
  simp [arr] at hv
  obtain ⟨c, -, rfl⟩ := hv
  rfl
attribute [irreducible] arr
end Go.Proofs.Ytdklkeclcdajeaa
