/- NfaOwn: the law's walk. -/
import Derived.Test.YtlbaecjmfgahgaaDoorNfV
import Derived.Test.YtlbaecjmfgahgaaDoorPrC
namespace Go.Proofs.YtlbaecjmfgahgaaDoor
open Go.RowKit Sets Nf
namespace Nf
structure Tidy (m : Mc) : Prop where
  fo : m.fo.length ≤ 1000
  fi : m.fi.length ≤ 1000
  sp : m.sp.length = m.fo.length
  la : m.la.length = m.fo.length
  each : ∀ l ∈ m.fo, l.length ≤ 1000
theorem left_len (U : Nat) (l : List Int) : (leftL U l).length ≤ l.length := by
  unfold leftL
  rw [List.length_map]
  exact List.length_filter_le _ _
theorem trim_tidy {m : Mc} (hf : Fine m) (U : Nat) : Tidy (trimM m U) := by
  have hk : (kept U m.sp.length).length ≤ m.sp.length := by
    unfold kept
    refine Nat.le_trans (List.length_filter_le _ _) ?_
    rw [List.length_range]; exact Nat.le_refl _
  have h1 := hf.sp
  have h2 := hf.fi
  refine ⟨by unfold trimM; simp; omega, by unfold trimM; have := left_len U m.fi; simp; omega, by unfold trimM; simp, by unfold trimM; simp, ?_⟩
  intro l hl
  unfold trimM at hl
  obtain ⟨k, -, rfl⟩ := List.mem_map.1 hl
  refine Nat.le_trans (left_len U _) ?_
  rcases Nat.lt_or_ge k m.fo.length with h3 | h3
  · exact (hf.each _ (getD_mem h3)).1
  · rw [getD_ge h3]; exact Nat.zero_le _
theorem trim_some (x : Ma) (m : Mc) (w : World) (h : MAt w x m) (hf : Fine m) (hT : Tab w) :
    Calls Tryd.prog 8 #[.agg (mc x m)] w fun e w' => ∃ y t k, e = .returned (.tuple #[.agg (mc y t), .int .i64 k]) ∧ OwnM w.heap.size w' y t ∧ Tidy t ∧ Below w.heap.size w w' := by
  cases hr : rightM m with
  | true =>
    refine (trim_any x m w h hf ((right_iff m).1 hr) hT).mono ?_
    rintro e w' ⟨y, rfl, ho, hb⟩
    exact ⟨y, _, 0, rfl, ho, trim_tidy hf _, hb⟩
  | false =>
    refine (trim_wrong x m w h hf hr).mono ?_
    rintro e w' ⟨rfl, hb⟩
    refine ⟨⟨none, 0, none, 0, none, 0, none, 0⟩, ⟨[], [], [], [], false⟩, 1, rfl, ⟨World.ownsRow_nil _ _ _ _, World.ownsRow_nil _ _ _ _, ⟨[], rfl, World.ownsRow_nil _ _ _ _, fun i hi => ?_⟩, World.ownsRow_nil _ _ _ _⟩, ⟨Nat.zero_le _, Nat.zero_le _, rfl, rfl, fun l hl => ?_⟩, hb⟩
    · cases hi
    · cases hl
theorem same_self (m : Mc) : sameB m m = true := decide_eq_true ⟨rfl, rfl, rfl, rfl, rfl⟩
end Nf
end Go.Proofs.YtlbaecjmfgahgaaDoor
