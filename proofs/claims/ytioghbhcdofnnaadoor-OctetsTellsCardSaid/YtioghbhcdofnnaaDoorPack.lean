import Derived.Test.YtioghbhcdofnnaaDoorOct0
import Derived.Test.YtioghbhcdofnnaaDoorPackM
import Derived.WalkSpells
namespace Go.Proofs.YtioghbhcdofnnaaDoor
open Go.RowKit Sets
/-- The 256 answers of p, as an array's cells. -/
def arr (p : Nat → Bool) : Array Value := ((List.range 256).map fun c => Value.bool (p c)).toArray
theorem arr_size (p : Nat → Bool) : (arr p).size = 256 := by simp [arr]
theorem arr_get (p : Nat → Bool) (c : Nat) (h : c < 256) : (arr p)[c]? = some (.bool (p c)) := by simp [arr, h]
theorem arr_congr (p q : Nat → Bool) (h : ∀ c, c < 256 → p c = q c) : arr p = arr q := by
  unfold arr
  congr 1
  apply List.map_congr_left
  intro c hc
  rw [h c (by simpa using hc)]
theorem arr_set (p : Nat → Bool) (c : Nat) (b : Bool) : (arr p).setIfInBounds c (.bool b) = arr (fun d => if d = c then b else p d) := by
  apply Array.ext
  · simp [arr]
  · intro i h1 h2
    simp [arr] at h2
    simp only [arr, List.getElem_toArray, List.getElem_map, List.getElem_range]
    by_cases hi : c = i
    · subst hi; simp
    · have : ¬ i = c := fun e => hi e.symm
      simp [hi, this]
theorem arr_one (p : Nat → Bool) : (arr p).all (·.oneCell') = true := by
  rw [Array.all_eq_true_iff_forall_mem]
  intro v hv
  simp [arr] at hv
  obtain ⟨c, -, rfl⟩ := hv
  rfl
attribute [irreducible] arr
theorem wrap_two (S c q : Nat) (h : c / 64 = q) (hb : S.testBit c = false) : IntKind.u64.wrap (2 * (st S (c + 1) q : Int)) = (st S c q : Int) := by
  have e := st_step S c q h
  have l := st_lt S c q
  rw [hb] at e
  simp at e
  rw [IntKind.wrap_u64]
  omega
theorem wrap_two_one (S c q : Nat) (h : c / 64 = q) (hb : S.testBit c = true) : IntKind.u64.wrap (IntKind.u64.wrap (2 * (st S (c + 1) q : Int)) + 1) = (st S c q : Int) := by
  have e := st_step S c q h
  have l := st_lt S c q
  rw [hb] at e
  simp at e
  rw [IntKind.wrap_u64, IntKind.wrap_u64]
  omega
set_option maxHeartbeats 800000 in
set_option maxRecDepth 100000 in
theorem pack_any (p : Nat → Bool) (w : World) :
    Calls Tryd.prog 19 #[.agg (arr p)] w fun e w' => e = .returned (.agg #[.int .u64 (wd (packN p) 0), .int .u64 (wd (packN p) 1), .int .u64 (wd (packN p) 2), .int .u64 (wd (packN p) 3)]) ∧ Below w.heap.size w w' := by
  obtain ⟨S, hS⟩ : ∃ S, S = packN p := ⟨_, rfl⟩
  have hbit : ∀ c, c < 256 → S.testBit c = p c := fun c hc => by rw [hS, testBit_packN]; simp [hc]
  have HB := Lib.hid hbit
  rw [← hS]
  have H0 := Lib.hid hS
  clear hbit hS
  go_enter Tryd.func19, Tryd.ntmps19
  go_wp2
  go_loopw [4] (fun i wr => ∃ m : Nat, i = .int .i64 ((m : Int) - 1) ∧ m ≤ 256 ∧ wr = ((w.alloc (.cells (arr p) 35)).alloc (.cells #[.int .u64 0, .int .u64 0, .int .u64 0, .int .u64 0] 23)).alloc (.cells #[.int .u64 (st S m 0), .int .u64 (st S m 1), .int .u64 (st S m 2), .int .u64 (st S m 3)] 23)) (fun i _ => (intOf i + 1).toNat)
  case atStart => exact ⟨256, rfl, Nat.le_refl _, by rw [st_start _ _ (by decide), st_start _ _ (by decide), st_start _ _ (by decide), st_start _ _ (by decide)]; rfl⟩
  case round =>
    obtain ⟨m, rfl, hm, rfl⟩ := hrel
    rcases Nat.eq_zero_or_pos m with rfl | hpos
    · rw [st_end, st_end, st_end, st_end]
      go_wp2
      refine bodyPost_ret (v := .agg #[.int .u64 (wd S 0), .int .u64 (wd S 1), .int .u64 (wd S 2), .int .u64 (wd S 3)]) (by simp [results, Tryd.results19, go_sem]) rfl ⟨rfl, ?_⟩
      repeat (first | refine Below.alloc ?_ (by simp <;> omega) _)
      exact Below.refl _ _
    · obtain ⟨c, rfl⟩ : ∃ c, m = c + 1 := ⟨m - 1, by omega⟩
      rw [show ((c + 1 : Nat) : Int) - 1 = (c : Int) from by omega]
      have harr := arr_get p c (by omega)
      have hb := HB.out c (by omega)
      have hq : (c : Int) / 64 = 0 ∨ (c : Int) / 64 = 1 ∨ (c : Int) / 64 = 2 ∨ (c : Int) / 64 = 3 := by omega
      rcases hq with hq | hq | hq | hq
      all_goals
        have hq2 : (c : Int).tdiv 64 = (c : Int) / 64 := Int.tdiv_eq_ediv_of_nonneg (by omega)
        rw [hq] at hq2
        have HQ := Lib.hid hq
        cases hp : p c
      all_goals
        rw [hp] at hb harr
        have HBc := Lib.hid hb
        clear hb
        go_wp2
        refine ⟨⟨c, rfl, by omega, ?_⟩, by simp [intOf] <;> omega⟩
        have hQ := HQ.out
        first
          | rw [wrap_two S c 0 (by omega) HBc.out, st_keep S c 1 (by omega), st_keep S c 2 (by omega), st_keep S c 3 (by omega)]
          | rw [wrap_two_one S c 0 (by omega) HBc.out, st_keep S c 1 (by omega), st_keep S c 2 (by omega), st_keep S c 3 (by omega)]
          | rw [wrap_two S c 1 (by omega) HBc.out, st_keep S c 0 (by omega), st_keep S c 2 (by omega), st_keep S c 3 (by omega)]
          | rw [wrap_two_one S c 1 (by omega) HBc.out, st_keep S c 0 (by omega), st_keep S c 2 (by omega), st_keep S c 3 (by omega)]
          | rw [wrap_two S c 2 (by omega) HBc.out, st_keep S c 0 (by omega), st_keep S c 1 (by omega), st_keep S c 3 (by omega)]
          | rw [wrap_two_one S c 2 (by omega) HBc.out, st_keep S c 0 (by omega), st_keep S c 1 (by omega), st_keep S c 3 (by omega)]
          | rw [wrap_two S c 3 (by omega) HBc.out, st_keep S c 0 (by omega), st_keep S c 1 (by omega), st_keep S c 2 (by omega)]
          | rw [wrap_two_one S c 3 (by omega) HBc.out, st_keep S c 0 (by omega), st_keep S c 1 (by omega), st_keep S c 2 (by omega)]
end Go.Proofs.YtioghbhcdofnnaaDoor
