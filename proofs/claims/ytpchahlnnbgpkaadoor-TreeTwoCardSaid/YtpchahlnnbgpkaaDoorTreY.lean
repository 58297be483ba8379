/- awake, Great. -/
import Derived.Test.YtpchahlnnbgpkaaDoorTreV
namespace Go.Proofs.YtpchahlnnbgpkaaDoor
open Go.RowKit Sets Tr
theorem tab_lt {w : World} (h : Tab w) : 0 < w.heap.size := World.block_lt_of_cell? _ _ (h 0 (by decide))
theorem lit_some : strN (prOf someN someR) = ⟨#[97, 98, 124, 40, 41, 38, 33, 46, 42]⟩ := by rw [pr_some]; rfl
set_option maxHeartbeats 6400000 in
set_option maxRecDepth 100000 in
theorem awake_any (w : World) (hT : Tab w) : Calls Tryd.prog 12 #[] w fun e w' => e = .returned (.bool true) ∧ Below w.heap.size w w' := by
  have HT := Lib.hid hT
  clear hT
  go_enter Tryd.func12, Tryd.ntmps12
  go_wp2_with fail
  refine (some_any _).mono ?_
  rintro e w1 ⟨nv, pv, rfl, hN, hP, hB1⟩
  have HC := right_any nv pv someN someR w1 hN hP
  rw [rightB_true some_right] at HC
  have HC := Lib.hid HC
  have HB1 := Lib.hid hB1
  clear hN hP hB1
  go_wp2_with fail
  refine HC.out.mono ?_
  rintro e w2 ⟨rfl, hB2⟩
  have HB2 := Lib.hid (HB1.out.trans (hB2.mono HB1.out.size))
  clear hB2 HB1 HC
  go_wp2_with fail
  refine (some_any _).mono ?_
  rintro e w3 ⟨nv3, pv3, rfl, hN, hP, hB3⟩
  have HB3 := Lib.hid (HB2.out.trans (hB3.mono HB2.out.size))
  have HT3 := HT.out.below HB3.out (tab_lt HT.out)
  have HC := print_any nv3 pv3 someN someR w3 hN hP HT3 (tab_lt HT3)
  rw [lit_some] at HC
  have HC := Lib.hid HC
  clear hN hP hB3 HT3
  go_wp2_with fail
  refine HC.out.mono ?_
  rintro e w4 ⟨rfl, hB4⟩
  have HB4 := Lib.hid (HB3.out.trans (hB4.mono HB3.out.size))
  clear hB4 HB3 HC HB2
  go_wp2_with fail
  refine (some_any _).mono ?_
  rintro e w5 ⟨nv5, pv5, rfl, hN, hP, hB5⟩
  have HB5 := Lib.hid (HB4.out.trans (hB5.mono HB4.out.size))
  have HC := places_any nv5 pv5 someN someR w5 hN hP
  rw [pl_some] at HC
  have HC := Lib.hid HC
  clear hN hP hB5 HB4
  go_wp2_with fail
  refine HC.out.mono ?_
  rintro e w6 ⟨rfl, hB6⟩
  have HB6 := Lib.hid (HB5.out.trans (hB6.mono HB5.out.size))
  clear hB6 HB5 HC
  go_wp2_with fail
  refine (some_any _).mono ?_
  rintro e w7 ⟨nv7, pv7, rfl, hN, hP, hB7⟩
  have HB7 := Lib.hid (HB6.out.trans (hB7.mono HB6.out.size))
  have HC := depth_any nv7 pv7 someN someR w7 hN hP
  rw [dp_some] at HC
  have HC := Lib.hid HC
  clear hN hP hB7 HB6
  go_wp2_with fail
  refine HC.out.mono ?_
  rintro e w8 ⟨rfl, hB8⟩
  have HB8 := Lib.hid (HB7.out.trans (hB8.mono HB7.out.size))
  clear hB8 HB7 HC
  go_wp2_with fail
  go_ret
  exact ⟨rfl, HB8.out⟩
def greatB (n p : Nat) : Bool := decide (700 < n) || decide (30 < p)
set_option maxHeartbeats 1600000 in
set_option maxRecDepth 100000 in
theorem great_any (na pa : Option Addr) (n nc p pc : Nat) (w : World) : Calls Tryd.prog 13 #[.agg #[.slice na n nc, .slice pa p pc]] w fun e w' => e = .returned (.bool (greatB n p)) ∧ Below w.heap.size w w' := by
  have HB0 := Lib.hid ((Below.refl w.heap.size w).alloc (Nat.le_refl _) (.cells #[.slice na n nc, .slice pa p pc] 33))
  go_enter Tryd.func13, Tryd.ntmps13
  by_cases h1 : 700 < n
  · have d1 : decide ((700 : Int) < (n : Int)) = true := decide_eq_true (by omega)
    have e : greatB n p = true := by unfold greatB; rw [decide_eq_true h1]; rfl
    rw [e]
    clear e h1
    go_wp2_with fail
    go_ret
    exact ⟨rfl, HB0.out⟩
  · have d1 : decide ((700 : Int) < (n : Int)) = false := decide_eq_false (by omega)
    by_cases h2 : 30 < p
    · have d2 : decide ((30 : Int) < (p : Int)) = true := decide_eq_true (by omega)
      have e : greatB n p = true := by unfold greatB; rw [decide_eq_true h2, Bool.or_true]
      rw [e]
      clear e h1 h2
      go_wp2_with fail
      go_ret
      exact ⟨rfl, HB0.out⟩
    · have d2 : decide ((30 : Int) < (p : Int)) = false := decide_eq_false (by omega)
      have e : greatB n p = false := by unfold greatB; rw [decide_eq_false h1, decide_eq_false h2]; rfl
      rw [e]
      clear e h1 h2
      go_wp2_with fail
      go_ret
      exact ⟨rfl, HB0.out⟩
end Go.Proofs.YtpchahlnnbgpkaaDoor
