/- The contracts of octets.First. -/
import Derived.Test.YtkpdggemhjhnbaaDoorOct3
namespace Go.Proofs.YtkpdggemhjhnbaaDoor
open Go.RowKit Sets
theorem ret_first {a b : Int} (h : a = b) : Ending.returned (.tuple #[.int .u8 a, .bool true]) = .returned (.tuple #[.int .u8 b, .bool true]) := by rw [h]
set_option maxHeartbeats 400000 in
theorem first_some (S c : Nat) (w : World) (hc : c < 256) (h1 : S.testBit c = true) (h2 : ∀ d, d < c → S.testBit d = false) (hT : Tab w) (hg : 0 < w.heap.size) :
    Calls Tryd.prog 51 #[.agg #[.int .u64 (wd S 0), .int .u64 (wd S 1), .int .u64 (wd S 2), .int .u64 (wd S 3)]] w fun e w' =>
      e = .returned (.tuple #[.int .u8 c, .bool true]) ∧ Below w.heap.size w w' := by
  obtain ⟨hz, hn, he⟩ := first_word S c h1 h2
  have HT : Hid (Tab (w.alloc (.cells #[.int .u64 (wd S 0), .int .u64 (wd S 1), .int .u64 (wd S 2), .int .u64 (wd S 3)] 39))) := Lib.hid (hT.below ((Below.refl _ _).alloc (Nat.le_refl _) _) hg)
  have HE := Lib.hid he
  have HN := Lib.hid hn
  clear hT he h1 h2
  have hq : c / 64 = 0 ∨ c / 64 = 1 ∨ c / 64 = 2 ∨ c / 64 = 3 := by omega
  rcases hq with hq | hq | hq | hq
  all_goals
    rw [hq] at hz hn HE HN
    have hnb := ne_zero_b hn
    clear hq hn
    first
      | (have z2 := eq_zero_b (hz 2 (by decide)); have z1 := eq_zero_b (hz 1 (by decide)); have z0 := eq_zero_b (hz 0 (by decide)))
      | (have z1 := eq_zero_b (hz 1 (by decide)); have z0 := eq_zero_b (hz 0 (by decide)))
      | have z0 := eq_zero_b (hz 0 (by decide))
      | skip
    clear hz
    go_enter Tryd.func51, Tryd.ntmps51
    go_wp2
    refine wp_loop_rounds 4 ?_
    repeat (rw [rounds_succ]; go_wp2_with (first
      | (go_at_call_of 57 (wd S 0); refine (lowest_any 0 _ _ (by decide) (wd_lt _ _) HN.out HT.out).mono ?_; rintro e w' ⟨rfl, rfl⟩)
      | (go_at_call_of 57 (wd S 1); refine (lowest_any 1 _ _ (by decide) (wd_lt _ _) HN.out HT.out).mono ?_; rintro e w' ⟨rfl, rfl⟩)
      | (go_at_call_of 57 (wd S 2); refine (lowest_any 2 _ _ (by decide) (wd_lt _ _) HN.out HT.out).mono ?_; rintro e w' ⟨rfl, rfl⟩)
      | (go_at_call_of 57 (wd S 3); refine (lowest_any 3 _ _ (by decide) (wd_lt _ _) HN.out HT.out).mono ?_; rintro e w' ⟨rfl, rfl⟩)))
    go_ret2
    exact ⟨ret_first (by have := HE.out; omega), (Below.refl _ _).alloc (Nat.le_refl _) _⟩
set_option maxHeartbeats 400000 in
theorem first_none (S : Nat) (w : World) (h0 : wd S 0 = 0) (h1 : wd S 1 = 0) (h2 : wd S 2 = 0) (h3 : wd S 3 = 0) :
    Calls Tryd.prog 51 #[.agg #[.int .u64 (wd S 0), .int .u64 (wd S 1), .int .u64 (wd S 2), .int .u64 (wd S 3)]] w fun e w' =>
      e = .returned (.tuple #[.int .u8 0, .bool false]) ∧ Below w.heap.size w w' := by
  have z0 := eq_zero_b h0
  have z1 := eq_zero_b h1
  have z2 := eq_zero_b h2
  have z3 := eq_zero_b h3
  clear h0 h1 h2 h3
  go_enter Tryd.func51, Tryd.ntmps51
  go_wp2
  refine wp_loop_rounds 5 ?_
  iterate 5 (rw [rounds_succ]; go_wp2)
  go_ret2
  exact ⟨rfl, (Below.refl _ _).alloc (Nat.le_refl _) _⟩
end Go.Proofs.YtkpdggemhjhnbaaDoor
