import Derived.Test.YtioghbhcdofnnaaDoorOct2
import Derived.Deep.RegionWith
namespace Go.Proofs.YtioghbhcdofnnaaDoor
open Go.RowKit Sets
/-- The library's table, as its own text lays it. -/
def Tab (w : World) : Prop := TabAt 0 Lib.deBruijn64tab w
theorem tz_core (x k idx : Nat) (w : World) (hx0 : ((x : Int) == 0) = false)
    (key : IntKind.u64.wrap (bits BinOp.and IntKind.u64 (x : Int) (IntKind.u64.wrap (-(x : Int))) * 285870213051353865) / 288230376151711744 = (idx : Int))
    (hi : idx < 64) (hk : k < 64) (hcell : w.cell? ⟨0, idx, none⟩ = some (.int .u8 k)) :
    Calls Tryd.prog 24 #[.int .u64 x] w fun e w' => e = .returned (.int .i64 k) ∧ w = w' := by
  go_enter Tryd.func24, Tryd.ntmps24
  go_wp2_with (simp only [key])
  go_ret
  exact ⟨rfl, rfl⟩
theorem tz_any (x : Nat) (w : World) (hx : x < 18446744073709551616) (h0 : x ≠ 0) (hT : Tab w) :
    Calls Tryd.prog 24 #[.int .u64 x] w fun e w' => e = .returned (.int .i64 (Lib.ctz 64 x)) ∧ w = w' := by
  obtain ⟨hlow, hk⟩ := Lib.lowest_bit 64 x h0 hx
  obtain ⟨hi, htab⟩ := Lib.deBruijn64_at _ hk
  have hcell := hT _ hi
  rw [htab] at hcell
  exact tz_core x _ _ w (by simp; omega) (tz64_key x _ hx h0 hlow) hi hk hcell
theorem lowest_any (i x : Nat) (w : World) (hi : i < 4) (hx : x < 18446744073709551616) (h0 : x ≠ 0) (hT : Tab w) :
    Calls Tryd.prog 22 #[.int .i64 i, .int .u64 x] w fun e w' => e = .returned (.int .u8 (64 * i + Lib.ctz 64 x : Nat)) ∧ w = w' := by
  obtain ⟨-, hk⟩ := Lib.lowest_bit 64 x h0 hx
  go_enter Tryd.func22, Tryd.ntmps22
  go_wp2_with (go_at_call 24; refine (tz_any _ _ hx h0 hT).mono ?_; rintro e w' ⟨rfl, rfl⟩)
  go_ret
  exact ⟨ret_int (by omega), rfl⟩
theorem Tab.below {B : Nat} {w w' : World} (h : Tab w) (hb : Below B w w') (hB : 0 < B) : Tab w' := fun j hj => (hb.cell hB).trans (h j hj)
theorem idx0 (a b c d : Value) (w : World) : (Instr.index 24 (.agg #[a, b, c, d]) (.int .i64 0)).run Tryd.prog w = .ok a w := by kernel_rfl
theorem idx1 (a b c d : Value) (w : World) : (Instr.index 24 (.agg #[a, b, c, d]) (.int .i64 1)).run Tryd.prog w = .ok b w := by kernel_rfl
theorem idx2 (a b c d : Value) (w : World) : (Instr.index 24 (.agg #[a, b, c, d]) (.int .i64 2)).run Tryd.prog w = .ok c w := by kernel_rfl
theorem idx3 (a b c d : Value) (w : World) : (Instr.index 24 (.agg #[a, b, c, d]) (.int .i64 3)).run Tryd.prog w = .ok d w := by kernel_rfl
attribute [go_sem] idx0 idx1 idx2 idx3
theorem ne_zero_b {n : Nat} (h : n ≠ 0) : ((n : Int) != 0) = true := by rw [bne_iff_ne]; omega
theorem eq_zero_b {n : Nat} (h : n = 0) : ((n : Int) != 0) = false := by rw [h]; rfl
theorem ret_first {a b : Int} (h : a = b) : Ending.returned (.tuple #[.int .u8 a, .bool true]) = .returned (.tuple #[.int .u8 b, .bool true]) := by rw [h]
set_option maxHeartbeats 400000 in
theorem first_some (S c : Nat) (w : World) (hc : c < 256) (h1 : S.testBit c = true) (h2 : ∀ d, d < c → S.testBit d = false) (hT : Tab w) (hg : 0 < w.heap.size) :
    Calls Tryd.prog 9 #[.agg #[.int .u64 (wd S 0), .int .u64 (wd S 1), .int .u64 (wd S 2), .int .u64 (wd S 3)]] w fun e w' =>
      e = .returned (.tuple #[.int .u8 c, .bool true]) ∧ Below w.heap.size w w' := by
  obtain ⟨hz, hn, he⟩ := first_word S c h1 h2
  have HT : Hid (Tab (w.alloc (.cells #[.int .u64 (wd S 0), .int .u64 (wd S 1), .int .u64 (wd S 2), .int .u64 (wd S 3)] 24))) := Lib.hid (hT.below ((Below.refl _ _).alloc (Nat.le_refl _) _) hg)
  have HE := Lib.hid he
  have HN := Lib.hid hn
  clear hT he h1 h2
  have hq : c / 64 = 0 ∨ c / 64 = 1 ∨ c / 64 = 2 ∨ c / 64 = 3 := by omega
  rcases hq with hq | hq | hq | hq
  all_goals
    rw [hq] at hz hn HE HN
    have hnb := ne_zero_b hn
    clear hq hn
    first
      | (have z2 := eq_zero_b (hz 2 (by decide)); have z1 := eq_zero_b (hz 1 (by decide)); have z0 := eq_zero_b (hz 0 (by decide)))
      | (have z1 := eq_zero_b (hz 1 (by decide)); have z0 := eq_zero_b (hz 0 (by decide)))
      | have z0 := eq_zero_b (hz 0 (by decide))
      | skip
    clear hz
    go_enter Tryd.func9, Tryd.ntmps9
    go_wp2
    refine wp_loop_rounds 4 ?_
    repeat (rw [rounds_succ]; go_wp2_with (first
      | (go_at_call_of 22 (wd S 0); refine (lowest_any 0 _ _ (by decide) (wd_lt _ _) HN.out HT.out).mono ?_; rintro e w' ⟨rfl, rfl⟩)
      | (go_at_call_of 22 (wd S 1); refine (lowest_any 1 _ _ (by decide) (wd_lt _ _) HN.out HT.out).mono ?_; rintro e w' ⟨rfl, rfl⟩)
      | (go_at_call_of 22 (wd S 2); refine (lowest_any 2 _ _ (by decide) (wd_lt _ _) HN.out HT.out).mono ?_; rintro e w' ⟨rfl, rfl⟩)
      | (go_at_call_of 22 (wd S 3); refine (lowest_any 3 _ _ (by decide) (wd_lt _ _) HN.out HT.out).mono ?_; rintro e w' ⟨rfl, rfl⟩)))
    go_ret2
    exact ⟨ret_first (by have := HE.out; omega), (Below.refl _ _).alloc (Nat.le_refl _) _⟩
set_option maxHeartbeats 400000 in
theorem first_none (S : Nat) (w : World) (h0 : wd S 0 = 0) (h1 : wd S 1 = 0) (h2 : wd S 2 = 0) (h3 : wd S 3 = 0) :
    Calls Tryd.prog 9 #[.agg #[.int .u64 (wd S 0), .int .u64 (wd S 1), .int .u64 (wd S 2), .int .u64 (wd S 3)]] w fun e w' =>
      e = .returned (.tuple #[.int .u8 0, .bool false]) ∧ Below w.heap.size w w' := by
  have z0 := eq_zero_b h0
  have z1 := eq_zero_b h1
  have z2 := eq_zero_b h2
  have z3 := eq_zero_b h3
  clear h0 h1 h2 h3
  go_enter Tryd.func9, Tryd.ntmps9
  go_wp2
  refine wp_loop_rounds 5 ?_
  iterate 5 (rw [rounds_succ]; go_wp2)
  go_ret2
  exact ⟨rfl, (Below.refl _ _).alloc (Nat.le_refl _) _⟩
set_option maxHeartbeats 400000 in
theorem count_any (S : Nat) (w : World) :
    Calls Tryd.prog 12 #[.agg #[.int .u64 (wd S 0), .int .u64 (wd S 1), .int .u64 (wd S 2), .int .u64 (wd S 3)]] w fun e w' =>
      e = .returned (.int .i64 (cnt S)) ∧ Below w.heap.size w w' := by
  have l0 := pop_le (wd S 0)
  have l1 := pop_le (wd S 1)
  have l2 := pop_le (wd S 2)
  have l3 := pop_le (wd S 3)
  have HP := Lib.hid (cnt_pop S)
  go_enter Tryd.func12, Tryd.ntmps12
  go_wp2
  refine wp_loop_rounds 5 ?_
  repeat (rw [rounds_succ]; go_wp2_with (go_at_call 23; refine (ones_any _ _ (wd_lt _ _)).mono ?_; rintro e w' ⟨rfl, rfl⟩))
  go_ret
  exact ⟨ret_int (by rw [HP.out]; go_num), (Below.refl _ _).alloc (Nat.le_refl _) _⟩
end Go.Proofs.YtioghbhcdofnnaaDoor
