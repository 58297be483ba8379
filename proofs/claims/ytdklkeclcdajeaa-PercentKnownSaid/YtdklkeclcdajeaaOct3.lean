import Derived.Test.YtdklkeclcdajeaaOct2
import Derived.Deep.RegionWith
namespace Go.Proofs.Ytdklkeclcdajeaa
open Go.RowKit Sets
theorem idx0 (a b c d : Value) (w : World) : (Instr.index 30 (.agg #[a, b, c, d]) (.int .i64 0)).run Try.prog w = .ok a w := by kernel_rfl
theorem idx1 (a b c d : Value) (w : World) : (Instr.index 30 (.agg #[a, b, c, d]) (.int .i64 1)).run Try.prog w = .ok b w := by kernel_rfl
theorem idx2 (a b c d : Value) (w : World) : (Instr.index 30 (.agg #[a, b, c, d]) (.int .i64 2)).run Try.prog w = .ok c w := by kernel_rfl
theorem idx3 (a b c d : Value) (w : World) : (Instr.index 30 (.agg #[a, b, c, d]) (.int .i64 3)).run Try.prog w = .ok d w := by kernel_rfl
attribute [go_sem] idx0 idx1 idx2 idx3
theorem ne_zero_b {n : Nat} (h : n ≠ 0) : ((n : Int) != 0) = true := by rw [bne_iff_ne]; omega
theorem eq_zero_b {n : Nat} (h : n = 0) : ((n : Int) != 0) = false := by rw [h]; rfl
set_option maxHeartbeats 400000 in
theorem count_any (S : Nat) (w : World) :
    Calls Try.prog 14 #[.agg #[.int .u64 (wd S 0), .int .u64 (wd S 1), .int .u64 (wd S 2), .int .u64 (wd S 3)]] w fun e w' =>
      e = .returned (.int .i64 (cnt S)) ∧ Below w.heap.size w w' := by
  have l0 := pop_le (wd S 0)
  have l1 := pop_le (wd S 1)
  have l2 := pop_le (wd S 2)
  have l3 := pop_le (wd S 3)
  have HP := Lib.hid (cnt_pop S)
  go_enter Try.func14, Try.ntmps14
  go_wp2
  refine wp_loop_rounds 5 ?_
  repeat (rw [rounds_succ]; go_wp2_with (go_at_call 32; refine (ones_any _ _ (wd_lt _ _)).mono ?_; rintro e w' ⟨rfl, rfl⟩))
  go_ret
  exact ⟨ret_int (by rw [HP.out]; go_num), (Below.refl _ _).alloc (Nat.le_refl _) _⟩
end Go.Proofs.Ytdklkeclcdajeaa
