import Derived.Test.YtbmoanhdpnaocaaOct2
import Derived.Deep.RegionWith
namespace Go.Proofs.Ytbmoanhdpnaocaa
open Go.RowKit Sets
theorem idx0 (a b c d : Value) (w : World) : (Instr.index 34 (.agg #[a, b, c, d]) (.int .i64 0)).run Try.prog w = .ok a w := by kernel_rfl
theorem idx1 (a b c d : Value) (w : World) : (Instr.index 34 (.agg #[a, b, c, d]) (.int .i64 1)).run Try.prog w = .ok b w := by kernel_rfl
theorem idx2 (a b c d : Value) (w : World) : (Instr.index 34 (.agg #[a, b, c, d]) (.int .i64 2)).run Try.prog w = .ok c w := by kernel_rfl
theorem idx3 (a b c d : Value) (w : World) : (Instr.index 34 (.agg #[a, b, c, d]) (.int .i64 3)).run Try.prog w = .ok d w := by kernel_rfl
attribute [go_sem] idx0 idx1 idx2 idx3
theorem ne_zero_b {n : Nat} (h : n ≠ 0) : ((n : Int) != 0) = true := by rw [bne_iff_ne]; omega
theorem eq_zero_b {n : Nat} (h : n = 0) : ((n : Int) != 0) = false := by rw [h]; rfl
end Go.Proofs.Ytbmoanhdpnaocaa
