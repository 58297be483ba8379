/- written: an escape's three bytes; Digits: the set of all hex digits. -/
import Derived.Test.YtdklkeclcdajeaaSaid
import Derived.Test.YtdklkeclcdajeaaOct1
import Derived.StillTailTactics
namespace Go.Proofs.Ytdklkeclcdajeaa
open Go.RowKit Pct Sets
def hexS : ByteArray := { data := #[48, 49, 50, 51, 52, 53, 54, 55, 56, 57, 65, 66, 67, 68, 69, 70] }
theorem hexS_get : ∀ n : Fin 16, (hexS[n.1]'(n.2)).toNat = (dig n.1).toNat := by decide
theorem index_hex (k : IntKind) (n : Nat) (m : Int) (hm : m = n) (h : n < 16) (w : World) : (Instr.index 9 (.string { data := #[48, 49, 50, 51, 52, 53, 54, 55, 56, 57, 65, 66, 67, 68, 69, 70] }) (.int k m)).run Try.prog w = .ok (.int .u8 ((dig n).toNat : Int)) w := by
  subst hm
  rw [run_index_string w _ _ _ _ Try.underlying9, dif_pos ⟨by omega, by show (n : Int) < ((16 : Nat) : Int); omega⟩]
  simp only [Int.toNat_natCast]
  exact congrArg (fun (q : Nat) => Result.ok (Value.int .u8 (q : Int)) w) (hexS_get ⟨n, h⟩)
theorem shr4 : ∀ c : Nat, c < 256 → (c : Int) / 16 = ((c / 16 : Nat) : Int) := by intro c _; omega
theorem and15 : ∀ c : Nat, c < 256 → bits .and .u8 (c : Int) 15 = ((c % 16 : Nat) : Int) := by decide +kernel
def escV (c : Nat) : Value := .agg #[.int .u8 37, .int .u8 ((dig (c / 16)).toNat : Int), .int .u8 ((dig (c % 16)).toNat : Int)]
set_option maxHeartbeats 400000 in
theorem written_any (c : Nat) (w : World) (h : c < 256) :
    Calls Try.prog 29 #[.int .u8 (c : Int)] w fun e w' => e = .returned (escV c) ∧ Below w.heap.size w w' := by
  have i0 := index_hex .u8 (c / 16) ((c : Int) / 16) (by omega) (by omega)
  have i1 := index_hex .u8 (c % 16) (bits .and .u8 (c : Int) 15) (and15 c h) (by omega)
  go_enter Try.func29, Try.ntmps29
  go_wp2
  refine region_tail 7 (by kernel_rfl) (by kernel_rfl) ?_
  simp only [List.take_succ_cons, List.take_zero, List.drop_succ_cons, List.drop_zero]
  repeat still_step
  refine wpStill_nil ?_
  go_wp2
  refine bodyPost_ret (v := escV c) (by simp [results, Try.results29, go_sem, escV]) rfl ⟨rfl, ?_⟩
  repeat (first | refine Below.drew ?_ | refine Below.alloc ?_ (by simp <;> omega) _)
  exact Below.refl _ _
end Go.Proofs.Ytdklkeclcdajeaa
