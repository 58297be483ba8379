import Derived.Test.YtlbaecjmfgahgaaDoorKit
import Derived.Test.YtlbaecjmfgahgaaDoorSets
import Derived.Test.YtlbaecjmfgahgaaDoorProg
import Derived.WalkKit
import Derived.WalkSmall
import Derived.Deep.QuietTactic
import Derived.BigQuiet
import Derived.Lib.Hide
import Derived.Deep.RegionWith
namespace Go.Proofs.YtlbaecjmfgahgaaDoor
open Go.RowKit Sets
theorem ret_int {k : IntKind} {a b : Int} (h : a = b) : Ending.returned (.int k a) = .returned (.int k b) := by rw [h]
theorem ret_bool {a b : Bool} (h : a = b) : Ending.returned (.bool a) = .returned (.bool b) := by rw [h]
theorem band_wd (S T i : Nat) : bits .and .u64 (wd S i : Int) (wd T i : Int) = (wd (S &&& T) i : Int) := by
  rw [bits_and_u64_nat _ _ (wd_lt _ _) (wd_lt _ _), wd_and]
theorem bor_wd (S T i : Nat) : bits .or .u64 (wd S i : Int) (wd T i : Int) = (wd (S ||| T) i : Int) := by
  rw [bits_or_u64_nat _ _ (wd_lt _ _) (wd_lt _ _), wd_or]
theorem wd_keep (S c i : Nat) (h : ¬ c / 64 = i) : wd (S ||| 2 ^ c) i = wd S i := by
  rw [wd_bit, if_neg (fun e => h e.symm)]
theorem bor_bit (S c i : Nat) (h : c / 64 = i) : bits .or .u64 (wd S i : Int) (bitN c : Int) = (wd (S ||| 2 ^ c) i : Int) := by
  rw [bits_or_u64_nat _ _ (wd_lt _ _) (bitN_lt _), wd_bit, if_pos h.symm]
theorem bnot_wd (S i : Nat) (h : i < 4) : bits .xor .u64 IntKind.u64.max (wd S i : Int) = (wd (full ^^^ S) i : Int) := by
  have e : IntKind.u64.max = ((18446744073709551615 : Nat) : Int) := by decide
  rw [e, bits_xor_u64_nat _ _ (by decide) (wd_lt _ _), ← wd_not S i h]
  congr 1
  apply Nat.eq_of_testBit_eq; intro j
  have hl := wd_lt S i
  rw [show (18446744073709551615 : Nat) - wd S i = 2 ^ 64 - (wd S i + 1) from by omega, Nat.testBit_two_pow_sub_succ (by omega), Nat.testBit_xor, show (18446744073709551615 : Nat) = 2 ^ 64 - 1 from rfl, Nat.testBit_two_pow_sub_one]
  by_cases hj : j < 64
  · simp [hj]
  · simp [hj, testBit_wd]
theorem has_bit (S c i : Nat) (h : c / 64 = i) : (bits .and .u64 (wd S i : Int) (bitN c : Int) != 0) = S.testBit c := by
  subst h
  rw [bits_and_u64_nat _ _ (wd_lt _ _) (bitN_lt _)]
  have := and_bit_zero S c
  cases hb : S.testBit c
  · rw [this.2 hb]; rfl
  · rw [bne_iff_ne]; intro h0
    have := this.1 (by omega)
    rw [hb] at this; cases this
set_option maxHeartbeats 400000 in
theorem bit_any (c : Int) (w : World) (h0 : 0 ≤ c) (h1 : c ≤ 255) :
    Calls Tryd.prog 39 #[.int .u8 c] w fun e w' => e = .returned (.int .u64 (bitN c.toNat)) ∧ w = w' := by
  go_enter Tryd.func39, Tryd.ntmps39
  go_wp2
  go_ret
  refine ⟨ret_int ?_, rfl⟩
  obtain ⟨n, rfl⟩ := Int.eq_ofNat_of_zero_le h0
  have e : ((n : Int) % 64).toNat = n % 64 := by omega
  have := bitN_lt n
  unfold bitN at *
  rw [e, IntKind.wrap_u64, Int.toNat_natCast]
  have h2 : ((2 ^ (n % 64) : Nat) : Int) < 18446744073709551616 := by omega
  rw [Int.natCast_pow] at *
  exact Int.emod_eq_of_lt (Int.le_of_lt (Int.pow_pos (by decide))) h2
set_option maxHeartbeats 400000 in
theorem has_any (S : Nat) (c : Int) (w : World) (h0 : 0 ≤ c) (h1 : c ≤ 255) :
    Calls Tryd.prog 48 #[.agg #[.int .u64 (wd S 0), .int .u64 (wd S 1), .int .u64 (wd S 2), .int .u64 (wd S 3)], .int .u8 c] w fun e w' =>
      e = .returned (.bool (S.testBit c.toNat)) ∧ Below w.heap.size w w' := by
  have hq : c / 64 = 0 ∨ c / 64 = 1 ∨ c / 64 = 2 ∨ c / 64 = 3 := by omega
  rcases hq with hq | hq | hq | hq
  all_goals
    go_enter Tryd.func48, Tryd.ntmps48
    go_wp2
    go_quiet ((go_at_call 39; exact Calls.quiet_of_same ((bit_any _ _ h0 h1).mono fun _ _ h => ⟨h.1, h.2.symm⟩)))
    go_wp2
    go_ret
    exact ⟨ret_bool (has_bit S c.toNat _ (by omega)), below_drewN ((Below.refl _ _).alloc (Nat.le_refl _) _) _⟩
set_option maxHeartbeats 400000 in
theorem and_any (S T : Nat) (w : World) :
    Calls Tryd.prog 36 #[.agg #[.int .u64 (wd S 0), .int .u64 (wd S 1), .int .u64 (wd S 2), .int .u64 (wd S 3)], .agg #[.int .u64 (wd T 0), .int .u64 (wd T 1), .int .u64 (wd T 2), .int .u64 (wd T 3)]] w fun e w' =>
      e = .returned (.agg #[.int .u64 (wd (S &&& T) 0), .int .u64 (wd (S &&& T) 1), .int .u64 (wd (S &&& T) 2), .int .u64 (wd (S &&& T) 3)]) ∧ Below w.heap.size w w' := by
  go_enter Tryd.func36, Tryd.ntmps36
  go_wp2
  refine wp_loop_rounds 5 ?_
  iterate 4
    rw [rounds_succ]
    go_wp2
    go_region
    go_wp2
  rw [rounds_succ]
  go_wp2
  simp only [band_wd]
  refine bodyPost_ret (v := .agg #[.int .u64 (wd (S &&& T) 0), .int .u64 (wd (S &&& T) 1), .int .u64 (wd (S &&& T) 2), .int .u64 (wd (S &&& T) 3)]) (by simp [results, Tryd.results36, go_sem]) rfl ⟨rfl, ?_⟩
  repeat (first | refine Below.drew ?_ | refine Below.alloc ?_ (by simp <;> omega) _)
  exact Below.refl _ _
set_option maxHeartbeats 400000 in
theorem or_any (S T : Nat) (w : World) :
    Calls Tryd.prog 49 #[.agg #[.int .u64 (wd S 0), .int .u64 (wd S 1), .int .u64 (wd S 2), .int .u64 (wd S 3)], .agg #[.int .u64 (wd T 0), .int .u64 (wd T 1), .int .u64 (wd T 2), .int .u64 (wd T 3)]] w fun e w' =>
      e = .returned (.agg #[.int .u64 (wd (S ||| T) 0), .int .u64 (wd (S ||| T) 1), .int .u64 (wd (S ||| T) 2), .int .u64 (wd (S ||| T) 3)]) ∧ Below w.heap.size w w' := by
  go_enter Tryd.func49, Tryd.ntmps49
  go_wp2
  refine wp_loop_rounds 5 ?_
  iterate 4
    rw [rounds_succ]
    go_wp2
    go_region
    go_wp2
  rw [rounds_succ]
  go_wp2
  simp only [bor_wd]
  refine bodyPost_ret (v := .agg #[.int .u64 (wd (S ||| T) 0), .int .u64 (wd (S ||| T) 1), .int .u64 (wd (S ||| T) 2), .int .u64 (wd (S ||| T) 3)]) (by simp [results, Tryd.results49, go_sem]) rfl ⟨rfl, ?_⟩
  repeat (first | refine Below.drew ?_ | refine Below.alloc ?_ (by simp <;> omega) _)
  exact Below.refl _ _
set_option maxHeartbeats 400000 in
theorem not_any (S : Nat) (w : World) :
    Calls Tryd.prog 50 #[.agg #[.int .u64 (wd S 0), .int .u64 (wd S 1), .int .u64 (wd S 2), .int .u64 (wd S 3)]] w fun e w' =>
      e = .returned (.agg #[.int .u64 (wd (full ^^^ S) 0), .int .u64 (wd (full ^^^ S) 1), .int .u64 (wd (full ^^^ S) 2), .int .u64 (wd (full ^^^ S) 3)]) ∧ Below w.heap.size w w' := by
  go_enter Tryd.func50, Tryd.ntmps50
  go_wp2
  refine wp_loop_rounds 5 ?_
  iterate 4
    rw [rounds_succ]
    go_wp2
  rw [rounds_succ]
  go_wp2
  simp only [bnot_wd _ 0 (by decide), bnot_wd _ 1 (by decide), bnot_wd _ 2 (by decide), bnot_wd _ 3 (by decide)]
  refine bodyPost_ret (v := .agg #[.int .u64 (wd (full ^^^ S) 0), .int .u64 (wd (full ^^^ S) 1), .int .u64 (wd (full ^^^ S) 2), .int .u64 (wd (full ^^^ S) 3)]) (by simp [results, Tryd.results50, go_sem]) rfl ⟨rfl, ?_⟩
  repeat (first | refine Below.drew ?_ | refine Below.alloc ?_ (by simp <;> omega) _)
  exact Below.refl _ _
end Go.Proofs.YtlbaecjmfgahgaaDoor
