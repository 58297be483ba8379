import Derived.Test.YtlbaecjmfgahgaaDoorKit
import Derived.Test.YtlbaecjmfgahgaaDoorOct0
import Derived.Deep.QuietTactic
import Derived.BigQuiet
namespace Go.Proofs.YtlbaecjmfgahgaaDoor
open Go.RowKit Sets
theorem not_zero (w : World) :
    Calls Tryd.prog 50 #[.agg #[.int .u64 0, .int .u64 0, .int .u64 0, .int .u64 0]] w fun e w' =>
      e = .returned (.agg #[.int .u64 (wd full 0), .int .u64 (wd full 1), .int .u64 (wd full 2), .int .u64 (wd full 3)]) ∧ Below w.heap.size w w' := by
  have h := not_any 0 w
  simp only [wd_zero, Nat.xor_zero] at h
  exact h
set_option maxRecDepth 100000 in
set_option maxHeartbeats 400000 in
theorem of_any (v : Value) (l : List Nat) (w : World) (h : BytesAt w v l) :
    Calls Tryd.prog 17 #[v] w fun e w' =>
      e = .returned (.agg #[.int .u64 (wd (ofN l) 0), .int .u64 (wd (ofN l) 1), .int .u64 (wd (ofN l) 2), .int .u64 (wd (ofN l) 3)]) ∧ Below w.heap.size w w' := by
  obtain ⟨hl, hm, a, cap, rfl, hc⟩ := h
  unfold maxLen at hm
  go_enter Tryd.func17, Tryd.ntmps17
  go_wp2
  go_loopw [8] (fun i wr => ∃ k n : Nat, i = .int .i64 k ∧ k ≤ l.length ∧ wr = ((w.alloc (.cells #[.int .u64 0, .int .u64 0, .int .u64 0, .int .u64 0] 39)).alloc (.cells #[.int .u64 (wd (ofN (l.take k)) 0), .int .u64 (wd (ofN (l.take k)) 1), .int .u64 (wd (ofN (l.take k)) 2), .int .u64 (wd (ofN (l.take k)) 3)] 39)).drewN n) (fun i _ => (l.length - intOf i).toNat)
  case atStart => exact ⟨0, 0, rfl, Nat.zero_le _, by simp [ofN, wd, World.drewN_zero]⟩
  case round =>
    obtain ⟨k, n, rfl, hk, rfl⟩ := hrel
    by_cases hlt : k < l.length
    · obtain ⟨b, o, rfl, hcell⟩ := hc k hlt
      clear hc
      have hbk := World.block_lt_of_cell? _ _ hcell
      have hbk1 : b < w.heap.size + 1 := Nat.lt_succ_of_lt hbk
      have hx : l.getD k 0 < 256 := by
        rw [List.getD_eq_getElem?_getD, List.getElem?_eq_getElem hlt]; exact hl _ (List.getElem_mem hlt)
      have HT := Lib.hid (ofN_take l k hlt)
      generalize l.getD k 0 = c at *
      have hq : (c : Int) / 64 = 0 ∨ (c : Int) / 64 = 1 ∨ (c : Int) / 64 = 2 ∨ (c : Int) / 64 = 3 := by omega
      rcases hq with hq | hq | hq | hq
      all_goals
        have hq2 : (c : Int).tdiv 64 = (c : Int) / 64 := Int.tdiv_eq_ediv_of_nonneg (by omega)
        rw [hq] at hq2
        have hz0 : IntKind.u8.wrap 0 = 0 := by decide
        have hz1 : IntKind.u8.wrap 1 = 1 := by decide
        have hz2 : IntKind.u8.wrap 2 = 2 := by decide
        have hz3 : IntKind.u8.wrap 3 = 3 := by decide
        go_wp2
        refine region_tail 7 (by kernel_rfl) (by kernel_rfl) ?_
        simp only [List.take_succ_cons, List.take_zero, List.drop_succ_cons, List.drop_zero]
        repeat (first | still_step | still_call ((bit_any _ _ (by omega) (by omega)).mono fun _ _ h => ⟨h.1, h.2.symm⟩))
        refine wpStill_nil ?_
        go_wp2
        refine ⟨⟨k + 1, n + 1, by go_num, by omega, ?_⟩, by simp [intOf]; omega⟩
        rw [HT.out]
        first
          | rw [bor_bit _ _ 0 (by omega), wd_keep _ c 1 (by omega), wd_keep _ c 2 (by omega), wd_keep _ c 3 (by omega)]
          | rw [bor_bit _ _ 1 (by omega), wd_keep _ c 0 (by omega), wd_keep _ c 2 (by omega), wd_keep _ c 3 (by omega)]
          | rw [bor_bit _ _ 2 (by omega), wd_keep _ c 0 (by omega), wd_keep _ c 1 (by omega), wd_keep _ c 3 (by omega)]
          | rw [bor_bit _ _ 3 (by omega), wd_keep _ c 0 (by omega), wd_keep _ c 1 (by omega), wd_keep _ c 2 (by omega)]
    · have hkl : k = l.length := by omega
      subst hkl
      rw [List.take_length]
      go_wp2
      refine bodyPost_ret (v := .agg #[.int .u64 (wd (ofN l) 0), .int .u64 (wd (ofN l) 1), .int .u64 (wd (ofN l) 2), .int .u64 (wd (ofN l) 3)]) (by simp [results, Tryd.results17, go_sem]) rfl ⟨rfl, ?_⟩
      repeat (first | refine Below.drew ?_ | refine below_drewN ?_ _ | refine Below.alloc ?_ (by simp <;> omega) _)
      exact Below.refl _ _
end Go.Proofs.YtlbaecjmfgahgaaDoor
