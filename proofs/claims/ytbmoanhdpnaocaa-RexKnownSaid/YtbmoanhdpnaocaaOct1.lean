import Derived.Test.YtbmoanhdpnaocaaKit
import Derived.Test.YtbmoanhdpnaocaaOct0
import Derived.Deep.QuietTactic
import Derived.BigQuiet
namespace Go.Proofs.Ytbmoanhdpnaocaa
open Go.RowKit Sets
set_option maxHeartbeats 400000 in
theorem range_any (f t : Int) (w : World) (hf : 0 ≤ f) (hf1 : f ≤ 255) (ht : 0 ≤ t) (ht1 : t ≤ 255) :
    Calls Try.prog 7 #[.int .u8 f, .int .u8 t] w fun e w' =>
      e = .returned (.agg #[.int .u64 (wd (rangeN f.toNat t.toNat) 0), .int .u64 (wd (rangeN f.toNat t.toNat) 1), .int .u64 (wd (rangeN f.toNat t.toNat) 2), .int .u64 (wd (rangeN f.toNat t.toNat) 3)]) ∧ Below w.heap.size w w' := by
  go_enter Try.func7, Try.ntmps7
  go_wp2
  go_loopw [6] (fun i wr => ∃ k n : Nat, i = .int .i64 (f + k) ∧ (k = 0 ∨ f + k ≤ t + 1) ∧ wr = ((w.alloc (.cells #[.int .u64 0, .int .u64 0, .int .u64 0, .int .u64 0] 34)).alloc (.cells #[.int .u64 (wd (partN f.toNat k) 0), .int .u64 (wd (partN f.toNat k) 1), .int .u64 (wd (partN f.toNat k) 2), .int .u64 (wd (partN f.toNat k) 3)] 34)).drewN n) (fun i _ => (t + 1 - intOf i).toNat)
  case atStart => exact ⟨0, 0, by simp, Or.inl rfl, by simp [partN, wd, World.drewN_zero]⟩
  case round =>
    obtain ⟨k, n, rfl, hk, rfl⟩ := hrel
    by_cases hle : f + k ≤ t
    · generalize hc : f + (k : Int) = c at *
      have hc0 : 0 ≤ c := by omega
      have hc1 : c ≤ 255 := by omega
      have HC := Lib.hid hc
      clear hc
      have hq : c / 64 = 0 ∨ c / 64 = 1 ∨ c / 64 = 2 ∨ c / 64 = 3 := by omega
      rcases hq with hq | hq | hq | hq
      all_goals
        have hq2 : c.tdiv 64 = c / 64 := Int.tdiv_eq_ediv_of_nonneg hc0
        rw [hq] at hq2
        have hz0 : IntKind.i64.wrap 0 = 0 := by decide
        have hz1 : IntKind.i64.wrap 1 = 1 := by decide
        have hz2 : IntKind.i64.wrap 2 = 2 := by decide
        have hz3 : IntKind.i64.wrap 3 = 3 := by decide
        have hw8 : IntKind.u8.wrap c = c := by simp [IntKind.wrap, IntKind.bits, IntKind.signed]; omega
        go_wp2
        refine region_tail 8 (by kernel_rfl) (by kernel_rfl) ?_
        simp only [List.take_succ_cons, List.take_zero, List.drop_succ_cons, List.drop_zero]
        repeat (first | still_step | still_call ((bit_any _ _ hc0 hc1).mono fun _ _ h => ⟨h.1, h.2.symm⟩))
        refine wpStill_nil ?_
        go_wp2
        have e : partN f.toNat (k + 1) = partN f.toNat k ||| 2 ^ c.toNat := by rw [partN_succ]; congr 2; have := HC.out; omega
        refine ⟨⟨k + 1, n + 1, by have := HC.out; rw [← this]; go_num, Or.inr (by have := HC.out; omega), ?_⟩, by simp [intOf]; omega⟩
        rw [e]
        first
          | rw [bor_bit _ _ 0 (by omega), wd_keep _ c.toNat 1 (by omega), wd_keep _ c.toNat 2 (by omega), wd_keep _ c.toNat 3 (by omega)]
          | rw [bor_bit _ _ 1 (by omega), wd_keep _ c.toNat 0 (by omega), wd_keep _ c.toNat 2 (by omega), wd_keep _ c.toNat 3 (by omega)]
          | rw [bor_bit _ _ 2 (by omega), wd_keep _ c.toNat 0 (by omega), wd_keep _ c.toNat 1 (by omega), wd_keep _ c.toNat 3 (by omega)]
          | rw [bor_bit _ _ 3 (by omega), wd_keep _ c.toNat 0 (by omega), wd_keep _ c.toNat 1 (by omega), wd_keep _ c.toNat 2 (by omega)]
    · have e : partN f.toNat k = rangeN f.toNat t.toNat := by
        by_cases hk0 : k = 0
        · subst hk0; rw [partN_zero, rangeN, if_neg (by omega)]
        · rw [← partN_range f.toNat t.toNat (by omega), show t.toNat + 1 - f.toNat = k from by omega]
      rw [e]
      have hle' : t < f + k := by omega
      go_wp2
      refine bodyPost_ret (v := .agg #[.int .u64 (wd (rangeN f.toNat t.toNat) 0), .int .u64 (wd (rangeN f.toNat t.toNat) 1), .int .u64 (wd (rangeN f.toNat t.toNat) 2), .int .u64 (wd (rangeN f.toNat t.toNat) 3)]) (by simp [results, Try.results7, go_sem]) rfl ⟨rfl, ?_⟩
      repeat (first | refine Below.drew ?_ | refine below_drewN ?_ _ | refine Below.alloc ?_ (by simp <;> omega) _)
      exact Below.refl _ _
theorem not_zero (w : World) :
    Calls Try.prog 14 #[.agg #[.int .u64 0, .int .u64 0, .int .u64 0, .int .u64 0]] w fun e w' =>
      e = .returned (.agg #[.int .u64 (wd full 0), .int .u64 (wd full 1), .int .u64 (wd full 2), .int .u64 (wd full 3)]) ∧ Below w.heap.size w w' := by
  have h := not_any 0 w
  simp only [wd_zero, Nat.xor_zero] at h
  exact h
set_option maxHeartbeats 400000 in
theorem all_any (w : World) :
    Calls Try.prog 9 #[] w fun e w' =>
      e = .returned (.agg #[.int .u64 (wd full 0), .int .u64 (wd full 1), .int .u64 (wd full 2), .int .u64 (wd full 3)]) ∧ Below w.heap.size w w' := by
  go_enter Try.func9, Try.ntmps9
  go_wp2_with fail
  refine (not_zero _).mono ?_
  rintro e w1 ⟨rfl, hb⟩
  have hc := hb.cell (p := ⟨w.heap.size, 0, none⟩) (by simp)
  have hc1 := hb.cell (p := ⟨w.heap.size, 1, none⟩) (by simp)
  have hc2 := hb.cell (p := ⟨w.heap.size, 2, none⟩) (by simp)
  have hc3 := hb.cell (p := ⟨w.heap.size, 3, none⟩) (by simp)
  have hf := hb.frozen (p := ⟨w.heap.size, 0, none⟩) (by simp)
  have hf1 := hb.frozen (p := ⟨w.heap.size, 1, none⟩) (by simp)
  have hf2 := hb.frozen (p := ⟨w.heap.size, 2, none⟩) (by simp)
  have hf3 := hb.frozen (p := ⟨w.heap.size, 3, none⟩) (by simp)
  go_wp2
  refine bodyPost_ret (v := .agg #[.int .u64 (wd full 0), .int .u64 (wd full 1), .int .u64 (wd full 2), .int .u64 (wd full 3)]) (by simp [results, Try.results9, go_sem, hc, hc1, hc2, hc3]) rfl ⟨rfl, ?_⟩
  have hb' : Below w.heap.size w w1 := ((Below.refl _ _).alloc (Nat.le_refl _) _).trans (hb.mono (by simp))
  exact (((hb'.setCell (by simp) _).setCell (by simp) _).setCell (by simp) _).setCell (by simp) _
set_option maxRecDepth 100000 in
set_option maxHeartbeats 400000 in
theorem of_any (v : Value) (l : List Nat) (w : World) (h : BytesAt w v l) :
    Calls Try.prog 8 #[v] w fun e w' =>
      e = .returned (.agg #[.int .u64 (wd (ofN l) 0), .int .u64 (wd (ofN l) 1), .int .u64 (wd (ofN l) 2), .int .u64 (wd (ofN l) 3)]) ∧ Below w.heap.size w w' := by
  obtain ⟨hl, hm, a, cap, rfl, hc⟩ := h
  unfold maxLen at hm
  go_enter Try.func8, Try.ntmps8
  go_wp2
  go_loopw [8] (fun i wr => ∃ k n : Nat, i = .int .i64 k ∧ k ≤ l.length ∧ wr = ((w.alloc (.cells #[.int .u64 0, .int .u64 0, .int .u64 0, .int .u64 0] 34)).alloc (.cells #[.int .u64 (wd (ofN (l.take k)) 0), .int .u64 (wd (ofN (l.take k)) 1), .int .u64 (wd (ofN (l.take k)) 2), .int .u64 (wd (ofN (l.take k)) 3)] 34)).drewN n) (fun i _ => (l.length - intOf i).toNat)
  case atStart => exact ⟨0, 0, rfl, Nat.zero_le _, by simp [ofN, wd, World.drewN_zero]⟩
  case round =>
    obtain ⟨k, n, rfl, hk, rfl⟩ := hrel
    by_cases hlt : k < l.length
    · obtain ⟨b, o, rfl, hcell⟩ := hc k hlt
      clear hc
      have hbk := World.block_lt_of_cell? _ _ hcell
      have hbk1 : b < w.heap.size + 1 := Nat.lt_succ_of_lt hbk
      have hx : l.getD k 0 < 256 := by
        rw [List.getD_eq_getElem?_getD, List.getElem?_eq_getElem hlt]; exact hl _ (List.getElem_mem hlt)
      have HT := Lib.hid (ofN_take l k hlt)
      generalize l.getD k 0 = c at *
      have hq : (c : Int) / 64 = 0 ∨ (c : Int) / 64 = 1 ∨ (c : Int) / 64 = 2 ∨ (c : Int) / 64 = 3 := by omega
      rcases hq with hq | hq | hq | hq
      all_goals
        have hq2 : (c : Int).tdiv 64 = (c : Int) / 64 := Int.tdiv_eq_ediv_of_nonneg (by omega)
        rw [hq] at hq2
        have hz0 : IntKind.u8.wrap 0 = 0 := by decide
        have hz1 : IntKind.u8.wrap 1 = 1 := by decide
        have hz2 : IntKind.u8.wrap 2 = 2 := by decide
        have hz3 : IntKind.u8.wrap 3 = 3 := by decide
        go_wp2
        refine region_tail 7 (by kernel_rfl) (by kernel_rfl) ?_
        simp only [List.take_succ_cons, List.take_zero, List.drop_succ_cons, List.drop_zero]
        repeat (first | still_step | still_call ((bit_any _ _ (by omega) (by omega)).mono fun _ _ h => ⟨h.1, h.2.symm⟩))
        refine wpStill_nil ?_
        go_wp2
        refine ⟨⟨k + 1, n + 1, by go_num, by omega, ?_⟩, by simp [intOf]; omega⟩
        rw [HT.out]
        first
          | rw [bor_bit _ _ 0 (by omega), wd_keep _ c 1 (by omega), wd_keep _ c 2 (by omega), wd_keep _ c 3 (by omega)]
          | rw [bor_bit _ _ 1 (by omega), wd_keep _ c 0 (by omega), wd_keep _ c 2 (by omega), wd_keep _ c 3 (by omega)]
          | rw [bor_bit _ _ 2 (by omega), wd_keep _ c 0 (by omega), wd_keep _ c 1 (by omega), wd_keep _ c 3 (by omega)]
          | rw [bor_bit _ _ 3 (by omega), wd_keep _ c 0 (by omega), wd_keep _ c 1 (by omega), wd_keep _ c 2 (by omega)]
    · have hkl : k = l.length := by omega
      subst hkl
      rw [List.take_length]
      go_wp2
      refine bodyPost_ret (v := .agg #[.int .u64 (wd (ofN l) 0), .int .u64 (wd (ofN l) 1), .int .u64 (wd (ofN l) 2), .int .u64 (wd (ofN l) 3)]) (by simp [results, Try.results8, go_sem]) rfl ⟨rfl, ?_⟩
      repeat (first | refine Below.drew ?_ | refine below_drewN ?_ _ | refine Below.alloc ?_ (by simp <;> omega) _)
      exact Below.refl _ _
end Go.Proofs.Ytbmoanhdpnaocaa
