/- Several texts in one. -/
import Derived.Test.YtcgllipcnmlkbaaDoorPkA
import Derived.WalkSpells
namespace Go.Proofs.YtcgllipcnmlkbaaDoor
open Go.RowKit Sets
/-- The 256 answers of p, as an array's cells. -/
def arr (p : Nat → Bool) : Array Value := ((List.range 256).map fun c => Value.bool (p c)).toArray
theorem arr_size (p : Nat → Bool) : (arr p).size = 256 := by simp [arr]
theorem arr_get (p : Nat → Bool) (c : Nat) (h : c < 256) : (arr p)[c]? = some (.bool (p c)) := by simp [arr, h]
theorem arr_congr (p q : Nat → Bool) (h : ∀ c, c < 256 → p c = q c) : arr p = arr q := by
  unfold arr
  congr 1
  apply List.map_congr_left
  intro c hc
  rw [h c (by simpa using hc)]
theorem arr_set (p : Nat → Bool) (c : Nat) (b : Bool) : (arr p).setIfInBounds c (.bool b) = arr (fun d => if d = c then b else p d) := by
  apply Array.ext
  · simp [arr]
  · intro i h1 h2
    simp [arr] at h2
    simp only [arr, List.getElem_toArray, List.getElem_map, List.getElem_range]
    by_cases hi : c = i
    · subst hi; simp
    · have : ¬ i = c := fun e => hi e.symm
      simp [hi, this]
theorem arr_one (p : Nat → Bool) : (arr p).all (·.oneCell') = true := by
  rw [Array.all_eq_true_iff_forall_mem]
  intro v hv
  simp [arr] at hv
  obtain ⟨c, -, rfl⟩ := hv
  rfl
attribute [irreducible] arr
end Go.Proofs.YtcgllipcnmlkbaaDoor
namespace Go.Proofs.YtcgllipcnmlkbaaDoor
namespace Sets
/-- The set of the bytes of which p says yes. -/
def packN (p : Nat → Bool) : Nat := ofN ((List.range 256).filter p)
theorem testBit_packN (p : Nat → Bool) (c : Nat) : (packN p).testBit c = (decide (c < 256) && p c) := by
  unfold packN
  rw [ofN_testBit, Bool.eq_iff_iff, List.contains_iff_mem]
  simp
theorem packN_lt (p : Nat → Bool) : packN p < 2 ^ 256 := by
  apply Nat.lt_pow_two_of_testBit
  intro j hj
  rw [testBit_packN]
  have : ¬ j < 256 := by omega
  simp [this]
theorem packN_eq (p : Nat → Bool) (S : Nat) (hS : S < 2 ^ 256) (h : ∀ c, c < 256 → p c = S.testBit c) : packN p = S := by
  apply Nat.eq_of_testBit_eq; intro c
  rw [testBit_packN]
  by_cases hc : c < 256
  · simp [hc, h c hc]
  · rw [testBit_ge hS (Nat.le_of_not_lt hc)]; simp [hc]
/-- Word q when the bytes from m on have been packed. -/
def st (S m q : Nat) : Nat := wd S q / 2 ^ (min 64 (m - 64 * q))
theorem st_start (S q : Nat) (hq : q < 4) : st S 256 q = 0 := by
  unfold st
  rw [show min 64 (256 - 64 * q) = 64 from by omega]
  exact Nat.div_eq_of_lt (wd_lt S q)
theorem st_end (S q : Nat) : st S 0 q = wd S q := by unfold st; simp
theorem st_keep (S c q : Nat) (h : ¬ c / 64 = q) : st S (c + 1) q = st S c q := by
  unfold st
  congr 2
  omega
theorem st_step (S c q : Nat) (h : c / 64 = q) : st S c q = 2 * st S (c + 1) q + (S.testBit c).toNat := by
  unfold st
  subst h
  rw [show min 64 (c - 64 * (c / 64)) = c % 64 from by omega, show min 64 (c + 1 - 64 * (c / 64)) = c % 64 + 1 from by omega, Nat.pow_succ, ← Nat.div_div_eq_div_mul]
  have hb := testBit_wd S (c / 64) (c % 64)
  rw [show 64 * (c / 64) + c % 64 = c from by omega, Nat.testBit_eq_decide_div_mod_eq] at hb
  have hl : c % 64 < 64 := by omega
  simp only [hl, decide_true, Bool.true_and] at hb
  rw [← hb]
  generalize wd S (c / 64) / 2 ^ (c % 64) = y
  by_cases hy : y % 2 = 1
  · simp [hy]; omega
  · simp [hy]; omega
theorem st_lt (S m q : Nat) : st S m q < 18446744073709551616 := Nat.lt_of_le_of_lt (Nat.div_le_self _ _) (wd_lt S q)
/-- The word of c, halved k times. -/
def xw (S c k : Nat) : Nat := wd S (c / 64) / 2 ^ k
theorem xw_zero (S c : Nat) : xw S c 0 = wd S (c / 64) := by unfold xw; simp
theorem xw_step (S c k : Nat) : xw S c k / 2 = xw S c (k + 1) := by unfold xw; rw [Nat.pow_succ, Nat.div_div_eq_div_mul]
theorem xw_lt (S c k : Nat) : xw S c k < 18446744073709551616 := Nat.lt_of_le_of_lt (Nat.div_le_self _ _) (wd_lt S _)
theorem xw_bit (S c : Nat) : decide (xw S c (c % 64) % 2 = 1) = S.testBit c := by
  have hb := testBit_wd S (c / 64) (c % 64)
  rw [show 64 * (c / 64) + c % 64 = c from by omega, Nat.testBit_eq_decide_div_mod_eq] at hb
  have hl : c % 64 < 64 := by omega
  simp only [hl, decide_true, Bool.true_and] at hb
  exact hb
theorem xw_bit_i (S c : Nat) : (((xw S c (c % 64) : Nat) : Int) % 2 == 1) = S.testBit c := by
  rw [← xw_bit]
  by_cases h : xw S c (c % 64) % 2 = 1
  · simp only [h, decide_true, beq_iff_eq]; omega
  · simp only [h, decide_false, beq_eq_false_iff_ne, ne_eq]; omega
attribute [irreducible] packN st xw
end Sets
end Go.Proofs.YtcgllipcnmlkbaaDoor
namespace Go.Proofs.YtcgllipcnmlkbaaDoor
open Go.RowKit Sets
theorem zero35 (w : World) : (zeroValue 83).run Tryd.prog w = .ok (.agg (arr fun _ => false)) w := by
  rw [show arr (fun _ => false) = (List.replicate 256 (Value.bool false)).toArray from by unfold arr; rw [List.map_const', List.length_range]]
  kernel_rfl
/-- The members of S below c. -/
def memb (S c d : Nat) : Bool := decide (d < c) && S.testBit d
set_option maxHeartbeats 1600000 in
set_option maxRecDepth 100000 in
theorem mem_any (S : Nat) (w : World) :
    Calls Tryd.prog 34 #[.agg #[.int .u64 (wd S 0), .int .u64 (wd S 1), .int .u64 (wd S 2), .int .u64 (wd S 3)]] w fun e w' => e = .returned (.agg (arr S.testBit)) ∧ Below w.heap.size w w' := by
  have hz := zero35
  go_enter Tryd.func34, Tryd.ntmps34
  go_wp2
  go_loopw [4] (fun i wr => ∃ c : Nat, i = .int .i64 c ∧ c ≤ 256 ∧ wr = ((w.alloc (.cells #[.int .u64 (wd S 0), .int .u64 (wd S 1), .int .u64 (wd S 2), .int .u64 (wd S 3)] 51)).alloc (.cells (arr fun _ => false) 83)).alloc (.cells (arr (memb S c)) 83)) (fun i _ => (256 - intOf i).toNat)
  case atStart => exact ⟨0, rfl, by omega, by rw [arr_congr (memb S 0) (fun _ => false) (fun d _ => by simp [memb])]⟩
  case round =>
    obtain ⟨c, rfl, hc, rfl⟩ := hrel
    by_cases hlt : c < 256
    · have hnext : ∀ d, memb S (c + 1) d = if d = c then S.testBit c else memb S c d := by
        intro d
        unfold memb
        by_cases h : d = c
        · subst h; simp
        · simp only [h, if_false]
          congr 1
          rw [decide_eq_decide]; omega
      have hset := arr_set (memb S c) c (S.testBit c)
      rw [← arr_congr _ _ (fun d _ => hnext d)] at hset
      have HN := Lib.hid hset
      have harr := arr_get (memb S c) c hlt
      have HX0 := Lib.hid (xw_zero S c)
      have HXS := Lib.hid (xw_step S c)
      have HXB := Lib.hid (xw_bit_i S c)
      have HXL := Lib.hid (xw_lt S c)
      generalize memb S c = p at *
      clear hnext hset
      have hq : (c : Int) / 64 = 0 ∨ (c : Int) / 64 = 1 ∨ (c : Int) / 64 = 2 ∨ (c : Int) / 64 = 3 := by omega
      rcases hq with hq | hq | hq | hq
      all_goals
        have hq2 : (c : Int).tdiv 64 = (c : Int) / 64 := Int.tdiv_eq_ediv_of_nonneg (by omega)
        rw [hq] at hq2
        have HQ := Lib.hid hq
        have hdk : decide ((c : Int) < 256) = true := decide_eq_true (by omega)
        have hx0 : wd S (c / 64) = xw S c 0 := HX0.out.symm
        have hcq : c / 64 = 0 ∨ c / 64 = 1 ∨ c / 64 = 2 ∨ c / 64 = 3 := by omega
        go_wp2
        go_loop [5, 6] (fun x k => ∃ j : Nat, k = .int .i64 j ∧ j ≤ c % 64 ∧ x = .int .u64 (xw S c j)) (fun _ k => (64 - intOf k).toNat)
        case atStart =>
          refine ⟨0, rfl, Nat.zero_le _, ?_⟩
          rw [HX0.out]
          have hQ := HQ.out
          rcases hcq with h | h | h | h <;> rw [h] <;> first | rfl | omega
        case round =>
          obtain ⟨j, rfl, hj, rfl⟩ := hrel
          by_cases hjl : j < c % 64
          · have hstep := HXS.out j
            have hxl := HXL.out j
            generalize xw S c j = X at *
            have HS := Lib.hid hstep
            clear hstep hx0
            go_wp2
            go_round
            case rel => exact ⟨j + 1, by go_num, by omega, by rw [← HS.out]; go_num⟩
            case measure => simp [intOf]; omega
          · have hjc : j = c % 64 := by omega
            have hb := HXB.out
            rw [← hjc] at hb
            have hxl := HXL.out j
            generalize xw S c j = X at *
            have HJ := Lib.hid hjc
            clear hjc hx0
            go_wp2
            go_roundw
            case rel =>
              rw [HN.out]
              exact ⟨c + 1, by go_num, by omega, rfl⟩
            case measure => simp [intOf]; omega
    · have hc' : c = 256 := by omega
      subst hc'
      rw [arr_congr (memb S 256) S.testBit (fun d hd => by simp [memb, hd])]
      obtain ⟨W, hW⟩ : ∃ W, W = ((w.alloc (.cells #[.int .u64 (wd S 0), .int .u64 (wd S 1), .int .u64 (wd S 2), .int .u64 (wd S 3)] 51)).alloc (.cells (arr fun _ => false) 83)).alloc (.cells (arr S.testBit) 83) := ⟨_, rfl⟩
      rw [← hW]
      have h2 : W.heap[w.heap.size + 1 + 1]? = some (.cells (arr S.testBit) 83 (0, 0)) := by
        rw [hW]
        have := heap_alloc_new ((w.alloc (.cells #[.int .u64 (wd S 0), .int .u64 (wd S 1), .int .u64 (wd S 2), .int .u64 (wd S 3)] 51)).alloc (.cells (arr fun _ => false) 83)) (.cells (arr S.testBit) 83)
        simpa using this
      have h1 : W.heap[w.heap.size + 1]? = some (.cells (arr fun _ => false) 83 (0, 0)) := by
        rw [hW, Below.heap_alloc _ _ _ (by simp)]
        have := heap_alloc_new (w.alloc (.cells #[.int .u64 (wd S 0), .int .u64 (wd S 1), .int .u64 (wd S 2), .int .u64 (wd S 3)] 51)) (.cells (arr fun _ => false) 83)
        simpa using this
      have HB : Below w.heap.size w W := by rw [hW]; exact (((Below.refl _ _).alloc (Nat.le_refl _) _).alloc (by simp) _).alloc (by simp; omega) _
      clear hW hz
      have hsz : (Tryd.prog.info? 83).map (·.size) = some (arr S.testBit).size := by rw [arr_size]; kernel_rfl
      go_wp2_with (first
        | (refine wpList_load_row rfl 83 (.tmp 3) rfl (w.heap.size + 1 + 1) rfl 83 (arr S.testBit) (0, 0) _ h2 Tryd.underlying83 rfl hsz ?_)
        | (refine wpList_store_row rfl 83 (.tmp 2) (.tmp 28) rfl (w.heap.size + 1) (arr S.testBit) rfl rfl 83 (arr fun _ => false) h1 hsz (by rw [arr_size, arr_size]) (arr_one _) ?_))
      have h3 : (W.setRow (w.heap.size + 1) (arr S.testBit)).heap[w.heap.size + 1]? = some (.cells (arr S.testBit) 83 (0, 0)) := setRow_heap W _ _ _ _ _ h1
      refine bodyPost_ret (v := .agg (arr S.testBit)) (results_cell_row (p := 2) Tryd.results34 _ _ (w.heap.size + 1) 83 _ (0, 0) _ rfl h3 Tryd.underlying83 rfl hsz) rfl ⟨rfl, ?_⟩
      exact HB.trans ⟨rfl, rfl, rfl, by simp, fun k hk => setRow_other W _ _ _ (by omega)⟩
end Go.Proofs.YtcgllipcnmlkbaaDoor
