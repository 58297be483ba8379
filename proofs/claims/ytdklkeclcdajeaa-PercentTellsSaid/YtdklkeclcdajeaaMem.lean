import Derived.Test.YtdklkeclcdajeaaOct0
import Derived.Test.YtdklkeclcdajeaaArr
import Derived.Test.YtdklkeclcdajeaaPackM
import Derived.WalkSpells
namespace Go.Proofs.Ytdklkeclcdajeaa
open Go.RowKit Sets
theorem zero35 (w : World) : (zeroValue 38).run Try.prog w = .ok (.agg (arr fun _ => false)) w := by
  rw [show arr (fun _ => false) = (List.replicate 256 (Value.bool false)).toArray from by unfold arr; rw [List.map_const', List.length_range]]
  kernel_rfl
/-- The members of S below c. -/
def memb (S c d : Nat) : Bool := decide (d < c) && S.testBit d
set_option maxHeartbeats 1600000 in
set_option maxRecDepth 100000 in
theorem mem_any (S : Nat) (w : World) :
    Calls Try.prog 23 #[.agg #[.int .u64 (wd S 0), .int .u64 (wd S 1), .int .u64 (wd S 2), .int .u64 (wd S 3)]] w fun e w' => e = .returned (.agg (arr S.testBit)) ∧ Below w.heap.size w w' := by
  have hz := zero35
  go_enter Try.func23, Try.ntmps23
  go_wp2
  go_loopw [4] (fun i wr => ∃ c : Nat, i = .int .i64 c ∧ c ≤ 256 ∧ wr = ((w.alloc (.cells #[.int .u64 (wd S 0), .int .u64 (wd S 1), .int .u64 (wd S 2), .int .u64 (wd S 3)] 29)).alloc (.cells (arr fun _ => false) 38)).alloc (.cells (arr (memb S c)) 38)) (fun i _ => (256 - intOf i).toNat)
  case atStart => exact ⟨0, rfl, by omega, by rw [arr_congr (memb S 0) (fun _ => false) (fun d _ => by simp [memb])]⟩
  case round =>
    obtain ⟨c, rfl, hc, rfl⟩ := hrel
    by_cases hlt : c < 256
    · have hnext : ∀ d, memb S (c + 1) d = if d = c then S.testBit c else memb S c d := by
        intro d
        unfold memb
        by_cases h : d = c
        · subst h; simp
        · simp only [h, if_false]
          congr 1
          rw [decide_eq_decide]; omega
      have hset := arr_set (memb S c) c (S.testBit c)
      rw [← arr_congr _ _ (fun d _ => hnext d)] at hset
      have HN := Lib.hid hset
      have harr := arr_get (memb S c) c hlt
      have HX0 := Lib.hid (xw_zero S c)
      have HXS := Lib.hid (xw_step S c)
      have HXB := Lib.hid (xw_bit_i S c)
      have HXL := Lib.hid (xw_lt S c)
      generalize memb S c = p at *
      clear hnext hset
      have hq : (c : Int) / 64 = 0 ∨ (c : Int) / 64 = 1 ∨ (c : Int) / 64 = 2 ∨ (c : Int) / 64 = 3 := by omega
      rcases hq with hq | hq | hq | hq
      all_goals
        have hq2 : (c : Int).tdiv 64 = (c : Int) / 64 := Int.tdiv_eq_ediv_of_nonneg (by omega)
        rw [hq] at hq2
        have HQ := Lib.hid hq
        have hdk : decide ((c : Int) < 256) = true := decide_eq_true (by omega)
        have hx0 : wd S (c / 64) = xw S c 0 := HX0.out.symm
        have hcq : c / 64 = 0 ∨ c / 64 = 1 ∨ c / 64 = 2 ∨ c / 64 = 3 := by omega
        go_wp2
        go_loop [5, 6] (fun x k => ∃ j : Nat, k = .int .i64 j ∧ j ≤ c % 64 ∧ x = .int .u64 (xw S c j)) (fun _ k => (64 - intOf k).toNat)
        case atStart =>
          refine ⟨0, rfl, Nat.zero_le _, ?_⟩
          rw [HX0.out]
          have hQ := HQ.out
          rcases hcq with h | h | h | h <;> rw [h] <;> first | rfl | omega
        case round =>
          obtain ⟨j, rfl, hj, rfl⟩ := hrel
          by_cases hjl : j < c % 64
          · have hstep := HXS.out j
            have hxl := HXL.out j
            generalize xw S c j = X at *
            have HS := Lib.hid hstep
            clear hstep hx0
            go_wp2
            go_round
            case rel => exact ⟨j + 1, by go_num, by omega, by rw [← HS.out]; go_num⟩
            case measure => simp [intOf]; omega
          · have hjc : j = c % 64 := by omega
            have hb := HXB.out
            rw [← hjc] at hb
            have hxl := HXL.out j
            generalize xw S c j = X at *
            have HJ := Lib.hid hjc
            clear hjc hx0
            go_wp2
            go_roundw
            case rel =>
              rw [HN.out]
              exact ⟨c + 1, by go_num, by omega, rfl⟩
            case measure => simp [intOf]; omega
    · have hc' : c = 256 := by omega
      subst hc'
      rw [arr_congr (memb S 256) S.testBit (fun d hd => by simp [memb, hd])]
      obtain ⟨W, hW⟩ : ∃ W, W = ((w.alloc (.cells #[.int .u64 (wd S 0), .int .u64 (wd S 1), .int .u64 (wd S 2), .int .u64 (wd S 3)] 29)).alloc (.cells (arr fun _ => false) 38)).alloc (.cells (arr S.testBit) 38) := ⟨_, rfl⟩
      rw [← hW]
      have h2 : W.heap[w.heap.size + 1 + 1]? = some (.cells (arr S.testBit) 38 (0, 0)) := by
        rw [hW]
        have := heap_alloc_new ((w.alloc (.cells #[.int .u64 (wd S 0), .int .u64 (wd S 1), .int .u64 (wd S 2), .int .u64 (wd S 3)] 29)).alloc (.cells (arr fun _ => false) 38)) (.cells (arr S.testBit) 38)
        simpa using this
      have h1 : W.heap[w.heap.size + 1]? = some (.cells (arr fun _ => false) 38 (0, 0)) := by
        rw [hW, Below.heap_alloc _ _ _ (by simp)]
        have := heap_alloc_new (w.alloc (.cells #[.int .u64 (wd S 0), .int .u64 (wd S 1), .int .u64 (wd S 2), .int .u64 (wd S 3)] 29)) (.cells (arr fun _ => false) 38)
        simpa using this
      have HB : Below w.heap.size w W := by rw [hW]; exact (((Below.refl _ _).alloc (Nat.le_refl _) _).alloc (by simp) _).alloc (by simp; omega) _
      clear hW hz
      have hsz : (Try.prog.info? 38).map (·.size) = some (arr S.testBit).size := by rw [arr_size]; kernel_rfl
      go_wp2_with (first
        | (refine wpList_load_row rfl 38 (.tmp 3) rfl (w.heap.size + 1 + 1) rfl 38 (arr S.testBit) (0, 0) _ h2 Try.underlying38 rfl hsz ?_)
        | (refine wpList_store_row rfl 38 (.tmp 2) (.tmp 28) rfl (w.heap.size + 1) (arr S.testBit) rfl rfl 38 (arr fun _ => false) h1 hsz (by rw [arr_size, arr_size]) (arr_one _) ?_))
      have h3 : (W.setRow (w.heap.size + 1) (arr S.testBit)).heap[w.heap.size + 1]? = some (.cells (arr S.testBit) 38 (0, 0)) := setRow_heap W _ _ _ _ _ h1
      refine bodyPost_ret (v := .agg (arr S.testBit)) (results_cell_row (p := 2) Try.results23 _ _ (w.heap.size + 1) 38 _ (0, 0) _ rfl h3 Try.underlying38 rfl hsz) rfl ⟨rfl, ?_⟩
      exact HB.trans ⟨rfl, rfl, rfl, by simp, fun k hk => setRow_other W _ _ _ (by omega)⟩
end Go.Proofs.Ytdklkeclcdajeaa
