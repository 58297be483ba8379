/- Digits: the set of all hex digits. -/
import Derived.Test.YtdklkeclcdajeaaWrit
import Derived.Test.YtdklkeclcdajeaaSetA
import Derived.Test.YtdklkeclcdajeaaMix
namespace Go.Proofs.Ytdklkeclcdajeaa
open Go.RowKit Pct Sets
def hexN : Nat := rangeN 48 57 ||| (rangeN 97 102 ||| rangeN 65 70)
theorem hexN_bit : ∀ c, c < 256 → hexN.testBit c = (val c).isSome := by
  intro c hc
  unfold hexN
  rw [Nat.testBit_or, Nat.testBit_or, testBit_rangeN, testBit_rangeN, testBit_rangeN]
  unfold val
  by_cases h1 : 48 ≤ c ∧ c ≤ 57
  · rw [if_pos h1]; simp [h1]
  · by_cases h2 : 97 ≤ c ∧ c ≤ 102
    · rw [if_neg h1, if_pos h2]; simp [h2]
    · by_cases h3 : 65 ≤ c ∧ c ≤ 70
      · rw [if_neg h1, if_neg h2, if_pos h3]; simp [h3]
      · rw [if_neg h1, if_neg h2, if_neg h3]; simp; omega
theorem hexN_lt : hexN < 2 ^ 256 := by decide +kernel
theorem rng (f t : Nat) (w : World) (hf : f ≤ 255) (ht : t ≤ 255) :
    Calls Try.prog 34 #[.int .u8 (f : Int), .int .u8 (t : Int)] w fun e w' =>
      e = .returned (.agg #[.int .u64 (wd (rangeN f t) 0), .int .u64 (wd (rangeN f t) 1), .int .u64 (wd (rangeN f t) 2), .int .u64 (wd (rangeN f t) 3)]) ∧ Below w.heap.size w w' :=
  range_any f t w (by omega) (by omega) (by omega) (by omega)
set_option maxHeartbeats 1600000 in
set_option maxRecDepth 100000 in
theorem digits_any (w : World) :
    Calls Try.prog 15 #[] w fun e w' =>
      e = .returned (.agg #[.int .u64 (wd hexN 0), .int .u64 (wd hexN 1), .int .u64 (wd hexN 2), .int .u64 (wd hexN 3)]) ∧ Below w.heap.size w w' := by
  unfold hexN
  have RA := fun w => rng 97 102 w (by decide) (by decide)
  have RB := fun w => rng 65 70 w (by decide) (by decide)
  generalize rangeN 97 102 = A at *
  generalize rangeN 65 70 = B at *
  go_enter Try.func15, Try.ntmps15
  have hB0 : Below w.heap.size w (w.alloc (.cells #[.int .u64 0, .int .u64 0, .int .u64 0, .int .u64 0] 30)) := (Below.refl _ _).alloc (Nat.le_refl _) _
  go_wp2_with fail
  refine (RA _).mono ?_
  rintro e w1 ⟨rfl, hb1⟩
  go_wp2_with fail
  refine (RB _).mono ?_
  rintro e w2 ⟨rfl, hb2⟩
  clear RA RB
  go_wp2_with fail
  refine (or_any A B _).mono ?_
  rintro e w3 ⟨rfl, hb3⟩
  have hb03 : Below (w.heap.size + 1) (w.alloc (.cells #[.int .u64 0, .int .u64 0, .int .u64 0, .int .u64 0] 30)) w3 := by
    have h1 := hb1.size; have h2 := hb2.size
    simp at h1
    exact ((hb1.mono (by simp)).trans (hb2.mono (by omega))).trans (hb3.mono (by omega))
  have c0 : ∀ q, q < 4 → w3.cell? ⟨w.heap.size, q, none⟩ = some (.int .u64 0) := fun q hq => (hb03.cell (p := ⟨w.heap.size, q, none⟩) (by simp)).trans (by
    have : q = 0 ∨ q = 1 ∨ q = 2 ∨ q = 3 := by omega
    rcases this with rfl | rfl | rfl | rfl <;> simp)
  have f0 : ∀ q, w3.frozen? ⟨w.heap.size, q, none⟩ = false := fun q => (hb03.frozen (p := ⟨w.heap.size, q, none⟩) (by simp)).trans (by simp)
  have hsz : w.heap.size < w3.heap.size := by have := hb03.size; simp at this; omega
  have hB3 : Below w.heap.size w w3 := hB0.trans (hb03.mono (by omega))
  clear hb1 hb2 hb3 hb03 w1 w2 hB0
  go_wp2_with fail
  have hS := SetAt.new w3 (A ||| B) 30
  have hB4 : Below w.heap.size w (w3.alloc (.cells #[.int .u64 (wd (A ||| B) 0), .int .u64 (wd (A ||| B) 1), .int .u64 (wd (A ||| B) 2), .int .u64 (wd (A ||| B) 3)] 30)) := hB3.alloc (by omega) _
  have d0 : ∀ q, q < 4 → (w3.alloc (.cells #[.int .u64 (wd (A ||| B) 0), .int .u64 (wd (A ||| B) 1), .int .u64 (wd (A ||| B) 2), .int .u64 (wd (A ||| B) 3)] 30)).cell? ⟨w.heap.size, q, none⟩ = some (.int .u64 0) := fun q hq => (((Below.refl _ w3).alloc (Nat.le_refl _) _).cell (p := ⟨w.heap.size, q, none⟩) hsz).trans (c0 q hq)
  have g0 : ∀ q, (w3.alloc (.cells #[.int .u64 (wd (A ||| B) 0), .int .u64 (wd (A ||| B) 1), .int .u64 (wd (A ||| B) 2), .int .u64 (wd (A ||| B) 3)] 30)).frozen? ⟨w.heap.size, q, none⟩ = false := fun q => (((Below.refl _ w3).alloc (Nat.le_refl _) _).frozen (p := ⟨w.heap.size, q, none⟩) hsz).trans (f0 q)
  have hsz4 : w.heap.size < (w3.alloc (.cells #[.int .u64 (wd (A ||| B) 0), .int .u64 (wd (A ||| B) 1), .int .u64 (wd (A ||| B) 2), .int .u64 (wd (A ||| B) 3)] 30)).heap.size := by simp; omega
  have hle : w.heap.size ≤ (w3.alloc (.cells #[.int .u64 (wd (A ||| B) 0), .int .u64 (wd (A ||| B) 1), .int .u64 (wd (A ||| B) 2), .int .u64 (wd (A ||| B) 3)] 30)).heap.size := by omega
  generalize w3.alloc (.cells #[.int .u64 (wd (A ||| B) 0), .int .u64 (wd (A ||| B) 1), .int .u64 (wd (A ||| B) 2), .int .u64 (wd (A ||| B) 3)] 30) = w4 at *
  generalize w3.heap.size = C at *
  clear c0 f0 hB3
  have HD := Lib.hid d0
  have HG := Lib.hid g0
  have HC := Lib.hid hS
  clear d0 g0 hS hsz
  have H0 := Lib.hid hB4
  clear hB4
  refine region_mix [(false, 1), (true, 0), (true, 2)] (fun w' => Below w4.heap.size w4 w') (by kernel_rfl) (by kernel_rfl) ((Below.refl _ _).drew) ?_
  simp only [planOps, List.map_cons, List.map_nil, List.getD_cons_zero, List.getD_cons_succ, List.length_cons, List.length_nil, List.drop_succ_cons, List.drop_zero]
  refine mix_seg (seg := [_]) rfl ((Below.refl _ _).drew) ?_
  intro ι hι F hF
  have a0 := fun n => ((hF n).cell HC.out.lt).trans HC.out.c0
  have a1 := fun n => ((hF n).cell HC.out.lt).trans HC.out.c1
  have a2 := fun n => ((hF n).cell HC.out.lt).trans HC.out.c2
  have a3 := fun n => ((hF n).cell HC.out.lt).trans HC.out.c3
  repeat (first | (go_big_quiet_step (fail)))
  refine wpQuiet_nil ?_
  clear a0 a1 a2 a3 hF hι F
  refine mix_eff (fun K hK => ?_)
  go_wp2_with (go_at_call 34; refine (rng 48 57 _ (by decide) (by decide)).mono ?_; rintro e w5 ⟨rfl, hb5⟩)
  have hb5' : Below w4.heap.size w4 w5 := ((Below.refl _ w4).drew).trans (hb5.mono (Nat.le_refl _))
  refine mix_on hK hb5' ?_
  clear hK K
  refine mix_eff (fun K hK => ?_)
  go_wp2_with (go_at_call 33; refine (or_any (rangeN 48 57) (A ||| B) _).mono ?_; rintro e w6 ⟨rfl, hb6⟩)
  have hb6' : Below w4.heap.size w4 w6 := hb5'.trans (hb6.mono hb5'.size)
  refine mix_on hK hb6' ?_
  clear hK K
  show wpList _ _ _ _ _ _
  have e0 := fun q hq => (hb6'.cell (p := ⟨w.heap.size, q, none⟩) hsz4).trans (HD.out q hq)
  have e00 := e0 0 (by decide); have e01 := e0 1 (by decide); have e02 := e0 2 (by decide); have e03 := e0 3 (by decide)
  have f00 := fun q => (hb6'.frozen (p := ⟨w.heap.size, q, none⟩) hsz4).trans (HG.out q)
  clear e0
  go_wp2
  refine NoPanic.normal ?_
  go_wp2
  refine bodyPost_ret (v := .agg #[.int .u64 (wd (rangeN 48 57 ||| (A ||| B)) 0), .int .u64 (wd (rangeN 48 57 ||| (A ||| B)) 1), .int .u64 (wd (rangeN 48 57 ||| (A ||| B)) 2), .int .u64 (wd (rangeN 48 57 ||| (A ||| B)) 3)]) (by simp [results, Try.results15, go_sem, e00, e01, e02, e03]) rfl ⟨rfl, ?_⟩
  have hb' : Below w.heap.size w w6 := H0.out.trans (hb6'.mono hle)
  exact (((hb'.setCell (by simp) _).setCell (by simp) _).setCell (by simp) _).setCell (by simp) _
end Go.Proofs.Ytdklkeclcdajeaa
