/- classes.Part.Splits; '==' of sets as numbers. -/
import Derived.Test.YtdhnaldjofpeeaaDoorLea
namespace Go.Proofs.YtdhnaldjofpeeaaDoor
open Go.RowKit Sets Cls
theorem words_eq {S T : Nat} (hS : S < 2 ^ 256) (hT : T < 2 ^ 256) : (((wd S 0 : Nat) : Int) == ((wd T 0 : Nat) : Int) && ((wd S 1 : Nat) : Int) == ((wd T 1 : Nat) : Int) && ((wd S 2 : Nat) : Int) == ((wd T 2 : Nat) : Int) && ((wd S 3 : Nat) : Int) == ((wd T 3 : Nat) : Int)) = decide (S = T) := by
  rw [Bool.eq_iff_iff]
  simp only [Bool.and_eq_true, beq_iff_eq, decide_eq_true_iff]
  constructor
  · rintro ⟨⟨⟨h0, h1⟩, h2⟩, h3⟩
    refine ext_words hS hT (fun i hi => ?_)
    have : i = 0 ∨ i = 1 ∨ i = 2 ∨ i = 3 := by omega
    rcases this with rfl | rfl | rfl | rfl <;> omega
  · rintro rfl; exact ⟨⟨⟨rfl, rfl⟩, rfl⟩, rfl⟩
theorem setEq {S T : Nat} (hS : S < 2 ^ 256) (hT : T < 2 ^ 256) (w : World) :
    (Op.equalIn 10000 31 (.agg #[.int .u64 (wd S 0), .int .u64 (wd S 1), .int .u64 (wd S 2), .int .u64 (wd S 3)]) (.agg #[.int .u64 (wd T 0), .int .u64 (wd T 1), .int .u64 (wd T 2), .int .u64 (wd T 3)])).run Tryd.prog w = .ok (decide (S = T)) w := by
  rw [eqSet, words_eq hS hT]
theorem setEq0 {S : Nat} (hS : S < 2 ^ 256) (w : World) :
    (Op.equalIn 10000 31 (.agg #[.int .u64 (wd S 0), .int .u64 (wd S 1), .int .u64 (wd S 2), .int .u64 (wd S 3)]) (.agg #[.int .u64 0, .int .u64 0, .int .u64 0, .int .u64 0])).run Tryd.prog w = .ok (decide (S = 0)) w := by
  have h := setEq hS (show 0 < 2 ^ 256 from by decide) w
  simp only [wd_zero] at h
  exact h
theorem setEq_is {S T : Nat} (hS : S < 2 ^ 256) (hT : T < 2 ^ 256) (b : Bool) (h : decide (S = T) = b) (w : World) :
    (Op.equalIn 10000 31 (.agg #[.int .u64 (wd S 0), .int .u64 (wd S 1), .int .u64 (wd S 2), .int .u64 (wd S 3)]) (.agg #[.int .u64 (wd T 0), .int .u64 (wd T 1), .int .u64 (wd T 2), .int .u64 (wd T 3)])).run Tryd.prog w = .ok b w := by
  rw [setEq hS hT, h]
theorem setEq0_is {S : Nat} (hS : S < 2 ^ 256) (b : Bool) (h : decide (S = 0) = b) (w : World) :
    (Op.equalIn 10000 31 (.agg #[.int .u64 (wd S 0), .int .u64 (wd S 1), .int .u64 (wd S 2), .int .u64 (wd S 3)]) (.agg #[.int .u64 0, .int .u64 0, .int .u64 0, .int .u64 0])).run Tryd.prog w = .ok b w := by
  rw [setEq0 hS, h]
theorem and_lt {S T : Nat} (hS : S < 2 ^ 256) : S &&& T < 2 ^ 256 := Nat.lt_of_le_of_lt Nat.and_le_left hS
theorem new_set {w w5 : World} (T : Nat) (t : TypeId) (hb : Below (w.alloc (.cells #[.int .u64 (wd T 0), .int .u64 (wd T 1), .int .u64 (wd T 2), .int .u64 (wd T 3)] t)).heap.size (w.alloc (.cells #[.int .u64 (wd T 0), .int .u64 (wd T 1), .int .u64 (wd T 2), .int .u64 (wd T 3)] t)) w5) :
    (w5.cell? ⟨w.heap.size, 0, none⟩ = some (.int .u64 (wd T 0)) ∧ w5.cell? ⟨w.heap.size, 1, none⟩ = some (.int .u64 (wd T 1)) ∧ w5.cell? ⟨w.heap.size, 2, none⟩ = some (.int .u64 (wd T 2)) ∧ w5.cell? ⟨w.heap.size, 3, none⟩ = some (.int .u64 (wd T 3))) ∧ w.heap.size < w5.heap.size ∧ Below w.heap.size w w5 := by
  have hs := hb.size
  refine ⟨⟨(hb.cell (by simp)).trans (by simp), (hb.cell (by simp)).trans (by simp), (hb.cell (by simp)).trans (by simp), (hb.cell (by simp)).trans (by simp)⟩, by simp at hs; omega, ((Below.refl _ _).alloc (Nat.le_refl _) _).trans (hb.mono (by simp))⟩
/-- Class j has bytes that are in S, and bytes that are not. -/
def splitB (of : Nat → Nat) (S j : Nat) : Bool := !decide (clsSet of 256 j &&& S = 0) && !decide (clsSet of 256 j &&& S = clsSet of 256 j)
def splitsB (of : Nat → Nat) (n S : Nat) : Bool := (List.range n).any (splitB of S)
set_option maxHeartbeats 3200000 in
set_option maxRecDepth 100000 in
theorem splits_any (of : Nat → Nat) (n S : Nat) (w : World) (hn : n ≤ 256) (hof : ∀ c, c < 256 → of c < n) (hr : rightB of n = true) :
    Calls Tryd.prog 14 #[.agg (partC of n), .agg #[.int .u64 (wd S 0), .int .u64 (wd S 1), .int .u64 (wd S 2), .int .u64 (wd S 3)]] w fun e w' =>
      e = .returned (.bool (splitsB of n S)) ∧ Below w.heap.size w w' := by
  have hP : PartAt ((w.alloc (.cells (partC of n) 24)).alloc (.cells #[.int .u64 (wd S 0), .int .u64 (wd S 1), .int .u64 (wd S 2), .int .u64 (wd S 3)] 31)) w.heap.size of n := (PartAt.new w of n).alloc _
  go_enter Tryd.func14, Tryd.ntmps14
  go_wp2_with (refine wpList_load_row rfl 24 (.tmp 2) rfl w.heap.size rfl 24 (partC of n) (0, 0) _ hP Tryd.underlying24 rfl (sizeP of n) ?_)
  have hB0 : Below w.heap.size w ((w.alloc (.cells (partC of n) 24)).alloc (.cells #[.int .u64 (wd S 0), .int .u64 (wd S 1), .int .u64 (wd S 2), .int .u64 (wd S 3)] 31)) := ((Below.refl _ _).alloc (Nat.le_refl _) _).alloc (by simp) _
  have hs0 : ∀ q, q < 4 → ((w.alloc (.cells (partC of n) 24)).alloc (.cells #[.int .u64 (wd S 0), .int .u64 (wd S 1), .int .u64 (wd S 2), .int .u64 (wd S 3)] 31)).cell? ⟨w.heap.size + 1, q, none⟩ = some (.int .u64 (wd S q)) := by
    intro q hq
    have : q = 0 ∨ q = 1 ∨ q = 2 ∨ q = 3 := by omega
    rcases this with rfl | rfl | rfl | rfl <;> simp
  generalize (w.alloc (.cells (partC of n) 24)).alloc (.cells #[.int .u64 (wd S 0), .int .u64 (wd S 1), .int .u64 (wd S 2), .int .u64 (wd S 3)] 31) = W0 at *
  refine (sets_any of n _ hn hof hr).mono ?_
  rintro e w1 ⟨g, rfl, hgw, hS, hb⟩
  have hsl : w.heap.size + 1 < W0.heap.size := World.block_lt_of_cell? _ _ (hs0 0 (by decide))
  have hs1 : ∀ q, q < 4 → w1.cell? ⟨w.heap.size + 1, q, none⟩ = some (.int .u64 (wd S q)) := fun q hq => (hb.cell hsl).trans (hs0 q hq)
  have hB1 : Below w.heap.size w w1 := hB0.trans (hb.mono hB0.size)
  have hgl := hS.lt
  have hgs : w.heap.size + 1 < g := by omega
  clear hP hr hb hB0 hs0 hof
  go_wp2
  go_loopw [11] (fun i wr => ∃ j : Nat, i = .int .i64 j ∧ j ≤ n ∧ Hid (∀ i, i < j → splitB of S i = false) ∧ SetsRow wr g (clsSets of n 256) ∧ (∀ q, q < 4 → wr.cell? ⟨w.heap.size + 1, q, none⟩ = some (.int .u64 (wd S q))) ∧ Below w.heap.size w wr) (fun i _ => (n - intOf i).toNat)
  case atStart => exact ⟨0, rfl, by omega, Lib.hid (fun i hi => by omega), hS, hs1, hB1⟩
  case round =>
    obtain ⟨j, rfl, hj, HJ, hS, hs, hB⟩ := hrel
    have hgl2 := hS.lt
    by_cases hlt : j < n
    · have hcl := clsSets_length of n 256
      have hc0 := hS.cell j 0 (by omega) (by omega)
      have hc1 := hS.cell j 1 (by omega) (by omega)
      have hc2 := hS.cell j 2 (by omega) (by omega)
      have hc3 := hS.cell j 3 (by omega) (by omega)
      rw [clsSets_get of n 256 _ hlt] at hc0 hc1 hc2 hc3
      rw [Nat.add_zero] at hc0
      have s0 := hs 0 (by decide)
      have s1 := hs 1 (by decide)
      have s2 := hs 2 (by decide)
      have s3 := hs 3 (by decide)
      have hls : w.heap.size + 1 < wr.heap.size := World.block_lt_of_cell? _ _ s0
      have hls2 : ¬ w.heap.size + 1 = wr.heap.size := by omega
      have Hs := Lib.hid hs
      clear hcl hs
      have hT := clsSet_lt of j
      have HSP : Hid (splitB of S j = (!decide (clsSet of 256 j &&& S = 0) && !decide (clsSet of 256 j &&& S = clsSet of 256 j))) := Lib.hid rfl
      have HTS := Lib.hid (clsSets_get of n 256 j hlt)
      generalize clsSet of 256 j = T at *
      have hTS : T &&& S < 2 ^ 256 := and_lt hT
      have hfin : ∀ w5, Below wr.heap.size wr w5 → SetsRow w5 g (clsSets of n 256) ∧ (∀ q, q < 4 → w5.cell? ⟨w.heap.size + 1, q, none⟩ = some (.int .u64 (wd S q))) ∧ Below w.heap.size w w5 :=
        fun w5 hb => ⟨hS.kept hb hgl2, fun q hq => (hb.cell (p := ⟨w.heap.size + 1, q, none⟩) (by simp; omega)).trans (Hs.out q hq), hB.trans (hb.mono hB.size)⟩
      have HF := Lib.hid hfin
      clear hfin
      by_cases h1 : T &&& S = 0
      · have e1 := setEq0_is hTS true (decide_eq_true h1)
        have HN : Hid (splitB of S j = false) := Lib.hid (by rw [HSP.out, decide_eq_true h1]; rfl)
        clear h1
        go_wp2_with (go_at_call 20; refine (and_any _ _ _).mono ?_; rintro e w5 ⟨rfl, hb5⟩; obtain ⟨⟨t0, t1, t2, t3⟩, ht5, hb6⟩ := new_set _ _ hb5; clear hb5)
        obtain ⟨r1, r2, r3⟩ := HF.out _ (hb6.alloc (by omega) _)
        exact ⟨⟨j + 1, by go_num, by omega, Lib.hid (fun i hi => (Nat.lt_succ_iff_lt_or_eq.1 hi).elim (HJ.out i) (fun e => e ▸ HN.out)), r1, r2, r3⟩, by simp [intOf]; omega⟩
      · have e1 := setEq0_is hTS false (decide_eq_false h1)
        by_cases h2 : T &&& S = T
        · have e2 := setEq_is hTS hT true (decide_eq_true h2)
          have HN : Hid (splitB of S j = false) := Lib.hid (by rw [HSP.out, decide_eq_true h2]; simp)
          clear h1 h2
          go_wp2_with (go_at_call 20; refine (and_any _ _ _).mono ?_; rintro e w5 ⟨rfl, hb5⟩; obtain ⟨⟨t0, t1, t2, t3⟩, ht5, hb6⟩ := new_set _ _ hb5; clear hb5)
          obtain ⟨r1, r2, r3⟩ := HF.out _ (hb6.alloc (by omega) _)
          exact ⟨⟨j + 1, by go_num, by omega, Lib.hid (fun i hi => (Nat.lt_succ_iff_lt_or_eq.1 hi).elim (HJ.out i) (fun e => e ▸ HN.out)), r1, r2, r3⟩, by simp [intOf]; omega⟩
        · have e2 := setEq_is hTS hT false (decide_eq_false h2)
          have HN : Hid (splitB of S j = true) := Lib.hid (by rw [HSP.out, decide_eq_false h2, decide_eq_false h1]; rfl)
          clear h1 h2
          go_wp2_with (go_at_call 20; refine (and_any _ _ _).mono ?_; rintro e w5 ⟨rfl, hb5⟩; obtain ⟨⟨t0, t1, t2, t3⟩, ht5, hb6⟩ := new_set _ _ hb5; clear hb5)
          go_ret
          exact ⟨ret_bool (by unfold splitsB; rw [Eq.comm, List.any_eq_true]; exact ⟨j, by simpa using hlt, HN.out⟩), (HF.out _ (hb6.alloc (by omega) _)).2.2⟩
    · have : j = n := by omega
      subst this
      go_wp2
      go_ret
      exact ⟨ret_bool (by unfold splitsB; rw [Eq.comm, List.any_eq_false]; intro i hi; rw [HJ.out i (by simpa using hi)]; exact Bool.false_ne_true), hB⟩
end Go.Proofs.YtdhnaldjofpeeaaDoor
