/- What stands below a node; how often; who is used. -/
import Derived.Test.YtbmoanhdpnaocaaTre1
namespace Go.Proofs.Ytbmoanhdpnaocaa
open Go.RowKit Sets Tr
/-- v is a slice of these ints, in a block from B on. -/
def IntsAt (B : Nat) (w : World) (v : Value) (K : List Int) : Prop :=
  ∃ a cap, v = .slice a K.length cap ∧ ∀ i, i < K.length → ∃ b, B ≤ b ∧ a = some ⟨b, 0, none⟩ ∧ w.cell? ⟨b, i, none⟩ = some (.int .i64 (K.getD i 0))
theorem IntsAt.kept {B : Nat} {w w' : World} {v : Value} {K : List Int} (h : IntsAt B w v K) (hb : Below w.heap.size w w') : IntsAt B w' v K := by
  obtain ⟨a, cap, rfl, hc⟩ := h
  refine ⟨a, cap, rfl, fun i hi => ?_⟩
  obtain ⟨b, h1, h2, h3⟩ := hc i hi
  exact ⟨b, h1, h2, (hb.cell (World.block_lt_of_cell? _ _ h3)).trans h3⟩
theorem ints_nil (B : Nat) (w : World) : IntsAt B w (.slice none 0 0) [] := ⟨none, 0, rfl, fun i hi => by cases hi⟩
theorem ints_one (w : World) (B : Nat) (hB : B ≤ w.heap.size) (a : Int) (t : TypeId) : IntsAt B (w.alloc (.cells #[.int .i64 a] t)) (.slice (some ⟨w.heap.size, 0, none⟩) 1 1) [a] :=
  ⟨_, 1, rfl, fun i hi => ⟨w.heap.size, hB, rfl, by
    have : i = 0 := by simp at hi; omega
    subst this
    simp⟩⟩
theorem ints_two (w : World) (B : Nat) (hB : B ≤ w.heap.size) (a b : Int) (t : TypeId) : IntsAt B (w.alloc (.cells #[.int .i64 a, .int .i64 b] t)) (.slice (some ⟨w.heap.size, 0, none⟩) 2 2) [a, b] :=
  ⟨_, 2, rfl, fun i hi => ⟨w.heap.size, hB, rfl, by
    have : i = 0 ∨ i = 1 := by simp at hi; omega
    rcases this with rfl | rfl <;> simp⟩⟩
set_option maxHeartbeats 1600000 in
set_option maxRecDepth 100000 in
theorem below_any (x : Nd) (w : World) : Calls Try.prog 20 #[.agg (nd9 x).toArray] w fun e w' => ∃ v, e = .returned v ∧ IntsAt w.heap.size w' v (kids x) ∧ Below w.heap.size w w' := by
  have hb := (Below.refl w.heap.size w).alloc (Nat.le_refl _) (.cells (nd9 x).toArray 36)
  have HB := Lib.hid hb
  obtain ⟨c0, -, -, -, -, c5, c6, -, -⟩ := nd9_get x
  clear hb
  have hs2 : (w.alloc (.cells (nd9 x).toArray 36)).heap.size = w.heap.size + 1 := by simp
  have hi1 := ints_one (w.alloc (.cells (nd9 x).toArray 36)) w.heap.size (by rw [hs2]; omega) x.a 3
  have hi2 := ints_two (w.alloc (.cells (nd9 x).toArray 36)) w.heap.size (by rw [hs2]; omega) x.a x.b 3
  rw [hs2] at hi1 hi2
  have HI1 := Lib.hid hi1
  have HI2 := Lib.hid hi2
  clear hi1 hi2 hs2
  have HK := Lib.hid (show kids x = if x.k = 3 ∨ x.k = 4 then [x.a, x.b] else if x.k = 5 then [x.a] else [] from rfl)
  go_enter Try.func20, Try.ntmps20
  by_cases h34 : x.k = 3 ∨ x.k = 4
  · have e := HK.out
    rw [if_pos h34] at e
    have E := Lib.hid e
    clear e
    rcases h34 with h | h
    all_goals
      rw [h] at c0
      clear h
      go_wp2_with fail
      go_ret
      refine ⟨_, rfl, ?_, HB.out.alloc (by simp) _⟩
      rw [E.out]
      exact HI2.out
  · have e := HK.out
    rw [if_neg h34] at e
    have g3 : ((x.k : Int) == 3) = false := by simp only [beq_eq_false_iff_ne]; omega
    have g4 : ((x.k : Int) == 4) = false := by simp only [beq_eq_false_iff_ne]; omega
    clear h34
    by_cases h5 : x.k = 5
    · rw [if_pos h5] at e
      have E := Lib.hid e
      clear e g3 g4
      rw [h5] at c0
      clear h5
      go_wp2_with fail
      go_ret
      refine ⟨_, rfl, ?_, HB.out.alloc (by simp) _⟩
      rw [E.out]
      exact HI1.out
    · rw [if_neg h5] at e
      have g5 : ((x.k : Int) == 5) = false := by simp only [beq_eq_false_iff_ne]; omega
      have E := Lib.hid e
      clear h5 e
      go_wp2_with fail
      go_ret
      refine ⟨_, rfl, ?_, HB.out⟩
      rw [E.out]
      exact ints_nil _ _
def copyOf (x : Nd) : Int := if x.k = 5 ∧ x.mx ≠ -1 then x.mx else 1
set_option maxHeartbeats 1600000 in
set_option maxRecDepth 100000 in
theorem copies_any (x : Nd) (w : World) : Calls Try.prog 21 #[.agg (nd9 x).toArray] w fun e w' => e = .returned (.int .i64 (copyOf x)) ∧ Below w.heap.size w w' := by
  have hb := (Below.refl w.heap.size w).alloc (Nat.le_refl _) (.cells (nd9 x).toArray 36)
  have HB := Lib.hid hb
  obtain ⟨c0, -, -, -, -, -, -, -, c8⟩ := nd9_get x
  clear hb
  go_enter Try.func21, Try.ntmps21
  by_cases h5 : x.k = 5
  · rw [h5] at c0
    have H5 := Lib.hid h5
    clear h5
    by_cases hm : x.mx = -1
    · rw [hm] at c8
      have HM := Lib.hid hm
      clear hm
      go_wp2_with fail
      go_ret
      exact ⟨by unfold copyOf; rw [if_neg (by rw [HM.out]; simp)]; rfl, HB.out⟩
    · have g : (x.mx != -1) = true := by simpa using hm
      have HM := Lib.hid hm
      clear hm
      go_wp2_with fail
      go_ret
      exact ⟨by unfold copyOf; rw [if_pos ⟨H5.out, HM.out⟩]; rfl, HB.out⟩
  · have g5 : ((x.k : Int) == 5) = false := by simp only [beq_eq_false_iff_ne]; omega
    have H5 := Lib.hid h5
    clear h5
    go_wp2_with fail
    go_ret
    exact ⟨by unfold copyOf; rw [if_neg (fun h => H5.out h.1)]; rfl, HB.out⟩
end Go.Proofs.Ytbmoanhdpnaocaa
