/- numDigits; formatBase10. -/
import Derived.Test.YtkodhaapllmdhaaDoorStr2
namespace Go.Proofs.YtkodhaapllmdhaaDoor
open Go.RowKit
theorem numdigits_is (d L n0 n : Nat) (w : World) (hT : Tabs w) (hd : d < 2 ^ 64) (hL : Lib.bitLen d = L) (hL2 : L ≤ 64) (h0 : L * 78913 / 262144 = n0) (hn : n0 + (decide (10 ^ n0 ≤ d)).toNat = n) :
    Calls Tryd.prog 61 #[.int .u64 (d : Int)] w fun e w' => e = .returned (.int .i64 (n : Int)) ∧ w = w' := by
  have hn0 : n0 < 20 := by omega
  have l1 := fun w => len64_is d hd w
  rw [hL] at l1
  have l2 := fun w => log10_is (L : Int) (by omega) (by omega) w
  rw [show (L : Int) * 78913 / 262144 = (n0 : Int) by omega] at l2
  have hu := hT.u n0 hn0
  generalize 10 ^ n0 = t at *
  have B := fun w => bool2_int (decide (t ≤ d)) w
  generalize hb : decide (t ≤ d) = b at *
  have hq1 : b.toNat ≤ 1 := Bool.toNat_le b
  generalize b.toNat = q at *
  have hw : ((n0 : Int) + (q : Int)) = (n : Int) := by omega
  have HW := Lib.hid hw
  have H1 := Lib.hid l1
  have H2 := Lib.hid l2
  have HB := Lib.hid B
  have hd20 : decide ((n0 : Int) < 20) = true := decide_eq_true (by omega)
  clear l1 l2 B hT hL h0 hn hw
  go_enter Tryd.func61, Tryd.ntmps61
  go_wp2_with fail
  refine (H1.out _).mono ?_
  rintro r w' ⟨rfl, rfl⟩
  go_wp2_with fail
  refine (H2.out _).mono ?_
  rintro r w' ⟨rfl, rfl⟩
  go_wp2_with fail
  refine (HB.out _).mono ?_
  rintro r w' ⟨rfl, rfl⟩
  go_wp2_with fail
  go_ret
  exact ⟨by rw [← HW.out]; rfl, rfl⟩
/-- Block g: N bytes that may be written. -/
def RowB (w : World) (g N : Nat) (f : Nat → Nat) : Prop := ∀ j, j < N → w.cell? ⟨g, j, none⟩ = some (.int .u8 (f j : Int)) ∧ w.frozen? ⟨g, j, none⟩ = false
def upd (f : Nat → Nat) (i v : Nat) : Nat → Nat := fun j => if j = i then v else f j
theorem RowB.set {w : World} {g N : Nat} {f : Nat → Nat} (h : RowB w g N f) (i v : Nat) (hi : i < N) : RowB (w.setCell ⟨g, i, none⟩ (.int .u8 (v : Int))) g N (upd f i v) := by
  intro j hj
  obtain ⟨h1, h2⟩ := h j hj
  rw [World.frozen?_setCell]
  refine ⟨?_, h2⟩
  unfold upd
  by_cases c : j = i
  · subst c
    rw [if_pos rfl]
    exact World.cell?_setCell_same _ _ _ h1
  · rw [if_neg c]
    rw [World.cell?_setCell_other _ _ _ _ (by simp)]
    exact h1
theorem RowB.congr {w : World} {g N : Nat} {f f' : Nat → Nat} (h : RowB w g N f) (hf : ∀ j, j < N → f j = f' j) : RowB w g N f' := fun j hj => by rw [← hf j hj]; exact h j hj
theorem RowB.below {w w' : World} {g N : Nat} {f : Nat → Nat} (h : RowB w g N f) (hb : Below w.heap.size w w') : RowB w' g N f := fun j hj => by
  obtain ⟨h1, h2⟩ := h j hj
  have := World.block_lt_of_cell? _ _ h1
  exact ⟨(hb.cell this).trans h1, (hb.frozen this).trans h2⟩
/-- the i-th digit of u, from behind -/
def dg (u i : Nat) : Nat := 48 + u / 10 ^ i % 10
end Go.Proofs.YtkodhaapllmdhaaDoor
