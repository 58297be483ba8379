/- fmtEFG at the digits of 0.1. -/
import Derived.Test.YtkodhaapllmdhaaDoorStr5
namespace Go.Proofs.YtkodhaapllmdhaaDoor
open Go.RowKit
theorem cell_keep {w : World} {g h k : Nat} {v : Value} (hgh : g ≠ h) (i : Nat) (u : Value) (hc : w.cell? ⟨g, k, none⟩ = some v) : (w.setCell ⟨h, i, none⟩ u).cell? ⟨g, k, none⟩ = some v := by
  rw [World.cell?_setCell_other _ _ _ _ (by simp)]; exact hc
theorem cell_alloc {w : World} {g k : Nat} {v : Value} (o : Obj) (hc : w.cell? ⟨g, k, none⟩ = some v) : (w.alloc o).cell? ⟨g, k, none⟩ = some v :=
  (((Below.refl _ w).alloc (Nat.le_refl _) o).cell (World.block_lt_of_cell? _ _ hc)).trans hc
set_option maxHeartbeats 3200000 in
set_option maxRecDepth 100000 in
theorem efg_tenth (g h : Nat) (w : World) (hd : w.cell? ⟨g, 0, none⟩ = some (.int .u8 49)) (f : Nat → Nat) (hR : RowB w h 24 f) (hgh : g ≠ h) :
    Calls Tryd.prog 58 #[.slice (some ⟨h, 0, none⟩) 0 24, .bool false, .slice (some ⟨g, 0, none⟩) 32 32, .int .i64 0, .int .i64 1, .int .i64 1, .int .u8 103, .bool true] w fun e w' => e = .returned (.slice (some ⟨h, 0, none⟩) 3 24) ∧ RowB w' h 24 (upd (upd (upd f 0 48) 1 46) 2 49) ∧ Below h w w' := by
  have r0 := hR 0 (by decide)
  have r1 := hR 1 (by decide)
  have r2 := hR 2 (by decide)
  obtain ⟨a0, b0⟩ := r0
  obtain ⟨a1, b1⟩ := r1
  obtain ⟨a2, b2⟩ := r2
  have hh : h < w.heap.size := World.block_lt_of_cell? _ _ a0
  have hg : g < w.heap.size := World.block_lt_of_cell? _ _ hd
  have m0 : max (1 : Int) 0 = 1 := by decide
  have m1 : min (1 : Int) 0 = 0 := by decide
  have m2 : max (0 : Int) 1 = 1 := by decide
  have m3 : min (1 : Int) 1 = 1 := by decide
  have m4 : max (0 : Int) 0 = 0 := by decide
  have hne : ¬ h = g := fun e => hgh e.symm
  have HR := Lib.hid hR
  clear hR
  go_enter Tryd.func58, Tryd.ntmps58
  go_wp2_with fail
  have hb2 : Below h w ((((w.setCell ⟨h, 0, none⟩ (.int .u8 48)).setCell ⟨h, 1, none⟩ (.int .u8 46)).alloc (.cells #[.int .u8 48] 5)).alloc (.cells #[.int .u8 46] 5)) :=
    (((((Below.refl h w).setCell (p := ⟨h, 0, none⟩) (Nat.le_refl _) _).setCell (p := ⟨h, 1, none⟩) (Nat.le_refl _) _).alloc (by simp; omega) _).alloc (by simp; omega) _)
  have hr2 : RowB ((((w.setCell ⟨h, 0, none⟩ (.int .u8 48)).setCell ⟨h, 1, none⟩ (.int .u8 46)).alloc (.cells #[.int .u8 48] 5)).alloc (.cells #[.int .u8 46] 5)) h 24 (upd (upd f 0 48) 1 46) :=
    (((HR.out.set 0 48 (by decide)).set 1 46 (by decide)).below ((Below.refl _ _).alloc (Nat.le_refl _) _)).below ((Below.refl _ _).alloc (Nat.le_refl _) _)
  have hd2 : ((((w.setCell ⟨h, 0, none⟩ (.int .u8 48)).setCell ⟨h, 1, none⟩ (.int .u8 46)).alloc (.cells #[.int .u8 48] 5)).alloc (.cells #[.int .u8 46] 5)).cell? ⟨g, 0, none⟩ = some (.int .u8 49) := by
    exact cell_alloc _ (cell_alloc _ (cell_keep hgh _ _ (cell_keep hgh _ _ hd)))
  generalize (((w.setCell ⟨h, 0, none⟩ (.int .u8 48)).setCell ⟨h, 1, none⟩ (.int .u8 46)).alloc (.cells #[.int .u8 48] 5)).alloc (.cells #[.int .u8 46] 5) = W2 at *
  clear a0 b0 a1 b1 a2 b2 hh hg hd
  obtain ⟨a2, b2⟩ := hr2 2 (by decide)
  have hh : h < W2.heap.size := World.block_lt_of_cell? _ _ a2
  have hg : g < W2.heap.size := World.block_lt_of_cell? _ _ hd2
  have HR2 := Lib.hid hr2
  have HB2 := Lib.hid hb2
  clear hr2 hb2 HR
  refine wp_loop_rounds 1 ?_
  rw [rounds_succ]
  go_wp2_with fail
  refine wp_loop_rounds 2 ?_
  rw [rounds_succ]
  go_wp2_with fail
  rw [rounds_succ]
  go_wp2_with fail
  refine wp_loop_rounds 1 ?_
  rw [rounds_succ]
  go_wp2_with fail
  go_ret
  refine ⟨rfl, ?_, ?_⟩
  · exact (HR2.out.set 2 49 (by decide)).below ((Below.refl _ _).alloc (Nat.le_refl _) _)
  · exact (HB2.out.setCell (p := ⟨h, 2, none⟩) (Nat.le_refl _) _).alloc (by simp; omega) _
end Go.Proofs.YtkodhaapllmdhaaDoor
