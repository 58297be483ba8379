/- fmtEFG at the digits of 7 and of 1e300. -/
import Derived.Test.YtkodhaapllmdhaaDoorStr6
import Derived.Deep.Cut
namespace Go.Proofs.YtkodhaapllmdhaaDoor
open Go.RowKit
set_option maxHeartbeats 3200000 in
set_option maxRecDepth 100000 in
theorem efg_seven (g h : Nat) (w : World) (hd : w.cell? ⟨g, 0, none⟩ = some (.int .u8 55)) (f : Nat → Nat) (hR : RowB w h 24 f) (hgh : g ≠ h) :
    Calls Tryd.prog 58 #[.slice (some ⟨h, 0, none⟩) 0 24, .bool false, .slice (some ⟨g, 0, none⟩) 32 32, .int .i64 1, .int .i64 1, .int .i64 1, .int .u8 103, .bool true] w fun e w' => e = .returned (.slice (some ⟨h, 0, none⟩) 1 24) ∧ RowB w' h 24 (upd f 0 55) ∧ Below h w w' := by
  have r0 := hR 0 (by decide)
  obtain ⟨a0, b0⟩ := r0
  have hh : h < w.heap.size := World.block_lt_of_cell? _ _ a0
  have hg : g < w.heap.size := World.block_lt_of_cell? _ _ hd
  have m0 : max (1 : Int) 0 = 1 := by decide
  have m1 : min (1 : Int) 0 = 0 := by decide
  have m2 : max (0 : Int) 1 = 1 := by decide
  have m3 : min (1 : Int) 1 = 1 := by decide
  have m4 : max (0 : Int) 0 = 0 := by decide
  have m5 : max (1 : Int) 1 = 1 := by decide
  have hne : ¬ h = g := fun e => hgh e.symm
  have HR := Lib.hid hR
  clear hR
  go_enter Tryd.func58, Tryd.ntmps58
  go_wp2_with fail
  refine wp_loop_rounds 2 ?_
  rw [rounds_succ]
  go_wp2_with fail
  rw [rounds_succ]
  go_wp2_with fail
  refine wp_loop_rounds 1 ?_
  rw [rounds_succ]
  go_wp2_with fail
  go_ret
  refine ⟨rfl, ?_, ?_⟩
  · exact (HR.out.set 0 55 (by decide)).below ((Below.refl _ _).alloc (Nat.le_refl _) _)
  · exact ((Below.refl h w).setCell (p := ⟨h, 0, none⟩) (Nat.le_refl _) _).alloc (by simp; omega) _
set_option maxHeartbeats 3200000 in
set_option maxRecDepth 100000 in
theorem efg_big (g h : Nat) (w : World) (hd : w.cell? ⟨g, 0, none⟩ = some (.int .u8 49)) (f : Nat → Nat) (hR : RowB w h 24 f) (hgh : g ≠ h) :
    Calls Tryd.prog 58 #[.slice (some ⟨h, 0, none⟩) 0 24, .bool false, .slice (some ⟨g, 0, none⟩) 32 32, .int .i64 301, .int .i64 1, .int .i64 1, .int .u8 103, .bool true] w fun e w' => e = .returned (.slice (some ⟨h, 0, none⟩) 6 24) ∧ RowB w' h 24 (upd (upd (upd (upd (upd (upd f 0 49) 1 101) 2 43) 3 51) 4 48) 5 48) ∧ Below h w w' := by
  have r0 := hR 0 (by decide)
  have r1 := hR 1 (by decide)
  have r2 := hR 2 (by decide)
  have r3 := hR 3 (by decide)
  have r4 := hR 4 (by decide)
  have r5 := hR 5 (by decide)
  obtain ⟨a0, b0⟩ := r0
  obtain ⟨a1, b1⟩ := r1
  obtain ⟨a2, b2⟩ := r2
  obtain ⟨a3, b3⟩ := r3
  obtain ⟨a4, b4⟩ := r4
  obtain ⟨a5, b5⟩ := r5
  have hh : h < w.heap.size := World.block_lt_of_cell? _ _ a0
  have hg : g < w.heap.size := World.block_lt_of_cell? _ _ hd
  have m0 : max (1 : Int) 0 = 1 := by decide
  have m1 : min (1 : Int) 0 = 0 := by decide
  have m2 : max (0 : Int) 1 = 1 := by decide
  have m3 : min (1 : Int) 1 = 1 := by decide
  have m4 : max (0 : Int) 0 = 0 := by decide
  have m5 : max (1 : Int) 1 = 1 := by decide
  have hne : ¬ h = g := fun e => hgh e.symm
  have HR := Lib.hid hR
  clear hR
  go_enter Tryd.func58, Tryd.ntmps58
  go_upto_region 45 with fail
  have hb2 : Below h w ((((w.setCell ⟨h, 0, none⟩ (.int .u8 49)).setCell ⟨h, 1, none⟩ (.int .u8 101)).alloc (.cells #[.int .u8 49] 5)).alloc (.cells #[.int .u8 101] 5)) :=
    (((((Below.refl h w).setCell (p := ⟨h, 0, none⟩) (Nat.le_refl _) _).setCell (p := ⟨h, 1, none⟩) (Nat.le_refl _) _).alloc (by simp; omega) _).alloc (by simp; omega) _)
  have hr2 : RowB ((((w.setCell ⟨h, 0, none⟩ (.int .u8 49)).setCell ⟨h, 1, none⟩ (.int .u8 101)).alloc (.cells #[.int .u8 49] 5)).alloc (.cells #[.int .u8 101] 5)) h 24 (upd (upd f 0 49) 1 101) :=
    (((HR.out.set 0 49 (by decide)).set 1 101 (by decide)).below ((Below.refl _ _).alloc (Nat.le_refl _) _)).below ((Below.refl _ _).alloc (Nat.le_refl _) _)
  have hh2 : h < ((((w.setCell ⟨h, 0, none⟩ (.int .u8 49)).setCell ⟨h, 1, none⟩ (.int .u8 101)).alloc (.cells #[.int .u8 49] 5)).alloc (.cells #[.int .u8 101] 5)).heap.size := by simp; omega
  generalize (((w.setCell ⟨h, 0, none⟩ (.int .u8 49)).setCell ⟨h, 1, none⟩ (.int .u8 101)).alloc (.cells #[.int .u8 49] 5)).alloc (.cells #[.int .u8 101] 5) = W2 at *
  clear a0 b0 a1 b1 a2 b2 a3 b3 a4 b4 a5 b5 hg hd
  obtain ⟨a2, b2⟩ := hr2 2 (by decide)
  obtain ⟨a3, b3⟩ := hr2 3 (by decide)
  obtain ⟨a4, b4⟩ := hr2 4 (by decide)
  obtain ⟨a5, b5⟩ := hr2 5 (by decide)
  have HR2 := Lib.hid hr2
  have HB2 := Lib.hid hb2
  clear hr2 hb2 HR hh
  go_wp2_with fail
  go_ret
  refine ⟨rfl, ?_, ?_⟩
  · exact (((((HR2.out.set 2 43 (by decide)).set 3 51 (by decide)).set 4 48 (by decide)).set 5 48 (by decide)).below ((Below.refl _ _).alloc (Nat.le_refl _) _)).below ((Below.refl _ _).alloc (Nat.le_refl _) _)
  · exact (((((HB2.out.setCell (p := ⟨h, 2, none⟩) (Nat.le_refl _) _).setCell (p := ⟨h, 3, none⟩) (Nat.le_refl _) _).setCell (p := ⟨h, 4, none⟩) (Nat.le_refl _) _).setCell (p := ⟨h, 5, none⟩) (Nat.le_refl _) _).alloc (by simp; omega) _).alloc (by simp; omega) _
end Go.Proofs.YtkodhaapllmdhaaDoor
