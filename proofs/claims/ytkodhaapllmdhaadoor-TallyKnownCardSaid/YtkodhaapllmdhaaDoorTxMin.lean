/- Text at -0, NaN and the infinities. -/
import Derived.Test.YtkodhaapllmdhaaDoorStr8
import Derived.Deep.Cut
namespace Go.Proofs.YtkodhaapllmdhaaDoor
open Go.RowKit Rk
set_option maxHeartbeats 3200000 in
set_option maxRecDepth 100000 in
theorem efg_minus (h : Nat) (w : World) (f : Nat → Nat) (hR : RowB w h 24 f) :
    Calls Tryd.prog 58 #[.slice (some ⟨h, 0, none⟩) 0 24, .bool true, .slice none 0 0, .int .i64 0, .int .i64 0, .int .i64 (-1), .int .u8 103, .bool true] w fun e w' => e = .returned (.slice (some ⟨h, 0, none⟩) 2 24) ∧ RowB w' h 24 (upd (upd f 0 45) 1 48) ∧ Below h w w' := by
  obtain ⟨a0, b0⟩ := hR 0 (by decide)
  obtain ⟨a1, b1⟩ := hR 1 (by decide)
  have hh : h < w.heap.size := World.block_lt_of_cell? _ _ a0
  have m0 : max (0 : Int) 0 = 0 := by decide
  have m1 : min (0 : Int) 0 = 0 := by decide
  have HR := Lib.hid hR
  clear hR
  go_enter Tryd.func58, Tryd.ntmps58
  go_wp2_with fail
  go_ret
  refine ⟨rfl, ?_, ?_⟩
  · exact (((HR.out.set 0 45 (by decide)).set 1 48 (by decide)).below ((Below.refl _ _).alloc (Nat.le_refl _) _)).below ((Below.refl _ _).alloc (Nat.le_refl _) _)
  · exact ((((Below.refl h w).setCell (p := ⟨h, 0, none⟩) (Nat.le_refl _) _).setCell (p := ⟨h, 1, none⟩) (Nat.le_refl _) _).alloc (by simp; omega) _).alloc (by simp; omega) _
set_option maxHeartbeats 3200000 in
set_option maxRecDepth 100000 in
theorem ftoa_minus (h : Nat) (w : World) (f : Nat → Nat) (hR : RowB w h 24 f) :
    Calls Tryd.prog 43 #[.slice (some ⟨h, 0, none⟩) 0 24, .float .f64 9223372036854775808, .int .u8 103, .int .i64 (-1)] w fun e w' => e = .returned (.slice (some ⟨h, 0, none⟩) 2 24) ∧ RowB w' h 24 (upd (upd f 0 45) 1 48) ∧ Below h w w' := by
  have hb : ∀ w, (callFunc 55 #[.float .f64 9223372036854775808]).run Tryd.prog w = .ok (.value (.int .u64 9223372036854775808)) w := fun w => sbits_of 9223372036854775808 w
  have a1 : bits .and .i64 2048 2047 = 0 := by decide +kernel
  have a2 : bits .and .u64 9223372036854775808 4503599627370495 = 0 := by decide +kernel
  go_enter Tryd.func43, Tryd.ntmps43
  go_wp2_with fail
  refine region_fam (by kernel_rfl) (by kernel_rfl) ?_
  intro ι hι F' hF hX
  repeat (go_big_quiet_step (fail))
  refine wpQuiet_nil ?_
  rintro _ ⟨n, rfl⟩
  have HB := hF n
  generalize F' n = W2 at *
  clear hF hX n F' hι
  have hR2 := hR.below HB
  have hg := World.block_lt_of_cell? _ _ (hR 0 (by decide)).1
  simp only at hg
  have hB2 : Below h w W2 := HB.mono (Nat.le_of_lt hg)
  have hg2 : h < W2.heap.size := Nat.lt_of_lt_of_le hg HB.size
  clear HB hR hg
  have HR2 := Lib.hid hR2
  have HB2 := Lib.hid hB2
  clear hR2 hB2
  go_wp2_with fail
  refine (efg_minus h W2 f HR2.out).mono ?_
  rintro r W6 ⟨rfl, hR6, hb6⟩
  have HR6 := Lib.hid hR6
  have HB6 := Lib.hid (HB2.out.trans hb6)
  clear hR6 hb6
  go_wp2_with fail
  go_ret
  exact ⟨rfl, HR6.out, HB6.out⟩
set_option maxHeartbeats 1600000 in
set_option maxRecDepth 100000 in
theorem format_minus (w : World) :
    Calls Tryd.prog 39 #[.float .f64 9223372036854775808, .int .u8 103, .int .i64 (-1), .int .i64 64] w fun e w' => e = .returned (.string { data := #[45, 48] }) ∧ Below w.heap.size w w' := by
  obtain ⟨w1, hm, hR, hB⟩ := made_bytes w
  have mx : max (3 : Int) 24 = 24 := by decide
  have HF := ftoa_minus w.heap.size w1 _ hR
  have HF' := Lib.hid HF
  have HB := Lib.hid hB
  clear HF hR hB
  go_enter Tryd.func39, Tryd.ntmps39
  go_wp2_with fail
  refine HF'.out.mono ?_
  rintro r w2 ⟨rfl, hR2, hB2⟩
  have hs := said_row hR2 2 24 (by decide) [45, 48] rfl (by decide)
  have HB2 := Lib.hid (HB.out.trans hB2)
  clear hR2 hB2 HB HF'
  go_wp2_with fail
  go_ret
  exact ⟨rfl, HB2.out⟩
theorem strconv_minus (w : World) :
    Calls Tryd.prog 32 #[.float .f64 9223372036854775808, .int .u8 103, .int .i64 (-1), .int .i64 64] w fun e w' => e = .returned (.string { data := #[45, 48] }) ∧ Below w.heap.size w w' := by
  have HF := Lib.hid (format_minus w)
  go_enter Tryd.func32, Tryd.ntmps32
  go_wp2_with fail
  refine HF.out.mono ?_
  rintro r w2 ⟨rfl, hB⟩
  go_wp2_with fail
  go_ret
  exact ⟨rfl, hB⟩
set_option maxHeartbeats 1600000 in
set_option maxRecDepth 100000 in
theorem text_minus (w : World) :
    Calls Tryd.prog 16 #[.float .f64 9223372036854775808] w fun e w' => e = .returned (.string { data := #[45, 48] }) ∧ Below w.heap.size w w' := by
  have HF := Lib.hid (strconv_minus w)
  go_enter Tryd.func16, Tryd.ntmps16
  go_wp2_with fail
  refine (isnan_any 9223372036854775808 (by decide) _).mono ?_
  rw [show nanB 9223372036854775808 = false by decide +kernel]
  rintro r w' ⟨rfl, rfl⟩
  go_wp2_with fail
  refine (isinf_pos 9223372036854775808 (by decide) _).mono ?_
  rw [show decide ((9223372036854775808 : Nat) = 2047 * 2 ^ 52) = false by decide +kernel]
  rintro r w' ⟨rfl, rfl⟩
  go_wp2_with fail
  refine (isinf_neg 9223372036854775808 false (by decide) (by decide +kernel) _).mono ?_
  rintro r w' ⟨rfl, rfl⟩
  go_wp2_with fail
  refine HF.out.mono ?_
  rintro r w2 ⟨rfl, hB⟩
  go_wp2_with fail
  go_ret
  exact ⟨rfl, hB⟩

set_option maxRecDepth 100000 in
theorem text_nan (b : Nat) (hb : b < 2 ^ 64) (hn : nanB b = true) (w : World) :
    Calls Tryd.prog 16 #[.float .f64 b] w fun e w' => e = .returned (.string { data := #[110, 97, 110] }) ∧ w = w' := by
  have H := Lib.hid (fun w => isnan_any b hb w)
  rw [hn] at H
  clear hb hn
  go_enter Tryd.func16, Tryd.ntmps16
  go_wp2_with fail
  refine (H.out _).mono ?_
  rintro r w' ⟨rfl, rfl⟩
  go_wp2_with fail
  go_ret
  exact ⟨rfl, rfl⟩
set_option maxRecDepth 100000 in
theorem text_inf (w : World) :
    Calls Tryd.prog 16 #[.float .f64 9218868437227405312] w fun e w' => e = .returned (.string { data := #[105, 110, 102] }) ∧ w = w' := by
  go_enter Tryd.func16, Tryd.ntmps16
  go_wp2_with fail
  refine (isnan_any 9218868437227405312 (by decide) _).mono ?_
  rw [show nanB 9218868437227405312 = false by decide +kernel]
  rintro r w' ⟨rfl, rfl⟩
  go_wp2_with fail
  refine (isinf_pos 9218868437227405312 (by decide) _).mono ?_
  rw [show decide ((9218868437227405312 : Nat) = 2047 * 2 ^ 52) = true by decide +kernel]
  rintro r w' ⟨rfl, rfl⟩
  go_wp2_with fail
  go_ret
  exact ⟨rfl, rfl⟩
set_option maxRecDepth 100000 in
theorem text_ninf (w : World) :
    Calls Tryd.prog 16 #[.float .f64 18442240474082181120] w fun e w' => e = .returned (.string { data := #[45, 105, 110, 102] }) ∧ w = w' := by
  go_enter Tryd.func16, Tryd.ntmps16
  go_wp2_with fail
  refine (isnan_any 18442240474082181120 (by decide) _).mono ?_
  rw [show nanB 18442240474082181120 = false by decide +kernel]
  rintro r w' ⟨rfl, rfl⟩
  go_wp2_with fail
  refine (isinf_pos 18442240474082181120 (by decide) _).mono ?_
  rw [show decide ((18442240474082181120 : Nat) = 2047 * 2 ^ 52) = false by decide +kernel]
  rintro r w' ⟨rfl, rfl⟩
  go_wp2_with fail
  refine (isinf_neg 18442240474082181120 true (by decide) (by decide +kernel) _).mono ?_
  rintro r w' ⟨rfl, rfl⟩
  go_wp2_with fail
  go_ret
  exact ⟨rfl, rfl⟩
end Go.Proofs.YtkodhaapllmdhaaDoor
