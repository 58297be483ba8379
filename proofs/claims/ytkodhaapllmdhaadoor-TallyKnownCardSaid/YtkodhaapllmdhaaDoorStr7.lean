/- ftoa64 at 0.1. -/
import Derived.Test.YtkodhaapllmdhaaDoorStr6
namespace Go.Proofs.YtkodhaapllmdhaaDoor
open Go.RowKit
theorem sbits_of (b : Nat) (w : World) : (callFunc 55 #[.float .f64 b]).run Tryd.prog w = .ok (.value (.int .u64 (b : Int))) w := by
  rw [run_callFunc_extern Tryd.func55 (by kernel_rfl) (by kernel_rfl) (by kernel_rfl) (e := Extern.MathFloatBits.float64bits) (by kernel_rfl)]
  rfl
theorem short_tenth (w : World) (hT : Tabs w) :
    Calls Tryd.prog 67 #[.int .u64 14757395258967642112, .int .i64 (-67)] w fun r w' => r = .returned (.tuple #[.int .u64 1000000000000000, .int .i64 (-16)]) ∧ Below w.heap.size w w' :=
  short_norm 14757395258967642112 0 365 8 39999999999999999 40000000000000005 40000000000000003 10000000000000000 10000000000000001 (-67) 17 56 w hT (by decide) (by decide) (by decide) (by decide) (by decide) (by decide) (by decide) (by decide) (by decide) (by decide) (by decide)
    (by decide +kernel) (by decide +kernel) (by decide +kernel) (by decide) (by decide) (by decide) (by decide) (by decide) (by decide)
theorem digs_tenth (w : World) (hT : Tabs w) :
    Calls Tryd.prog 61 #[.int .u64 1000000000000000] w fun e w' => e = .returned (.int .i64 16) ∧ w = w' :=
  numdigits_is 1000000000000000 50 15 16 w hT (by decide) (by decide +kernel) (by decide) (by decide) (by decide +kernel)
theorem RowB.keep {w w' : World} {A g N : Nat} {f : Nat → Nat} (h : RowB w g N f) (hb : Below A w w') (hg : g < A) : RowB w' g N f := fun j hj => by
  obtain ⟨h1, h2⟩ := h j hj
  exact ⟨(hb.cell (p := ⟨g, j, none⟩) hg).trans h1, (hb.frozen (p := ⟨g, j, none⟩) hg).trans h2⟩
theorem row_new (w : World) (n : Nat) (t : TypeId) : RowB (w.alloc (.cells (List.replicate n (Value.int .u8 0)).toArray t)) w.heap.size n (fun _ => 0) := fun j hj => by
  refine ⟨?_, World.frozen?_alloc_new w _ _ _⟩
  rw [World.cell?_alloc_new]
  simp [hj]
set_option maxHeartbeats 3200000 in
set_option maxRecDepth 100000 in
theorem ftoa_tenth (h : Nat) (w : World) (hT : Tabs w) (f : Nat → Nat) (hR : RowB w h 24 f) :
    Calls Tryd.prog 43 #[.slice (some ⟨h, 0, none⟩) 0 24, .float .f64 4591870180066957722, .int .u8 103, .int .i64 (-1)] w fun e w' => e = .returned (.slice (some ⟨h, 0, none⟩) 3 24) ∧ RowB w' h 24 (upd (upd (upd f 0 48) 1 46) 2 49) ∧ Below h w w' := by
  have hb : ∀ w, (callFunc 55 #[.float .f64 4591870180066957722]).run Tryd.prog w = .ok (.value (.int .u64 4591870180066957722)) w := fun w => sbits_of 4591870180066957722 w
  have a1 : bits .and .i64 1019 2047 = 1019 := by decide +kernel
  have a2 : bits .and .u64 4591870180066957722 4503599627370495 = 2702159776422298 := by decide +kernel
  have a3 : bits .or .u64 2702159776422298 4503599627370496 = 7205759403792794 := by decide +kernel
  go_enter Tryd.func43, Tryd.ntmps43
  go_wp2_with fail
  refine region_fam (by kernel_rfl) (by kernel_rfl) ?_
  intro ι hι F' hF hX
  repeat (go_big_quiet_step (fail))
  refine wpQuiet_nil ?_
  rintro _ ⟨n, rfl⟩
  have HB := hF n
  generalize F' n = W2 at *
  clear hF hX n F' hι
  have hT2 := hT.below HB
  have hR2 := hR.below HB
  have hg := World.block_lt_of_cell? _ _ (hR 0 (by decide)).1
  simp only at hg
  have hB2 : Below h w W2 := HB.mono (Nat.le_of_lt hg)
  have hg2 : h < W2.heap.size := Nat.lt_of_lt_of_le hg HB.size
  clear HB hT hR hg
  have HT2 := Lib.hid hT2
  have HR2 := Lib.hid hR2
  have HB2 := Lib.hid hB2
  clear hT2 hR2 hB2
  go_wp2_with fail
  refine (len64_is 7205759403792794 (by decide) _).mono ?_
  rw [show Lib.bitLen 7205759403792794 = 53 by decide +kernel]
  rintro r w' ⟨rfl, rfl⟩
  go_wp2_with fail
  have hrb := row_new W2 32 76
  rw [show (List.replicate 32 (Value.int .u8 0)).toArray = #[.int .u8 0, .int .u8 0, .int .u8 0, .int .u8 0, .int .u8 0, .int .u8 0, .int .u8 0, .int .u8 0, .int .u8 0, .int .u8 0, .int .u8 0, .int .u8 0, .int .u8 0, .int .u8 0, .int .u8 0, .int .u8 0, .int .u8 0, .int .u8 0, .int .u8 0, .int .u8 0, .int .u8 0, .int .u8 0, .int .u8 0, .int .u8 0, .int .u8 0, .int .u8 0, .int .u8 0, .int .u8 0, .int .u8 0, .int .u8 0, .int .u8 0, .int .u8 0] by rfl] at hrb
  have hba : Below W2.heap.size W2 (W2.alloc (.cells #[.int .u8 0, .int .u8 0, .int .u8 0, .int .u8 0, .int .u8 0, .int .u8 0, .int .u8 0, .int .u8 0, .int .u8 0, .int .u8 0, .int .u8 0, .int .u8 0, .int .u8 0, .int .u8 0, .int .u8 0, .int .u8 0, .int .u8 0, .int .u8 0, .int .u8 0, .int .u8 0, .int .u8 0, .int .u8 0, .int .u8 0, .int .u8 0, .int .u8 0, .int .u8 0, .int .u8 0, .int .u8 0, .int .u8 0, .int .u8 0, .int .u8 0, .int .u8 0] 76)) := (Below.refl _ W2).alloc (Nat.le_refl _) _
  generalize W2.alloc (.cells #[.int .u8 0, .int .u8 0, .int .u8 0, .int .u8 0, .int .u8 0, .int .u8 0, .int .u8 0, .int .u8 0, .int .u8 0, .int .u8 0, .int .u8 0, .int .u8 0, .int .u8 0, .int .u8 0, .int .u8 0, .int .u8 0, .int .u8 0, .int .u8 0, .int .u8 0, .int .u8 0, .int .u8 0, .int .u8 0, .int .u8 0, .int .u8 0, .int .u8 0, .int .u8 0, .int .u8 0, .int .u8 0, .int .u8 0, .int .u8 0, .int .u8 0, .int .u8 0] 76) = W3 at *
  have hT3 := HT2.out.below hba
  have hR3 := HR2.out.below hba
  have hB3 : Below h w W3 := HB2.out.trans (hba.mono (Nat.le_of_lt hg2))
  have hs3 : W2.heap.size < W3.heap.size := World.block_lt_of_cell? _ _ (hrb 0 (by decide)).1
  clear HT2 HR2 HB2 hba
  generalize W2.heap.size = g at *
  clear W2
  refine (short_tenth W3 hT3).mono ?_
  rintro r W4 ⟨rfl, hb4⟩
  have hT4 := hT3.below hb4
  have hR4 := hR3.below hb4
  have hG4 := hrb.below hb4
  have hB4 : Below h w W4 := hB3.trans (hb4.mono (by omega))
  clear hT3 hR3 hrb hB3 hb4 hs3 W3
  have HT4 := Lib.hid hT4
  have HR4 := Lib.hid hR4
  have HG4 := Lib.hid hG4
  have HB4 := Lib.hid hB4
  clear hT4 hR4 hG4 hB4
  go_wp2_with fail
  refine region_mix [(false, 0), (false, 1), (false, 2), (false, 3), (true, 4), (true, 5), (false, 6), (false, 7), (false, 8), (false, 9)] (fun _ => True) (by kernel_rfl) (by kernel_rfl) trivial ?_
  simp only [planOps, List.map_cons, List.map_nil, List.getD_cons_zero, List.getD_cons_succ, List.length_cons, List.length_nil, List.drop_succ_cons, List.drop_zero]
  refine mix_seg (seg := [_, _, _, _]) rfl trivial ?_
  intro ι hι F hF
  repeat (first | (go_big_quiet_step (fail)))
  refine wpQuiet_nil ?_
  clear hF hι F
  have hT4 := HT4.out.below ((Below.refl _ W4).drew)
  have hR4 := HR4.out.below ((Below.refl _ W4).drew)
  have hG4 := HG4.out.below ((Below.refl _ W4).drew)
  have hB4 := HB4.out.drew
  generalize W4.drew = W4d at *
  refine mix_eff (fun K hK => ?_)
  go_wp2_with fail
  refine (digs_tenth W4d hT4).mono ?_
  rintro r w' ⟨rfl, rfl⟩
  go_wp2_with fail
  refine mix_on hK trivial ?_
  clear hK K
  refine mix_eff (fun K hK => ?_)
  go_wp2_with fail
  refine (setdigits_any g 32 16 32 1000000000000000 15 (-16) (fun _ => 0) W4d hG4 (by decide) (by decide) (by decide) (by decide) (by decide) (by decide) (by decide) (by decide) (by decide +kernel) (by decide)).mono ?_
  rintro r W5 ⟨rfl, hG5, hb5⟩
  go_wp2_with fail
  refine mix_on hK trivial ?_
  clear hK K
  refine mix_seg (seg := [_, _, _, _]) (rest := []) rfl trivial ?_
  intro ι hι F hF
  repeat (first | (go_big_quiet_step (fail)))
  refine wpQuiet_nil ?_
  clear hF hι F
  show wpList _ _ _ _ _ _
  go_wp2_with fail
  refine NoPanic.normal ?_
  have hd5 := (hG5 0 (by decide)).1
  rw [show ((fun j => if j < 16 then dg 1000000000000000 (16 - 1 - j) else (fun _ => 0) j) 0) = 49 by decide +kernel] at hd5
  have hR5 := hR4.keep hb5 hg2
  have hB5 : Below h w W5 := hB4.trans (hb5.mono (Nat.le_of_lt hg2))
  clear HT4 HR4 HG4 HB4 hT4 hR4 hG4 hB4 hG5 hb5 W4d
  have HD := Lib.hid hd5
  have HR5 := Lib.hid hR5
  have HB5 := Lib.hid hB5
  clear hd5 hR5 hB5
  go_wp2_with fail
  refine (efg_tenth g h W5 HD.out f HR5.out (by omega)).mono ?_
  rintro r W6 ⟨rfl, hR6, hb6⟩
  have HR6 := Lib.hid hR6
  have HB6 := Lib.hid (HB5.out.trans hb6)
  clear hR6 hb6
  go_wp2_with fail
  go_ret
  exact ⟨rfl, HR6.out, HB6.out⟩
end Go.Proofs.YtkodhaapllmdhaaDoor
