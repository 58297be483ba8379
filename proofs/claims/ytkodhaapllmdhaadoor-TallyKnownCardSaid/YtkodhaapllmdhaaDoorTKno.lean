/- TallyKnown. -/
import Derived.Test.YtkodhaapllmdhaaDoorTxSeven
import Derived.Test.YtkodhaapllmdhaaDoorTxBig
import Derived.Test.YtkodhaapllmdhaaDoorTxMin
import Derived.Test.YtkodhaapllmdhaaDoorRowM
import Derived.Deep.Cut
namespace Go.Proofs.YtkodhaapllmdhaaDoor
open Go.RowKit Rk Go.Sort
theorem tal_none : tal [] = ⟨0, 0, 9218868437227405312, 18442240474082181120, cano⟩ := by
  have e : srt [] = [] := srt_eq [] [] (by simp) (by simp) (by simp) (List.Perm.refl _)
  unfold tal pl; rw [e]; rfl
theorem tal_nan : tal [cano] = ⟨1, 1, 9218868437227405312, 18442240474082181120, cano⟩ := by
  have e : srt [cano] = [cano] := srt_eq [cano] [cano] (by decide +kernel) (by decide +kernel) (by decide +kernel) (List.Perm.refl _)
  have e2 : List.filter plainB [cano] = [] := by decide +kernel
  unfold tal pl; rw [e, e2]; rfl
theorem tal_minus : tal [9223372036854775808] = ⟨1, 0, 9223372036854775808, 9223372036854775808, 0⟩ := by
  rw [tal_one (by decide) (by decide +kernel)]
  have e : meanL [9223372036854775808] = 0 := by rw [mean_one _ (by decide) (by decide +kernel)]; rfl
  rw [e]
set_option maxHeartbeats 3200000 in
set_option maxRecDepth 100000 in
theorem tknown_any (w : World) (hT : Tabs w) :
    Calls Tryd.prog 3 #[] w fun e w' => e = .returned (.bool true) ∧ Below w.heap.size w w' := by
  have hst : ∀ b a m w, Sem.run Tryd.prog (store a (.float .f64 b) m) w = stored Tryd.prog w a (.float .f64 b) m := fun b a m w => run_store Tryd.prog w a _ m rfl
  have HT := Lib.hid hT
  have hn0 := fun w => of_is (.slice none 0 0) [] ⟨0, 0, 9218868437227405312, 18442240474082181120, cano⟩ w ⟨by simp, by simp [maxLen], none, 0, rfl, by simp⟩ (by simp) tal_none
  have hn1 := fun v w h => of_is v [cano] ⟨1, 1, 9218868437227405312, 18442240474082181120, cano⟩ w h (by simp) tal_nan
  have hn2 := fun v w h => of_is v [9223372036854775808] ⟨1, 0, 9223372036854775808, 9223372036854775808, 0⟩ w h (by simp) tal_minus
  have hs0 := fun w => same_refl ⟨0, 0, 9218868437227405312, 18442240474082181120, cano⟩ ⟨by decide, by decide, by decide⟩ w
  have hs1 := fun w => same_many ⟨0, 0, 9218868437227405312, 18442240474082181120, cano⟩ ⟨1, 1, 9218868437227405312, 18442240474082181120, cano⟩ (by simp) w
  simp only [Tl.val] at hn0 hn1 hn2 hs0 hs1
  have hfn := fun w : World => floats_new w [cano] 22 (by decide +kernel) (by simp)
  have hfm := fun w : World => floats_new w [9223372036854775808] 22 (by decide +kernel) (by simp)
  have hna := fun w => nan_is w
  have hnn := fun w => isnan_any cano (by decide) w
  rw [show nanB cano = true by decide +kernel] at hnn
  have hcn := fun w => compare_is cano 18442240474082181120 (-1) (by decide) (by decide) (by decide +kernel) w
  have hcc := fun w => compare_is cano cano 0 (by decide) (by decide) (cf_self _) w
  have htn := fun w => text_nan cano (by decide) (by decide +kernel) w
  generalize cano = z at *
  have N0 := Lib.hid hn0
  have N1 := Lib.hid hn1
  have N2 := Lib.hid hn2
  have S0 := Lib.hid hs0
  have S1 := Lib.hid hs1
  have FN := Lib.hid hfn
  have FM := Lib.hid hfm
  have NA := Lib.hid hna
  have NN := Lib.hid hnn
  have CN := Lib.hid hcn
  have CC := Lib.hid hcc
  have TN := Lib.hid htn
  clear hT hn0 hn1 hn2 hs0 hs1 hfn hfm hna hnn hcn hcc htn
  go_enter Tryd.func3, Tryd.ntmps3
  go_wp2_with fail
  refine (N0.out _).mono ?_
  rintro r w1 ⟨rfl, hB1⟩
  go_wp2_with fail
  have hHB1 := hB1.alloc hB1.size (.cells #[.int .i64 0, .int .i64 0, .float .f64 9218868437227405312, .float .f64 18442240474082181120, .float .f64 z] 24)
  have hT0 := World.cell?_alloc_new w1 #[.int .i64 0, .int .i64 0, .float .f64 9218868437227405312, .float .f64 18442240474082181120, .float .f64 z] 24
  have hg0 : w1.heap.size < (w1.alloc (.cells #[.int .i64 0, .int .i64 0, .float .f64 9218868437227405312, .float .f64 18442240474082181120, .float .f64 z] 24)).heap.size := by simp
  generalize w1.alloc (.cells #[.int .i64 0, .int .i64 0, .float .f64 9218868437227405312, .float .f64 18442240474082181120, .float .f64 z] 24) = v1 at *
  generalize w1.heap.size = g0 at *
  clear hB1
  refine (NA.out _).mono ?_
  rintro r w' ⟨rfl, rfl⟩
  go_wp2_with fail
  refine (N1.out _ _ (FN.out _)).mono ?_
  rintro r w2 ⟨rfl, hB2⟩
  have hBa : Below v1.heap.size v1 w2 := ((Below.refl _ v1).alloc (Nat.le_refl _) _).trans (hB2.mono (by simp))
  go_wp2_with fail
  have hHB2 := (hHB1.trans (hBa.mono hHB1.size)).alloc (Nat.le_trans hHB1.size hBa.size) (.cells #[.int .i64 1, .int .i64 1, .float .f64 9218868437227405312, .float .f64 18442240474082181120, .float .f64 z] 24)
  have hT1 := World.cell?_alloc_new w2 #[.int .i64 1, .int .i64 1, .float .f64 9218868437227405312, .float .f64 18442240474082181120, .float .f64 z] 24
  have hT0' := fun k => ((hBa.alloc hBa.size (.cells #[.int .i64 1, .int .i64 1, .float .f64 9218868437227405312, .float .f64 18442240474082181120, .float .f64 z] 24)).cell (p := ⟨g0, k, none⟩) hg0).trans (hT0 k)
  have hg1 : w2.heap.size < (w2.alloc (.cells #[.int .i64 1, .int .i64 1, .float .f64 9218868437227405312, .float .f64 18442240474082181120, .float .f64 z] 24)).heap.size := by simp
  have hg0' : g0 < (w2.alloc (.cells #[.int .i64 1, .int .i64 1, .float .f64 9218868437227405312, .float .f64 18442240474082181120, .float .f64 z] 24)).heap.size := Nat.lt_of_lt_of_le hg0 (Nat.le_trans hBa.size (by simp))
  generalize w2.alloc (.cells #[.int .i64 1, .int .i64 1, .float .f64 9218868437227405312, .float .f64 18442240474082181120, .float .f64 z] 24) = v2 at *
  generalize w2.heap.size = g1 at *
  clear hT0 hg0 hHB1 hB2 hBa
  refine (minus_is _).mono ?_
  rintro r w' ⟨rfl, rfl⟩
  go_wp2_with fail
  refine (N2.out _ _ (FM.out _)).mono ?_
  rintro r w3 ⟨rfl, hB3⟩
  have hBa : Below v2.heap.size v2 w3 := ((Below.refl _ v2).alloc (Nat.le_refl _) _).trans (hB3.mono (by simp))
  go_upto_region 4 with fail
  have hHB3 := (hHB2.trans (hBa.mono hHB2.size)).alloc (Nat.le_trans hHB2.size hBa.size) (.cells #[.int .i64 1, .int .i64 0, .float .f64 9223372036854775808, .float .f64 9223372036854775808, .float .f64 0] 24)
  have hT2 := World.cell?_alloc_new w3 #[.int .i64 1, .int .i64 0, .float .f64 9223372036854775808, .float .f64 9223372036854775808, .float .f64 0] 24
  have hT0 := fun k => ((hBa.alloc hBa.size (.cells #[.int .i64 1, .int .i64 0, .float .f64 9223372036854775808, .float .f64 9223372036854775808, .float .f64 0] 24)).cell (p := ⟨g0, k, none⟩) hg0').trans (hT0' k)
  have hT1' := fun k => ((hBa.alloc hBa.size (.cells #[.int .i64 1, .int .i64 0, .float .f64 9223372036854775808, .float .f64 9223372036854775808, .float .f64 0] 24)).cell (p := ⟨g1, k, none⟩) hg1).trans (hT1 k)
  have hg2 : w3.heap.size < (w3.alloc (.cells #[.int .i64 1, .int .i64 0, .float .f64 9223372036854775808, .float .f64 9223372036854775808, .float .f64 0] 24)).heap.size := by simp
  have hg1' : g1 < (w3.alloc (.cells #[.int .i64 1, .int .i64 0, .float .f64 9223372036854775808, .float .f64 9223372036854775808, .float .f64 0] 24)).heap.size := Nat.lt_of_lt_of_le hg1 (Nat.le_trans hBa.size (by simp))
  have hg0 : g0 < (w3.alloc (.cells #[.int .i64 1, .int .i64 0, .float .f64 9223372036854775808, .float .f64 9223372036854775808, .float .f64 0] 24)).heap.size := Nat.lt_of_lt_of_le hg0' (Nat.le_trans hBa.size (by simp))
  generalize w3.alloc (.cells #[.int .i64 1, .int .i64 0, .float .f64 9223372036854775808, .float .f64 9223372036854775808, .float .f64 0] 24) = v3 at *
  generalize w3.heap.size = g2 at *
  have a0 := hT0 0; have a1 := hT0 1; have a2 := hT0 2; have a3 := hT0 3; have a4 := hT0 4
  have b0 := hT1' 0; have b1 := hT1' 1; have b2 := hT1' 2; have b3 := hT1' 3; have b4 := hT1' 4
  have c0 := hT2 0; have c1 := hT2 1; have c2 := hT2 2; have c3 := hT2 3; have c4 := hT2 4
  simp only [List.getElem?_toArray, List.getElem?_cons_zero, List.getElem?_cons_succ] at a0 a1 a2 a3 a4 b0 b1 b2 b3 b4 c0 c1 c2 c3 c4
  clear hT0' hT0 hT1 hT1' hT2 hg0' hg1 hHB2 hB3 hBa
  have HB3 := Lib.hid hHB3
  clear hHB3
  go_wp2_with fail
  refine (isinf_pos 9218868437227405312 (by decide) _).mono ?_
  rw [show decide ((9218868437227405312 : Nat) = 2047 * 2 ^ 52) = true by decide +kernel]
  rintro r w' ⟨rfl, rfl⟩
  go_wp2_with fail
  refine (isinf_neg 18442240474082181120 true (by decide) (by decide +kernel) _).mono ?_
  rintro r w' ⟨rfl, rfl⟩
  go_wp2_with fail
  refine (NN.out _).mono ?_
  rintro r w' ⟨rfl, rfl⟩
  go_wp2_with fail
  refine (isinf_pos 9218868437227405312 (by decide) _).mono ?_
  rw [show decide ((9218868437227405312 : Nat) = 2047 * 2 ^ 52) = true by decide +kernel]
  rintro r w' ⟨rfl, rfl⟩
  go_wp2_with fail
  refine (NN.out _).mono ?_
  rintro r w' ⟨rfl, rfl⟩
  go_wp2_with fail
  refine (NA.out _).mono ?_
  rintro r w' ⟨rfl, rfl⟩
  go_wp2_with fail
  refine (inf_neg _).mono ?_
  rintro r w' ⟨rfl, rfl⟩
  go_wp2_with fail
  refine (CN.out _).mono ?_
  rintro r w' ⟨rfl, rfl⟩
  go_wp2_with fail
  refine (NA.out _).mono ?_
  rintro r w' ⟨rfl, rfl⟩
  go_wp2_with fail
  refine (NA.out _).mono ?_
  rintro r w' ⟨rfl, rfl⟩
  go_wp2_with fail
  refine (CC.out _).mono ?_
  rintro r w' ⟨rfl, rfl⟩
  go_wp2_with fail
  refine (compare_is 4611686018427387904 4607182418800017408 1 (by decide) (by decide) (by decide +kernel) _).mono ?_
  rintro r w' ⟨rfl, rfl⟩
  go_wp2_with fail
  refine (compare_is 0 0 0 (by decide) (by decide) (by decide +kernel) _).mono ?_
  rintro r w' ⟨rfl, rfl⟩
  go_wp2_with fail
  refine (minus_is _).mono ?_
  rintro r w' ⟨rfl, rfl⟩
  go_wp2_with fail
  refine (compare_is 0 9223372036854775808 1 (by decide) (by decide) (by decide +kernel) _).mono ?_
  rintro r w' ⟨rfl, rfl⟩
  go_wp2_with fail
  have HT3 := Lib.hid (HT.out.below HB3.out)
  refine region_fam (by kernel_rfl) (by kernel_rfl) ?_
  intro ι hι F' hF hX
  have qa0 := fun n => ((hF n).cell (p := ⟨g0, 0, none⟩) hg0).trans a0
  have qa1 := fun n => ((hF n).cell (p := ⟨g0, 1, none⟩) hg0).trans a1
  have qa2 := fun n => ((hF n).cell (p := ⟨g0, 2, none⟩) hg0).trans a2
  have qa3 := fun n => ((hF n).cell (p := ⟨g0, 3, none⟩) hg0).trans a3
  have qa4 := fun n => ((hF n).cell (p := ⟨g0, 4, none⟩) hg0).trans a4
  have qb0 := fun n => ((hF n).cell (p := ⟨g1, 0, none⟩) hg1').trans b0
  have qb1 := fun n => ((hF n).cell (p := ⟨g1, 1, none⟩) hg1').trans b1
  have qb2 := fun n => ((hF n).cell (p := ⟨g1, 2, none⟩) hg1').trans b2
  have qb3 := fun n => ((hF n).cell (p := ⟨g1, 3, none⟩) hg1').trans b3
  have qb4 := fun n => ((hF n).cell (p := ⟨g1, 4, none⟩) hg1').trans b4
  have qc0 := fun n => ((hF n).cell (p := ⟨g2, 0, none⟩) hg2).trans c0
  have qc1 := fun n => ((hF n).cell (p := ⟨g2, 1, none⟩) hg2).trans c1
  have qc2 := fun n => ((hF n).cell (p := ⟨g2, 2, none⟩) hg2).trans c2
  have qc3 := fun n => ((hF n).cell (p := ⟨g2, 3, none⟩) hg2).trans c3
  have qc4 := fun n => ((hF n).cell (p := ⟨g2, 4, none⟩) hg2).trans c4
  have HTF := Lib.hid (fun n => HT3.out.below (hF n))
  clear a0 a1 a2 a3 a4 b0 b1 b2 b3 b4 c0 c1 c2 c3 c4
  repeat (go_big_quiet_step (fail))
  go_big_quiet_step (first | (go_at_call 10; exact fam_call hF hX ((minus_is _).mono fun _ _ ⟨he, hw⟩ => ⟨he, hw ▸ Below.refl _ _⟩)))
  repeat (go_big_quiet_step (fail))
  go_big_quiet_step (first | (go_at_call 15; exact fam_call hF hX ((alike_is 9223372036854775808 9223372036854775808 true (by decide) (by decide) (by decide) _).mono fun _ _ ⟨he, hw⟩ => ⟨he, hw ▸ Below.refl _ _⟩)))
  repeat (go_big_quiet_step (fail))
  go_big_quiet_step (first | (go_at_call 15; exact fam_call hF hX ((alike_is 0 0 true (by decide) (by decide) (by decide) _).mono fun _ _ ⟨he, hw⟩ => ⟨he, hw ▸ Below.refl _ _⟩)))
  repeat (go_big_quiet_step (fail))
  go_big_quiet_step (first | (go_at_call 10; exact fam_call hF hX ((minus_is _).mono fun _ _ ⟨he, hw⟩ => ⟨he, hw ▸ Below.refl _ _⟩)))
  repeat (go_big_quiet_step (fail))
  go_big_quiet_step (first | (go_at_call 16; exact fam_call hF hX ((text_minus _).mono fun _ _ h => h)))
  repeat (go_big_quiet_step (fail))
  go_big_quiet_step (first | (go_at_call 16; exact fam_call hF hX ((text_big _ (HTF.out _)).mono fun _ _ h => h)))
  repeat (go_big_quiet_step (fail))
  go_big_quiet_step (first | (go_at_call 9; exact fam_call hF hX ((NA.out _).mono fun _ _ ⟨he, hw⟩ => ⟨he, hw ▸ Below.refl _ _⟩)))
  repeat (go_big_quiet_step (fail))
  go_big_quiet_step (first | (go_at_call 16; exact fam_call hF hX ((TN.out _).mono fun _ _ ⟨he, hw⟩ => ⟨he, hw ▸ Below.refl _ _⟩)))
  repeat (go_big_quiet_step (fail))
  go_big_quiet_step (first | (go_at_call 14; exact fam_call hF hX ((inf_neg _).mono fun _ _ ⟨he, hw⟩ => ⟨he, hw ▸ Below.refl _ _⟩)))
  repeat (go_big_quiet_step (fail))
  go_big_quiet_step (first | (go_at_call 16; exact fam_call hF hX ((text_ninf _).mono fun _ _ ⟨he, hw⟩ => ⟨he, hw ▸ Below.refl _ _⟩)))
  repeat (go_big_quiet_step (fail))
  go_big_quiet_step (first | (go_at_call 14; exact fam_call hF hX ((inf_pos _).mono fun _ _ ⟨he, hw⟩ => ⟨he, hw ▸ Below.refl _ _⟩)))
  repeat (go_big_quiet_step (fail))
  go_big_quiet_step (first | (go_at_call 16; exact fam_call hF hX ((text_inf _).mono fun _ _ ⟨he, hw⟩ => ⟨he, hw ▸ Below.refl _ _⟩)))
  repeat (go_big_quiet_step (fail))
  go_big_quiet_step (first | (go_at_call 16; exact fam_call hF hX ((text_seven _ (HTF.out _)).mono fun _ _ h => h)))
  repeat (go_big_quiet_step (fail))
  go_big_quiet_step (first | (go_at_call 8; exact fam_call hF hX ((N0.out _).mono fun _ _ h => h)))
  repeat (go_big_quiet_step (fail))
  go_big_quiet_step (first | (go_at_call 17; exact fam_call hF hX ((S0.out _).mono fun _ _ h => h)))
  repeat (go_big_quiet_step (fail))
  go_big_quiet_step (first | (go_at_call 17; exact fam_call hF hX ((S1.out _).mono fun _ _ h => h)))
  repeat (go_big_quiet_step (fail))
  go_big_quiet_step (first | (go_at_call 18; exact fam_call hF hX ((awake_any _ (HTF.out _)).mono fun _ _ h => h)))
  repeat (go_big_quiet_step (fail))
  refine wpQuiet_nil ?_
  rintro _ ⟨n, rfl⟩
  have HBn := hF n
  clear qa0 qa1 qa2 qa3 qa4 qb0 qb1 qb2 qb3 qb4 qc0 qc1 qc2 qc3 qc4 HTF
  generalize F' n = W4 at *
  clear hF hX n F' hι
  go_wp2_with fail
  go_ret
  exact ⟨rfl, HB3.out.trans (HBn.mono HB3.out.size)⟩
end Go.Proofs.YtkodhaapllmdhaaDoor
