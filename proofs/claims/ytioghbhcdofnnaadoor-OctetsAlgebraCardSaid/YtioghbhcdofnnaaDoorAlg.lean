import Derived.Test.YtioghbhcdofnnaaDoorFam
import Derived.Test.YtioghbhcdofnnaaDoorAwk
namespace Go.Proofs.YtioghbhcdofnnaaDoor
open Go.RowKit Sets
set_option maxHeartbeats 1600000 in
set_option maxRecDepth 100000 in
theorem algebra_any (A B C : Nat) (x : Int) (w : World) (hA : A < 2 ^ 256) (hBl : B < 2 ^ 256) (hx0 : 0 ≤ x) (hx1 : x ≤ 255) (hT : Tab w) (hg : 0 < w.heap.size) :
    Calls Tryd.prog 6 #[.agg #[.int .u64 (wd A 0), .int .u64 (wd A 1), .int .u64 (wd A 2), .int .u64 (wd A 3)], .agg #[.int .u64 (wd B 0), .int .u64 (wd B 1), .int .u64 (wd B 2), .int .u64 (wd B 3)], .agg #[.int .u64 (wd C 0), .int .u64 (wd C 1), .int .u64 (wd C 2), .int .u64 (wd C 3)], .int .u8 x] w fun e w' => e = .returned (.bool true) ∧ Below w.heap.size w w' := by
  go_enter Tryd.func6, Tryd.ntmps6
  go_wp2
  obtain ⟨W, hW⟩ : ∃ W, W = ((w.alloc (.cells #[.int .u64 (wd A 0), .int .u64 (wd A 1), .int .u64 (wd A 2), .int .u64 (wd A 3)] 24)).alloc (.cells #[.int .u64 (wd B 0), .int .u64 (wd B 1), .int .u64 (wd B 2), .int .u64 (wd B 3)] 24)).alloc (.cells #[.int .u64 (wd C 0), .int .u64 (wd C 1), .int .u64 (wd C 2), .int .u64 (wd C 3)] 24) := ⟨_, rfl⟩
  rw [← hW]
  have sA : SetAt W w.heap.size A := by subst hW; exact ((SetAt.new _ _ _).alloc _).alloc _
  have sB : SetAt W (w.heap.size + 1) B := by subst hW; simpa using (SetAt.new (w.alloc _) B _).alloc _
  have sC : SetAt W (w.heap.size + 1 + 1) C := by subst hW; simpa using (SetAt.new ((w.alloc _).alloc _) C _)
  have HB : Below w.heap.size w W := by subst hW; exact (((Below.refl _ _).alloc (Nat.le_refl _) _).alloc (by simp) _).alloc (by simp; omega) _
  have HT := Lib.hid (hT.below HB hg)
  have HB0 : w.heap.size ≤ W.heap.size := HB.size
  have hgW : 0 < W.heap.size := Nat.lt_of_lt_of_le hg HB0
  clear hW hT
  refine region_fam (by kernel_rfl) (by kernel_rfl) ?_
  intro ι hι F hF hX
  have hTF := fun n => Lib.hid (HT.out.below (hF n) hgW)
  have hgF := fun n => Nat.lt_of_lt_of_le hgW (hF n).size
  have kA := fun n => sA.kept (hF n) sA.lt
  have kB := fun n => sB.kept (hF n) sB.lt
  have kC := fun n => sC.kept (hF n) sC.lt
  have a0 := fun n => (kA n).c0; have a1 := fun n => (kA n).c1; have a2 := fun n => (kA n).c2; have a3 := fun n => (kA n).c3
  have b0 := fun n => (kB n).c0; have b1 := fun n => (kB n).c1; have b2 := fun n => (kB n).c2; have b3 := fun n => (kB n).c3
  have d0 := fun n => (kC n).c0; have d1 := fun n => (kC n).c1; have d2 := fun n => (kC n).c2; have d3 := fun n => (kC n).c3
  have e1 : A &&& (B ||| C) = (A &&& B) ||| (A &&& C) := Nat.and_or_distrib_left ..
  have e2 := de_morgan A B hA hBl
  have e3 := not_not_set A
  repeat (go_big_quiet_step (first
    | (go_at_call 20; exact fam_call hF hX (or_any _ _ _))
    | (go_at_call 18; exact fam_call hF hX (and_any _ _ _))
    | (go_at_call 10; exact fam_call hF hX (not_any _ _))
    | (go_at_call 13; exact fam_call hF hX (all_any _))
    | (go_at_call 12; exact fam_call hF hX (count_any _ _))
    | (go_at_call 15; exact fam_call hF hX (awake_any _ (hTF _).out (hgF _)))))
  refine wpQuiet_nil ?_
  rintro _ ⟨n, rfl⟩
  have sA := kA n; have sB := kB n; have sC := kC n
  have HB := HB.trans ((hF n).mono HB.size)
  have HT := hTF n
  have hgW := hgF n
  clear a0 a1 a2 a3 b0 b1 b2 b3 d0 d1 d2 d3 kA kB kC
  generalize F n = W2 at *
  clear hF hX hTF hgF n F hι
  clear e1 e2 e3
  go_wp2
  refine region_fam (by kernel_rfl) (by kernel_rfl) ?_
  intro ι hι F hF hX
  have hTF := fun n => Lib.hid (HT.out.below (hF n) hgW)
  have hgF := fun n => Nat.lt_of_lt_of_le hgW (hF n).size
  have kA := fun n => sA.kept (hF n) sA.lt
  have kB := fun n => sB.kept (hF n) sB.lt
  have kC := fun n => sC.kept (hF n) sC.lt
  have a0 := fun n => (kA n).c0; have a1 := fun n => (kA n).c1; have a2 := fun n => (kA n).c2; have a3 := fun n => (kA n).c3
  have b0 := fun n => (kB n).c0; have b1 := fun n => (kB n).c1; have b2 := fun n => (kB n).c2; have b3 := fun n => (kB n).c3
  have d0 := fun n => (kC n).c0; have d1 := fun n => (kC n).c1; have d2 := fun n => (kC n).c2; have d3 := fun n => (kC n).c3
  have e1 := and_not_set A hA
  have e2 := or_not_set A hA
  have e3 : A &&& A = A := Nat.and_self A
  have e4 : B ||| A = A ||| B := Nat.or_comm B A
  have e5 := and_full A hA
  have z0 := wd_zero 0; have z1 := wd_zero 1; have z2 := wd_zero 2; have z3 := wd_zero 3
  repeat (go_big_quiet_step (first
    | (go_at_call 20; exact fam_call hF hX (or_any _ _ _))
    | (go_at_call 18; exact fam_call hF hX (and_any _ _ _))
    | (go_at_call 10; exact fam_call hF hX (not_any _ _))
    | (go_at_call 13; exact fam_call hF hX (all_any _))
    | (go_at_call 12; exact fam_call hF hX (count_any _ _))
    | (go_at_call 15; exact fam_call hF hX (awake_any _ (hTF _).out (hgF _)))))
  refine wpQuiet_nil ?_
  rintro _ ⟨n, rfl⟩
  have sA := kA n; have sB := kB n; have sC := kC n
  have HB := HB.trans ((hF n).mono HB.size)
  have HT := hTF n
  have hgW := hgF n
  clear a0 a1 a2 a3 b0 b1 b2 b3 d0 d1 d2 d3 kA kB kC
  generalize F n = W2 at *
  clear hF hX hTF hgF n F hι
  clear e1 e2 e3 e4 e5 z0 z1 z2 z3
  have a0 := sA.c0; have a1 := sA.c1; have a2 := sA.c2; have a3 := sA.c3
  have b0 := sB.c0; have b1 := sB.c1; have b2 := sB.c2; have b3 := sB.c3
  have hx256 : x.toNat < 256 := by omega
  have t1 : (A &&& B).testBit x.toNat = (A.testBit x.toNat && B.testBit x.toNat) := Nat.testBit_and ..
  have t2 : (A ||| B).testBit x.toNat = (A.testBit x.toNat || B.testBit x.toNat) := Nat.testBit_or ..
  have t3 : (full ^^^ A).testBit x.toNat = !A.testBit x.toNat := by rw [Nat.testBit_xor, testBit_full]; simp [hx256]
  have cc := cnt_and_or A B
  have ca := cnt_le A; have cb := cnt_le B; have cd := cnt_le (A &&& B); have ce := cnt_le (A ||| B)
  cases hp : A.testBit x.toNat <;> cases hq : B.testBit x.toNat
  all_goals
    rw [hp, hq] at t1 t2
    rw [hp] at t3
    simp only [Bool.and_false, Bool.and_true, Bool.or_false, Bool.or_true, Bool.not_false, Bool.not_true] at t1 t2 t3
    have CC := Lib.hid cc
    clear hx256 cc
    go_wp2_with (first
      | (go_at_call 17; refine (has_any _ _ _ hx0 hx1).mono ?_; rintro e w' ⟨rfl, hb⟩; replace sA := sA.kept hb sA.lt; replace sB := sB.kept hb sB.lt; replace sC := sC.kept hb sC.lt; replace HB := HB.trans (hb.mono HB.size); replace HT := Lib.hid (HT.out.below hb hgW); replace hgW := Nat.lt_of_lt_of_le hgW hb.size; clear hb; replace a0 := sA.c0; replace a1 := sA.c1; replace a2 := sA.c2; replace a3 := sA.c3; replace b0 := sB.c0; replace b1 := sB.c1; replace b2 := sB.c2; replace b3 := sB.c3)
      | (go_at_call 18; refine (and_any _ _ _).mono ?_; rintro e w' ⟨rfl, hb⟩; replace sA := sA.kept hb sA.lt; replace sB := sB.kept hb sB.lt; replace sC := sC.kept hb sC.lt; replace HB := HB.trans (hb.mono HB.size); replace HT := Lib.hid (HT.out.below hb hgW); replace hgW := Nat.lt_of_lt_of_le hgW hb.size; clear hb; replace a0 := sA.c0; replace a1 := sA.c1; replace a2 := sA.c2; replace a3 := sA.c3; replace b0 := sB.c0; replace b1 := sB.c1; replace b2 := sB.c2; replace b3 := sB.c3)
      | (go_at_call 20; refine (or_any _ _ _).mono ?_; rintro e w' ⟨rfl, hb⟩; replace sA := sA.kept hb sA.lt; replace sB := sB.kept hb sB.lt; replace sC := sC.kept hb sC.lt; replace HB := HB.trans (hb.mono HB.size); replace HT := Lib.hid (HT.out.below hb hgW); replace hgW := Nat.lt_of_lt_of_le hgW hb.size; clear hb; replace a0 := sA.c0; replace a1 := sA.c1; replace a2 := sA.c2; replace a3 := sA.c3; replace b0 := sB.c0; replace b1 := sB.c1; replace b2 := sB.c2; replace b3 := sB.c3)
      | (go_at_call 10; refine (not_any _ _).mono ?_; rintro e w' ⟨rfl, hb⟩; replace sA := sA.kept hb sA.lt; replace sB := sB.kept hb sB.lt; replace sC := sC.kept hb sC.lt; replace HB := HB.trans (hb.mono HB.size); replace HT := Lib.hid (HT.out.below hb hgW); replace hgW := Nat.lt_of_lt_of_le hgW hb.size; clear hb; replace a0 := sA.c0; replace a1 := sA.c1; replace a2 := sA.c2; replace a3 := sA.c3; replace b0 := sB.c0; replace b1 := sB.c1; replace b2 := sB.c2; replace b3 := sB.c3))
    refine region_fam (by kernel_rfl) (by kernel_rfl) ?_
    intro ι hι F hF hX
    have hTF := fun n => Lib.hid (HT.out.below (hF n) hgW)
    have hgF := fun n => Nat.lt_of_lt_of_le hgW (hF n).size
    have kA := fun n => sA.kept (hF n) sA.lt
    have kB := fun n => sB.kept (hF n) sB.lt
    have kC := fun n => sC.kept (hF n) sC.lt
    have a0 := fun n => (kA n).c0; have a1 := fun n => (kA n).c1; have a2 := fun n => (kA n).c2; have a3 := fun n => (kA n).c3
    have b0 := fun n => (kB n).c0; have b1 := fun n => (kB n).c1; have b2 := fun n => (kB n).c2; have b3 := fun n => (kB n).c3
    have d0 := fun n => (kC n).c0; have d1 := fun n => (kC n).c1; have d2 := fun n => (kC n).c2; have d3 := fun n => (kC n).c3
    have hcc : (((cnt A : Int) + (cnt B : Int)) == ((cnt (A &&& B) : Int) + (cnt (A ||| B) : Int))) = true := by have := CC.out; rw [beq_iff_eq]; omega
    repeat (go_big_quiet_step (first
      | (go_at_call 20; exact fam_call hF hX (or_any _ _ _))
      | (go_at_call 18; exact fam_call hF hX (and_any _ _ _))
      | (go_at_call 10; exact fam_call hF hX (not_any _ _))
      | (go_at_call 13; exact fam_call hF hX (all_any _))
      | (go_at_call 12; exact fam_call hF hX (count_any _ _))
      | (go_at_call 15; exact fam_call hF hX (awake_any _ (hTF _).out (hgF _)))))
    refine wpQuiet_nil ?_
    rintro _ ⟨n, rfl⟩
    have HB := HB.trans ((hF n).mono HB.size)
    clear a0 a1 a2 a3 b0 b1 b2 b3 d0 d1 d2 d3 kA kB kC hF hX hTF hgF
    generalize F n = W2 at *
    go_wp2
    go_ret
    exact ⟨rfl, HB⟩
end Go.Proofs.YtioghbhcdofnnaaDoor
