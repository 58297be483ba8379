import Derived.Test.YtioghbhcdofnnaaDoorOct1
import Derived.Test.YtioghbhcdofnnaaDoorOct4
namespace Go.Proofs.YtioghbhcdofnnaaDoor
open Go.RowKit Sets
theorem bcell {W w1 : World} (hb : Below W.heap.size W w1) : (∀ b o, b < W.heap.size → w1.cell? ⟨b, o, none⟩ = W.cell? ⟨b, o, none⟩) ∧ (∀ b o, b < W.heap.size → w1.frozen? ⟨b, o, none⟩ = W.frozen? ⟨b, o, none⟩) :=
  ⟨fun b o h => hb.cell (p := ⟨b, o, none⟩) h, fun b o h => hb.frozen (p := ⟨b, o, none⟩) h⟩
/-- A set lies in block B. -/
structure SetAt (w : World) (B S : Nat) : Prop where
  c0 : w.cell? ⟨B, 0, none⟩ = some (.int .u64 (wd S 0))
  c1 : w.cell? ⟨B, 1, none⟩ = some (.int .u64 (wd S 1))
  c2 : w.cell? ⟨B, 2, none⟩ = some (.int .u64 (wd S 2))
  c3 : w.cell? ⟨B, 3, none⟩ = some (.int .u64 (wd S 3))
theorem SetAt.new (w : World) (S : Nat) (t : TypeId) : SetAt (w.alloc (.cells #[.int .u64 (wd S 0), .int .u64 (wd S 1), .int .u64 (wd S 2), .int .u64 (wd S 3)] t)) w.heap.size S :=
  ⟨by simp, by simp, by simp, by simp⟩
theorem SetAt.lt {w : World} {B S : Nat} (h : SetAt w B S) : B < w.heap.size := World.block_lt_of_cell? _ _ h.c0
theorem SetAt.kept {w w' : World} {A B S : Nat} (h : SetAt w B S) (hb : Below A w w') (hA : B < A) : SetAt w' B S :=
  ⟨(hb.cell hA).trans h.c0, (hb.cell hA).trans h.c1, (hb.cell hA).trans h.c2, (hb.cell hA).trans h.c3⟩
theorem SetAt.alloc {w : World} {B S : Nat} (h : SetAt w B S) (o : Obj) : SetAt (w.alloc o) B S := h.kept ((Below.refl _ _).alloc (Nat.le_refl _) o) h.lt
structure Abc (R : Nat) : Prop where
  b97 : R.testBit 97 = true
  lo : ∀ d, d < 97 → R.testBit d = false
  b98 : R.testBit 98 = true
  b100 : R.testBit 100 = false
  list : listN R = [97, 98, 99]
  cnt : cnt R = 3
  e0 : (((wd R 0 : Nat) : Int) == 0) = true
  e1 : (((wd R 1 : Nat) : Int) == 60129542144) = true
  e2 : (((wd R 2 : Nat) : Int) == 0) = true
  e3 : (((wd R 3 : Nat) : Int) == 0) = true
theorem abc : Abc (rangeN 97 99) := ⟨by decide +kernel, by decide +kernel, by decide +kernel, by decide +kernel, by decide +kernel, by decide +kernel, by decide +kernel, by decide +kernel, by decide +kernel, by decide +kernel⟩
theorem range_abc (w : World) :
    Calls Tryd.prog 8 #[.int .u8 97, .int .u8 99] w fun e w' =>
      ∃ R, e = .returned (.agg #[.int .u64 (wd R 0), .int .u64 (wd R 1), .int .u64 (wd R 2), .int .u64 (wd R 3)]) ∧ Abc R ∧ Below w.heap.size w w' :=
  (range_any 97 99 w (by decide) (by decide) (by decide) (by decide)).mono fun _ _ h => ⟨_, h.1, abc, h.2⟩
theorem bytesAt_new (w : World) (a b c : Nat) (ha : a < 256) (hb : b < 256) (hc : c < 256) : BytesAt (w.alloc (.cells #[.int .u8 a, .int .u8 b, .int .u8 c] 5)) (.slice (some ⟨w.heap.size, 0, none⟩) 3 3) [a, b, c] := by
  refine ⟨?_, by unfold maxLen; simp, _, _, rfl, ?_⟩
  · intro x hx; simp at hx; omega
  · intro i hi
    refine ⟨_, _, rfl, ?_⟩
    simp at hi
    have : i = 0 ∨ i = 1 ∨ i = 2 := by omega
    rcases this with rfl | rfl | rfl <;> simp
theorem of_abc (w : World) :
    Calls Tryd.prog 11 #[.slice (some ⟨w.heap.size, 0, none⟩) 3 3] (w.alloc (.cells #[.int .u8 97, .int .u8 0, .int .u8 255] 5)) fun e w' =>
      ∃ a0 a1 a2 a3 : Nat, e = .returned (.agg #[.int .u64 a0, .int .u64 a1, .int .u64 a2, .int .u64 a3]) ∧ ((a0 : Int) == 1) = true ∧ ((a1 : Int) == 8589934592) = true ∧ ((a2 : Int) == 0) = true ∧ ((a3 : Int) == 9223372036854775808) = true ∧ Below w.heap.size w w' :=
  (of_any _ [97, 0, 255] _ (bytesAt_new w 97 0 255 (by decide) (by decide) (by decide))).mono fun _ _ h => ⟨_, _, _, _, h.1, by decide +kernel, by decide +kernel, by decide +kernel, by decide +kernel, ((Below.refl _ _).alloc (Nat.le_refl _) _).trans (h.2.mono (by simp))⟩
set_option maxHeartbeats 1600000 in
set_option maxRecDepth 100000 in
theorem awake_any (w : World) (hT : Tab w) (hg : 0 < w.heap.size) :
    Calls Tryd.prog 15 #[] w fun e w' => e = .returned (.bool true) ∧ Below w.heap.size w w' := by
  go_enter Tryd.func15, Tryd.ntmps15
  go_wp2_with fail
  refine (range_abc _).mono ?_
  rintro e w1 ⟨R, rfl, HR, hb1⟩
  have hT1 := Lib.hid ((hT.below hb1 hg).below ((Below.refl _ _).alloc (Nat.le_refl _) (.cells #[.int .u64 (wd R 0), .int .u64 (wd R 1), .int .u64 (wd R 2), .int .u64 (wd R 3)] 24)) (Nat.lt_of_lt_of_le hg hb1.size))
  have hg1 : 0 < w1.heap.size := Nat.lt_of_lt_of_le hg hb1.size
  go_wp2_with fail
  refine (first_some R 97 _ (by decide) HR.b97 HR.lo hT1.out (by simp)).mono ?_
  rintro e w2 ⟨rfl, hb2⟩
  have hs2 := (SetAt.new w1 R 24).kept hb2 (by simp)
  have c0 := hs2.c0; have c1 := hs2.c1; have c2 := hs2.c2; have c3 := hs2.c3
  have hT2 := Lib.hid (hT1.out.below hb2 (by simp))
  have hg2 : w1.heap.size < w2.heap.size := by have := hb2.size; simp at this; omega
  have HB2 : Below w.heap.size w w2 := (hb1.trans (((Below.refl _ _).alloc (Nat.le_refl _) _).mono hb1.size)).trans (hb2.mono (by have := hb1.size; simp; omega))
  clear hb2 hT1
  go_wp2_with fail
  refine (list_bytes R _ hT2.out (by omega)).mono ?_
  rintro e w3 ⟨v, rfl, hby, hb3⟩
  have hs3 := hs2.kept hb3 hg2
  clear c0 c1 c2 c3
  have c0 := hs3.c0; have c1 := hs3.c1; have c2 := hs3.c2; have c3 := hs3.c3
  have hb3' := hb3.mono HB2.size
  have HB3 := HB2.trans hb3'
  have hg3 : w1.heap.size < w3.heap.size := Nat.lt_of_lt_of_le hg2 hb3.size
  rw [HR.list] at hby
  clear hb3'
  go_wp2_with fail
  refine (of_abc _).mono ?_
  rintro e w4 ⟨a0, a1, a2, a3, rfl, f0, f1, f2, f3, hb4⟩
  have hs4 := hs3.kept hb4 hg3
  obtain ⟨-, -, a, cap, rfl, hcells⟩ := hby.kept hb4
  obtain ⟨b, o, rfl, hcell⟩ := hcells 2 (by decide)
  have hcell : w4.cell? ⟨b, o + 2, none⟩ = some (.int .u8 99) := hcell
  have HB4 := HB3.trans (hb4.mono HB3.size)
  have hg4 : w1.heap.size < w4.heap.size := Nat.lt_of_lt_of_le hg3 hb4.size
  clear c0 c1 c2 c3 hcells hb3 hb4
  have c0 := hs4.c0; have c1 := hs4.c1; have c2 := hs4.c2; have c3 := hs4.c3
  have e0 := HR.e0; have e1 := HR.e1; have e2 := HR.e2; have e3 := HR.e3
  go_wp2_with fail
  refine (count_any R _).mono ?_
  rintro e w5 ⟨rfl, hb5⟩
  have hs5 := hs4.kept hb5 hg4
  have hcell5 := (hb5.cell (World.block_lt_of_cell? _ _ hcell)).trans hcell
  have HB5 := HB4.trans (hb5.mono HB4.size)
  have hg5 : w1.heap.size < w5.heap.size := Nat.lt_of_lt_of_le hg4 hb5.size
  rw [HR.cnt]
  clear c0 c1 c2 c3 hcell hb5
  have c0 := hs5.c0; have c1 := hs5.c1; have c2 := hs5.c2; have c3 := hs5.c3
  go_wp2_with fail
  refine (has_any R 98 _ (by decide) (by decide)).mono ?_
  rintro e w6 ⟨rfl, hb6⟩
  have hs6 := hs5.kept hb6 hg5
  have HB6 := HB5.trans (hb6.mono HB5.size)
  rw [show Int.toNat 98 = 98 from rfl, HR.b98]
  clear c0 c1 c2 c3 hb6
  have c0 := hs6.c0; have c1 := hs6.c1; have c2 := hs6.c2; have c3 := hs6.c3
  go_wp2_with fail
  refine (has_any R 100 _ (by decide) (by decide)).mono ?_
  rintro e w7 ⟨rfl, hb7⟩
  rw [show Int.toNat 100 = 100 from rfl, HR.b100]
  have HB7 := HB6.trans (hb7.mono HB6.size)
  go_wp2
  go_ret
  exact ⟨rfl, HB7⟩
end Go.Proofs.YtioghbhcdofnnaaDoor
