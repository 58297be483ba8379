/- shibbolethlaw02: two, awake. -/
import Derived.Test.YtdhnaldjofpeeaaDoorSpl
namespace Go.Proofs.YtdhnaldjofpeeaaDoor
open Go.RowKit Sets Cls
/-- The sets of the chapter's example. -/
def L2 : List Nat := [ofN [97], rangeN 97 122]
theorem nh2 : nh (same L2) 256 = 3 := by decide +kernel
theorem cls2 : cls (same L2) 0 = 0 ∧ cls (same L2) 97 = 1 ∧ cls (same L2) 98 = 2 ∧ cls (same L2) 122 = 2 := by decide +kernel
theorem right_same (L : List Nat) : rightB (cls (same L)) (nh (same L) 256 : Nat) = true := by
  unfold rightB; rw [rgo_cls _ (same_eqv L)]; simp
theorem nh_le256 (L : List Nat) : nh (same L) 256 ≤ 256 := nh_le _ _
theorem cls_in (L : List Nat) (c : Nat) (hc : c < 256) : cls (same L) c < nh (same L) 256 := cls_lt_nh _ (same_eqv L) c 256 hc
theorem sets_two (w : World) (S T : Nat) : SetsIn (w.alloc (.cells #[.int .u64 (wd S 0), .int .u64 (wd S 1), .int .u64 (wd S 2), .int .u64 (wd S 3), .int .u64 (wd T 0), .int .u64 (wd T 1), .int .u64 (wd T 2), .int .u64 (wd T 3)] 31)) (.slice (some ⟨w.heap.size, 0, none⟩) 2 2) [S, T] := by
  refine ⟨by unfold maxLen; simp, _, _, rfl, Nat.le_refl _, fun i hi => ⟨_, _, rfl, fun q hq => ?_⟩⟩
  simp at hi
  have h1 : i = 0 ∨ i = 1 := by omega
  have h2 : q = 0 ∨ q = 1 ∨ q = 2 ∨ q = 3 := by omega
  rcases h1 with rfl | rfl <;> rcases h2 with rfl | rfl | rfl | rfl <;> simp
theorem bytesAt_one' (w : World) (c : Nat) (hc : c < 256) : BytesAt (w.alloc (.cells #[.int .u8 c] 5)) (.slice (some ⟨w.heap.size, 0, none⟩) 1 1) [c] := by
  refine ⟨?_, by unfold maxLen; simp, _, _, rfl, ?_⟩
  · intro x hx; simp at hx; omega
  · intro i hi
    refine ⟨_, _, rfl, ?_⟩
    have : i = 0 := by simpa using hi
    subst this
    simp
theorem range_az (w : World) : Calls Tryd.prog 12 #[.int .u8 97, .int .u8 122] w fun e w' =>
      e = .returned (.agg #[.int .u64 (wd (rangeN 97 122) 0), .int .u64 (wd (rangeN 97 122) 1), .int .u64 (wd (rangeN 97 122) 2), .int .u64 (wd (rangeN 97 122) 3)]) ∧ Below w.heap.size w w' :=
  range_any 97 122 w (by decide) (by decide) (by decide) (by decide)
theorem of97 (w : World) (g : Nat) (h : g = w.heap.size) : Calls Tryd.prog 13 #[.slice (some ⟨g, 0, none⟩) 1 1] (w.alloc (.cells #[.int .u8 97] 5)) fun e w' =>
      e = .returned (.agg #[.int .u64 (wd (ofN [97]) 0), .int .u64 (wd (ofN [97]) 1), .int .u64 (wd (ofN [97]) 2), .int .u64 (wd (ofN [97]) 3)]) ∧ Below w.heap.size w w' := by
  subst h
  exact (of_any _ [97] _ (bytesAt_one' w 97 (by decide))).mono fun _ _ h => ⟨h.1, ((Below.refl _ _).alloc (Nat.le_refl _) _).trans (h.2.mono (by simp))⟩
theorem refine2 (w : World) (g : Nat) (h : g = w.heap.size) : Calls Tryd.prog 10 #[.slice (some ⟨g, 0, none⟩) 2 2]
    (w.alloc (.cells #[.int .u64 (wd (ofN [97]) 0), .int .u64 (wd (ofN [97]) 1), .int .u64 (wd (ofN [97]) 2), .int .u64 (wd (ofN [97]) 3), .int .u64 (wd (rangeN 97 122) 0), .int .u64 (wd (rangeN 97 122) 1), .int .u64 (wd (rangeN 97 122) 2), .int .u64 (wd (rangeN 97 122) 3)] 31)) fun e w' =>
      e = .returned (.agg (partC (cls (same L2)) 3)) ∧ Below w.heap.size w w' := by
  subst h
  have := Refine_any _ L2 _ (sets_two w (ofN [97]) (rangeN 97 122)) (by decide)
  rw [nh2] at this
  exact this.mono fun _ _ h => ⟨h.1, ((Below.refl _ _).alloc (Nat.le_refl _) _).trans (h.2.mono (by simp))⟩
set_option maxHeartbeats 1600000 in
set_option maxRecDepth 100000 in
theorem two_any (w : World) : Calls Tryd.prog 8 #[] w fun e w' => e = .returned (.agg (partC (cls (same L2)) 3)) ∧ Below w.heap.size w w' := by
  have hz := zeroP
  have hP : PartAt (w.alloc (.cells (partC (fun _ => 0) 0) 24)) w.heap.size (fun _ => 0) 0 := PartAt.new w _ _
  have hB : Below w.heap.size w (w.alloc (.cells (partC (fun _ => 0) 0) 24)) := (Below.refl _ _).alloc (Nat.le_refl _) _
  go_enter Tryd.func8, Tryd.ntmps8
  go_wp2_with fail
  refine (of97 _ _ (by simp)).mono ?_
  rintro e w1 ⟨rfl, hb1⟩
  have hP1 := hP.kept hb1 hP.lt
  have hB1 := hB.trans (hb1.mono hB.size)
  have hl1 := hP1.lt
  clear hP hB hb1
  go_wp2_with fail
  refine (range_az _).mono ?_
  rintro e w2 ⟨rfl, hb2⟩
  have hP2 := hP1.kept hb2 hl1
  have hB2 := hB1.trans (hb2.mono hB1.size)
  have hl2 := hP2.lt
  clear hP1 hB1 hb2 hl1
  go_wp2_with fail
  refine (refine2 _ _ rfl).mono ?_
  rintro e w3 ⟨rfl, hb3⟩
  have hP3 := hP2.kept hb3 hl2
  have hB3 := hB2.trans (hb3.mono hB2.size)
  clear hP2 hB2 hb3 hl2 hz
  go_wp2_with (refine wpList_store_row rfl 24 (.tmp 0) (.tmp 5) rfl w.heap.size (partC (cls (same L2)) 3) rfl rfl 24 (partC (fun _ => 0) 0) hP3 (sizeP _ _) (by rw [partC_size, partC_size]) (partC_one _ _) ?_)
  have h3 : (w3.setRow w.heap.size (partC (cls (same L2)) 3)).heap[w.heap.size]? = some (.cells (partC (cls (same L2)) 3) 24 (0, 0)) := setRow_heap w3 _ _ _ _ _ hP3
  refine bodyPost_ret (v := .agg (partC (cls (same L2)) 3)) (results_cell_row (p := 0) Tryd.results8 _ _ w.heap.size 24 _ (0, 0) _ rfl h3 Tryd.underlying24 rfl (sizeP _ _)) rfl ⟨rfl, ?_⟩
  exact hB3.trans ⟨rfl, rfl, rfl, by simp, fun k hk => setRow_other _ _ _ _ (by omega)⟩
/-- The least two of each class. -/
theorem least2 : ((List.range 3).map fun j => (listN (clsSet (cls (same L2)) 256 j)).take (2 : Int).toNat) = [[0, 1], [97], [98, 99]] := by decide +kernel
set_option maxHeartbeats 1600000 in
set_option maxRecDepth 100000 in
theorem awake_any (w : World) (hT : Tab w) (hg : 0 < w.heap.size) : Calls Tryd.prog 17 #[] w fun e w' => e = .returned (.bool true) ∧ Below w.heap.size w w' := by
  have hz := zeroP
  have hr2 := right_same L2
  rw [nh2] at hr2
  have hin : ∀ c, c < 256 → cls (same L2) c < 3 := fun c hc => by have := cls_in L2 c hc; rw [nh2] at this; exact this
  go_enter Tryd.func17, Tryd.ntmps17
  go_wp2_with fail
  refine (two_any _).mono ?_
  rintro e w1 ⟨rfl, hb1⟩
  have hP1 : PartAt (w1.alloc (.cells (partC (fun _ => 0) 0) 24)) w1.heap.size (fun _ => 0) 0 := PartAt.new w1 _ _
  have hP2 := PartAt.new w1 (cls (same L2)) 3
  have hB2 : Below w.heap.size w (w1.alloc (.cells (partC (cls (same L2)) 3) 24)) := hb1.alloc hb1.size _
  have hsr := World.setRow_alloc_new w1 (partC (fun _ => 0) 0) (partC (cls (same L2)) 3) 24
  have hl2 := hP2.lt
  generalize w1.alloc (.cells (partC (cls (same L2)) 3) 24) = w2 at *
  have hT2 := Lib.hid (hT.below hB2 hg)
  have hg2 : 0 < w2.heap.size := by omega
  have hgw1 : w.heap.size ≤ w1.heap.size := hb1.size
  clear hb1
  go_wp2_with (first
    | (refine wpList_store_row rfl 24 (.tmp 1) (.tmp 3) rfl w1.heap.size (partC (cls (same L2)) 3) rfl rfl 24 (partC (fun _ => 0) 0) hP1 (sizeP _ _) (by rw [partC_size, partC_size]) (partC_one _ _) ?_; rw [hsr])
    | (refine wpList_load_row rfl 24 (.tmp 1) rfl w1.heap.size rfl 24 (partC (cls (same L2)) 3) (0, 0) _ hP2 Tryd.underlying24 rfl (sizeP _ _) ?_))
  have hle := least_any (cls (same L2)) 3 2 w2 (by decide) hin hr2 hT2.out hg2
  rw [least2] at hle
  refine hle.mono ?_
  rintro e w3 ⟨g, rfl, hgg, hrow, hb3⟩
  have hP3 := hP2.kept hb3 hl2
  have hB3 := hB2.trans (hb3.mono hB2.size)
  have hl3 := hP3.lt
  have c0 := hP3.cell 0 (by decide)
  have c97 := hP3.cell 97 (by decide)
  have c98 := hP3.cell 98 (by decide)
  have c122 := hP3.cell 122 (by decide)
  have cN := hP3.cellN
  rw [cls2.1] at c0
  rw [cls2.2.1] at c97
  rw [cls2.2.2.1] at c98
  rw [cls2.2.2.2] at c122
  have hri := right_any (cls (same L2)) 3 w3 (fun c hc => Nat.lt_of_lt_of_le (hin c hc) (by decide))
  have hr3 : rightB (cls (same L2)) 3 = true := hr2
  rw [hr3] at hri
  have HRI := Lib.hid hri
  clear hle hin hr2 hr3 hri hsr hP1 hP2 hb3 hz
  have hgl := hrow.lt
  go_wp2
  refine wp_load_row 24 (.tmp 1) rfl w1.heap.size rfl 24 (partC (cls (same L2)) 3) (0, 0) _ hP3 Tryd.underlying24 rfl (sizeP _ _) ?_
  go_wp2_with (go_at_call 15; refine HRI.out.mono ?_; rintro e w4 ⟨rfl, hb4⟩; have hrow4 := hrow.kept hb4; have hB4 := hB3.trans (hb4.mono hB3.size); obtain ⟨v0, hv0, hy0⟩ := hrow4.at 0 (by decide); obtain ⟨v1, hv1, hy1⟩ := hrow4.at 1 (by decide); obtain ⟨v2, hv2, hy2⟩ := hrow4.at 2 (by decide); obtain ⟨-, -, a0, p0, rfl, -⟩ := hy0; obtain ⟨-, -, a1, p1, rfl, -⟩ := hy1; obtain ⟨-, -, a2, p2, rfl, hq2⟩ := hy2; obtain ⟨b2, o2, rfl, hc2⟩ := hq2 1 (by decide); clear hq2 hb4)
  go_ret
  exact ⟨rfl, hB4⟩
end Go.Proofs.YtdhnaldjofpeeaaDoor
