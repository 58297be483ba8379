/- Several texts in one. -/
import Derived.Test.YtdmnocjlmnkdhaaDoorPq20
import Derived.Test.YtdmnocjlmnkdhaaDoorPq14
import Derived.Laws.StructEq
namespace Go.Proofs.YtdmnocjlmnkdhaaDoor
open Go.RowKit Sets Nf
namespace Nf
def someM : Mc := ⟨[(ofN [97], 0), (ofN [98], 0), (ofN [99], 0)], [0], [[1, 2], [], []], [false, true, false], true⟩
theorem bytes_litN (w : World) (l : List Nat) (hl : ∀ x ∈ l, x < 256) (cs : Array Value) (hcs : cs = (l.map fun (c : Nat) => Value.int .u8 c).toArray) (hm : l.length ≤ 1000) : BytesAt (w.alloc (.cells cs 5)) (.slice (some ⟨w.heap.size, 0, none⟩) l.length l.length) l := by
  subst hcs
  refine ⟨hl, by unfold maxLen; omega, _, _, rfl, fun i hi => ⟨w.heap.size, 0, rfl, ?_⟩⟩
  rw [Nat.zero_add, World.cell?_alloc_new, List.getElem?_toArray, List.getElem?_map, List.getElem?_eq_getElem hi, List.getD_eq_getElem?_getD, List.getElem?_eq_getElem hi]; rfl
set_option maxHeartbeats 6400000 in
set_option maxRecDepth 100000 in
theorem some_any (w : World) :
    Calls Tryd.prog 11 #[] w fun e w' => ∃ x, e = .returned (.agg (mc x someM)) ∧ OwnM w.heap.size w' x someM ∧ Below w.heap.size w w' := by
  go_enter Tryd.func11, Tryd.ntmps11
  go_upto_region 1 with fail
  have HB1 := Lib.hid ((Below.refl w.heap.size w).alloc (Nat.le_refl _) (.cells #[.slice none 0 0, .slice none 0 0, .slice none 0 0, .slice none 0 0, .bool false] 27))
  have HR1 := Lib.hid (heap_alloc_new w (.cells #[.slice none 0 0, .slice none 0 0, .slice none 0 0, .slice none 0 0, .bool false] 27))
  obtain ⟨s, hs⟩ : ∃ s, Hid (w.heap.size = s) := ⟨_, Lib.hid rfl⟩
  rw [hs.out] at HB1 HR1 ⊢
  generalize w.alloc (.cells #[.slice none 0 0, .slice none 0 0, .slice none 0 0, .slice none 0 0, .bool false] 27) = w1 at *
  have HO1 := Lib.hid (of_any _ [97] _ (bytes_litN w1 [97] (by decide) #[.int .u8 97] rfl (by decide)))
  have HA1 : Hid (Below w1.heap.size w1 (w1.alloc (.cells #[.int .u8 97] 5))) := Lib.hid ((Below.refl _ _).alloc (Nat.le_refl _) _)
  go_wp2_with fail
  refine HO1.out.mono ?_
  rintro e w2 ⟨rfl, hb2⟩
  have HB2 := Lib.hid (HA1.out.trans (hb2.mono HA1.out.size))
  clear hb2 HO1 HA1
  have HO1 := Lib.hid (of_any _ [98] _ (bytes_litN w2 [98] (by decide) #[.int .u8 98] rfl (by decide)))
  have HA1 : Hid (Below w2.heap.size w2 (w2.alloc (.cells #[.int .u8 98] 5))) := Lib.hid ((Below.refl _ _).alloc (Nat.le_refl _) _)
  go_wp2_with fail
  refine HO1.out.mono ?_
  rintro e w3 ⟨rfl, hb3⟩
  have HB3 := Lib.hid (HA1.out.trans (hb3.mono HA1.out.size))
  clear hb3 HO1 HA1
  have HO1 := Lib.hid (of_any _ [99] _ (bytes_litN w3 [99] (by decide) #[.int .u8 99] rfl (by decide)))
  have HA1 : Hid (Below w3.heap.size w3 (w3.alloc (.cells #[.int .u8 99] 5))) := Lib.hid ((Below.refl _ _).alloc (Nat.le_refl _) _)
  go_wp2_with fail
  refine HO1.out.mono ?_
  rintro e w4 ⟨rfl, hb4⟩
  have HB4 := Lib.hid (HA1.out.trans (hb4.mono HA1.out.size))
  clear hb4 HO1 HA1
  have HC := Lib.hid (HB1.out.trans (((HB2.out.trans ((HB3.out.trans (HB4.out.mono HB3.out.size)).mono HB2.out.size))).mono (Nat.le_of_lt (Array.getElem?_eq_some_iff.1 HR1.out).1)))
  have HR4 := Lib.hid ((HB4.out.block s (by have := HB3.out.size; have := HB2.out.size; have := (Array.getElem?_eq_some_iff.1 HR1.out).1; omega)).trans ((HB3.out.block s (by have := HB2.out.size; have := (Array.getElem?_eq_some_iff.1 HR1.out).1; omega)).trans ((HB2.out.block s (Array.getElem?_eq_some_iff.1 HR1.out).1).trans HR1.out)))
  clear HB1 HB2 HB3 HB4 HR1
  obtain ⟨W1, hW1⟩ : ∃ W, W = w4.alloc (.cells #[.int .u64 (wd (ofN [97]) 0), .int .u64 (wd (ofN [97]) 1), .int .u64 (wd (ofN [97]) 2), .int .u64 (wd (ofN [97]) 3), .int .u8 0, .int .u64 (wd (ofN [98]) 0), .int .u64 (wd (ofN [98]) 1), .int .u64 (wd (ofN [98]) 2), .int .u64 (wd (ofN [98]) 3), .int .u8 0, .int .u64 (wd (ofN [99]) 0), .int .u64 (wd (ofN [99]) 1), .int .u64 (wd (ofN [99]) 2), .int .u64 (wd (ofN [99]) 3), .int .u8 0] 54) := ⟨_, rfl⟩
  obtain ⟨W2, hW2⟩ : ∃ W, W = W1.alloc (.cells #[.int .i64 0] 3) := ⟨_, rfl⟩
  obtain ⟨W3, hW3⟩ : ∃ W, W = W2.alloc (.cells #[.int .i64 1, .int .i64 2] 3) := ⟨_, rfl⟩
  obtain ⟨W4, hW4⟩ : ∃ W, W = W3.alloc (.cells #[] 3) := ⟨_, rfl⟩
  obtain ⟨W5, hW5⟩ : ∃ W, W = W4.alloc (.cells #[] 3) := ⟨_, rfl⟩
  obtain ⟨W6, hW6⟩ : ∃ W, W = W5.alloc (.cells #[.slice (some ⟨w4.heap.size + 1 + 1, 0, none⟩) 2 2, .slice (some ⟨w4.heap.size + 1 + 1 + 1, 0, none⟩) 0 0, .slice (some ⟨w4.heap.size + 1 + 1 + 1 + 1, 0, none⟩) 0 0] 23) := ⟨_, rfl⟩
  obtain ⟨W7, hW7⟩ : ∃ W, W = W6.alloc (.cells #[.bool false, .bool true, .bool false] 4) := ⟨_, rfl⟩
  have b1 : Below w4.heap.size w4 W1 := by rw [hW1]; exact (Below.refl _ _).alloc (Nat.le_refl _) _
  have z1 : W1.heap.size = w4.heap.size + 1 := by rw [hW1]; simp
  have b2 : Below W1.heap.size W1 W2 := by rw [hW2]; exact (Below.refl _ _).alloc (Nat.le_refl _) _
  have z2 : W2.heap.size = w4.heap.size + 1 + 1 := by rw [hW2]; simp [z1]
  have b3 : Below W2.heap.size W2 W3 := by rw [hW3]; exact (Below.refl _ _).alloc (Nat.le_refl _) _
  have z3 : W3.heap.size = w4.heap.size + 1 + 1 + 1 := by rw [hW3]; simp [z2]
  have b4 : Below W3.heap.size W3 W4 := by rw [hW4]; exact (Below.refl _ _).alloc (Nat.le_refl _) _
  have z4 : W4.heap.size = w4.heap.size + 1 + 1 + 1 + 1 := by rw [hW4]; simp [z3]
  have b5 : Below W4.heap.size W4 W5 := by rw [hW5]; exact (Below.refl _ _).alloc (Nat.le_refl _) _
  have z5 : W5.heap.size = w4.heap.size + 1 + 1 + 1 + 1 + 1 := by rw [hW5]; simp [z4]
  have b6 : Below W5.heap.size W5 W6 := by rw [hW6]; exact (Below.refl _ _).alloc (Nat.le_refl _) _
  have z6 : W6.heap.size = w4.heap.size + 1 + 1 + 1 + 1 + 1 + 1 := by rw [hW6]; simp [z5]
  have b7 : Below W6.heap.size W6 W7 := by rw [hW7]; exact (Below.refl _ _).alloc (Nat.le_refl _) _
  have z7 : W7.heap.size = w4.heap.size + 1 + 1 + 1 + 1 + 1 + 1 + 1 := by rw [hW7]; simp [z6]
  have hsz : s ≤ w4.heap.size := Nat.le_of_lt (Array.getElem?_eq_some_iff.1 HR4.out).1
  have sp0 : W1.ownsRow s 54 5 (.slice (some ⟨w4.heap.size, 0, none⟩) 3 3) 3 (#[.int .u64 (wd (ofN [97]) 0), .int .u64 (wd (ofN [97]) 1), .int .u64 (wd (ofN [97]) 2), .int .u64 (wd (ofN [97]) 3), .int .u8 0, .int .u64 (wd (ofN [98]) 0), .int .u64 (wd (ofN [98]) 1), .int .u64 (wd (ofN [98]) 2), .int .u64 (wd (ofN [98]) 3), .int .u8 0, .int .u64 (wd (ofN [99]) 0), .int .u64 (wd (ofN [99]) 1), .int .u64 (wd (ofN [99]) 2), .int .u64 (wd (ofN [99]) 3), .int .u8 0] : Array Value).toList := by rw [hW1]; exact World.ownsRow_lit w4 _ 3 (by omega) (by decide) rfl
  have spH := Lib.hid (own_stay (own_stay (own_stay (own_stay (own_stay (own_stay (sp0) b2) b3) b4) b5) b6) b7)
  clear sp0
  have fi0 : W2.ownsRow s 3 1 (.slice (some ⟨W1.heap.size, 0, none⟩) 1 1) 1 (#[.int .i64 0] : Array Value).toList := by rw [hW2]; exact World.ownsRow_lit W1 _ 1 (by omega) (by decide) rfl
  have fiH := Lib.hid (own_stay (own_stay (own_stay (own_stay (own_stay (fi0) b3) b4) b5) b6) b7)
  clear fi0
  rw [z1] at fiH
  have o00 : W3.ownsRow s 3 1 (.slice (some ⟨W2.heap.size, 0, none⟩) 2 2) 2 (#[.int .i64 1, .int .i64 2] : Array Value).toList := by rw [hW3]; exact World.ownsRow_lit W2 _ 2 (by omega) (by decide) rfl
  have o0H := Lib.hid (own_stay (own_stay (own_stay (own_stay (o00) b4) b5) b6) b7)
  clear o00
  rw [z2] at o0H
  have o10 : W4.ownsRow s 3 1 (.slice (some ⟨W3.heap.size, 0, none⟩) 0 0) 0 (#[] : Array Value).toList := by rw [hW4]; exact World.ownsRow_lit W3 _ 0 (by omega) (by decide) rfl
  have o1H := Lib.hid (own_stay (own_stay (own_stay (o10) b5) b6) b7)
  clear o10
  rw [z3] at o1H
  have o20 : W5.ownsRow s 3 1 (.slice (some ⟨W4.heap.size, 0, none⟩) 0 0) 0 (#[] : Array Value).toList := by rw [hW5]; exact World.ownsRow_lit W4 _ 0 (by omega) (by decide) rfl
  have o2H := Lib.hid (own_stay (own_stay (o20) b6) b7)
  clear o20
  rw [z4] at o2H
  have fo0 : W6.ownsRow s 23 1 (.slice (some ⟨W5.heap.size, 0, none⟩) 3 3) 3 (#[.slice (some ⟨w4.heap.size + 1 + 1, 0, none⟩) 2 2, .slice (some ⟨w4.heap.size + 1 + 1 + 1, 0, none⟩) 0 0, .slice (some ⟨w4.heap.size + 1 + 1 + 1 + 1, 0, none⟩) 0 0] : Array Value).toList := by rw [hW6]; exact World.ownsRow_lit W5 _ 3 (by omega) (by decide) rfl
  have foH := Lib.hid (own_stay (fo0) b7)
  clear fo0
  rw [z5] at foH
  have la0 : W7.ownsRow s 4 1 (.slice (some ⟨W6.heap.size, 0, none⟩) 3 3) 3 (#[.bool false, .bool true, .bool false] : Array Value).toList := by rw [hW7]; exact World.ownsRow_lit W6 _ 3 (by omega) (by decide) rfl
  have laH := Lib.hid (la0)
  clear la0
  rw [z6] at laH
  have bA : Below w4.heap.size w4 W7 := b1.trans ((b2.trans ((b3.trans ((b4.trans ((b5.trans ((b6.trans (b7.mono b6.size)).mono b5.size)).mono b4.size)).mono b3.size)).mono b2.size)).mono b1.size)
  have HRW := Lib.hid ((bA.block s (Array.getElem?_eq_some_iff.1 HR4.out).1).trans HR4.out)
  have HBW := Lib.hid (HC.out.trans (bA.mono hsz))
  have HMC : Hid ((mc ⟨some ⟨w4.heap.size, 0, none⟩, 3, some ⟨w4.heap.size + 1, 0, none⟩, 1, some ⟨w4.heap.size + 1 + 1 + 1 + 1 + 1, 0, none⟩, 3, some ⟨w4.heap.size + 1 + 1 + 1 + 1 + 1 + 1, 0, none⟩, 3⟩ someM) = #[.slice (some ⟨w4.heap.size, 0, none⟩) 3 3, .slice (some ⟨w4.heap.size + 1, 0, none⟩) 1 1, .slice (some ⟨w4.heap.size + 1 + 1 + 1 + 1 + 1, 0, none⟩) 3 3, .slice (some ⟨w4.heap.size + 1 + 1 + 1 + 1 + 1 + 1, 0, none⟩) 3 3, .bool true]) := Lib.hid rfl
  have HW : Hid (W7 = ((((((w4.alloc (.cells #[.int .u64 (wd (ofN [97]) 0), .int .u64 (wd (ofN [97]) 1), .int .u64 (wd (ofN [97]) 2), .int .u64 (wd (ofN [97]) 3), .int .u8 0, .int .u64 (wd (ofN [98]) 0), .int .u64 (wd (ofN [98]) 1), .int .u64 (wd (ofN [98]) 2), .int .u64 (wd (ofN [98]) 3), .int .u8 0, .int .u64 (wd (ofN [99]) 0), .int .u64 (wd (ofN [99]) 1), .int .u64 (wd (ofN [99]) 2), .int .u64 (wd (ofN [99]) 3), .int .u8 0] 54)).alloc (.cells #[.int .i64 0] 3)).alloc (.cells #[.int .i64 1, .int .i64 2] 3)).alloc (.cells #[] 3)).alloc (.cells #[] 3)).alloc (.cells #[.slice (some ⟨w4.heap.size + 1 + 1, 0, none⟩) 2 2, .slice (some ⟨w4.heap.size + 1 + 1 + 1, 0, none⟩) 0 0, .slice (some ⟨w4.heap.size + 1 + 1 + 1 + 1, 0, none⟩) 0 0] 23)).alloc (.cells #[.bool false, .bool true, .bool false] 4)) := Lib.hid (by rw [hW7, hW6, hW5, hW4, hW3, hW2, hW1])
  clear hW1 hW2 hW3 hW4 hW5 hW6 hW7 z1 z2 z3 z4 z5 z6 z7 b1 b2 b3 b4 b5 b6 b7 bA
  rw [HW.out] at HRW
  go_wp2_with (refine wpList_store_row rfl 27 (.tmp 0) (.tmp 17) rfl s #[.slice (some ⟨w4.heap.size, 0, none⟩) 3 3, .slice (some ⟨w4.heap.size + 1, 0, none⟩) 1 1, .slice (some ⟨w4.heap.size + 1 + 1 + 1 + 1 + 1, 0, none⟩) 3 3, .slice (some ⟨w4.heap.size + 1 + 1 + 1 + 1 + 1 + 1, 0, none⟩) 3 3, .bool true] rfl rfl 27 _ HRW.out (by kernel_rfl) rfl (by simp [Value.oneCell']) ?_)
  rw [← HW.out, ← HMC.out]
  rw [← HW.out] at HRW
  have HOW : OwnM s W7 ⟨some ⟨w4.heap.size, 0, none⟩, 3, some ⟨w4.heap.size + 1, 0, none⟩, 1, some ⟨w4.heap.size + 1 + 1 + 1 + 1 + 1, 0, none⟩, 3, some ⟨w4.heap.size + 1 + 1 + 1 + 1 + 1 + 1, 0, none⟩, 3⟩ someM := ⟨spH.out, fiH.out, ⟨_, rfl, foH.out, fun i hi => by
      have hi3 : i < 3 := hi
      have : i = 0 ∨ i = 1 ∨ i = 2 := by omega
      rcases this with rfl | rfl | rfl
      · exact o0H.out
      · exact o1H.out
      · exact o2H.out⟩, laH.out⟩
  have hr3 : (W7.setRow s (mc ⟨some ⟨w4.heap.size, 0, none⟩, 3, some ⟨w4.heap.size + 1, 0, none⟩, 1, some ⟨w4.heap.size + 1 + 1 + 1 + 1 + 1, 0, none⟩, 3, some ⟨w4.heap.size + 1 + 1 + 1 + 1 + 1 + 1, 0, none⟩, 3⟩ someM)).heap[s]? = some (.cells (mc ⟨some ⟨w4.heap.size, 0, none⟩, 3, some ⟨w4.heap.size + 1, 0, none⟩, 1, some ⟨w4.heap.size + 1 + 1 + 1 + 1 + 1, 0, none⟩, 3, some ⟨w4.heap.size + 1 + 1 + 1 + 1 + 1 + 1, 0, none⟩, 3⟩ someM) 27 (0, 0)) := setRow_heap W7 s _ _ _ _ HRW.out
  refine bodyPost_ret (v := .agg (mc ⟨some ⟨w4.heap.size, 0, none⟩, 3, some ⟨w4.heap.size + 1, 0, none⟩, 1, some ⟨w4.heap.size + 1 + 1 + 1 + 1 + 1, 0, none⟩, 3, some ⟨w4.heap.size + 1 + 1 + 1 + 1 + 1 + 1, 0, none⟩, 3⟩ someM)) (results_cell_row (p := 0) Tryd.results11 _ _ s 27 _ (0, 0) _ rfl hr3 Tryd.underlying27 rfl (sizeMach _ _)) rfl ⟨_, rfl, ?_, ?_⟩
  · rw [hs.out]
    refine HOW.move (fun k cs t hk ht => ?_)
    rw [setRow_other _ _ _ _ (fun e => ?_)]
    rw [e, HRW.out] at hk
    injection hk with hk
    injection hk with _ h2
    exact ht h2.symm
  · rw [hs.out]
    exact But.below HBW.out (But.setRow _ _ _) (Nat.le_refl _) (Nat.le_trans hsz (by rw [HW.out]; simp; omega))
end Nf
end Go.Proofs.YtdmnocjlmnkdhaaDoor
namespace Go.Proofs.YtdmnocjlmnkdhaaDoor
open Go.RowKit Sets Nf
namespace Nf
def greatM (m : Mc) : Bool := (decide (60 < m.sp.length) || (decide (60 < m.fo.length) || (decide (60 < m.la.length) || decide (60 < m.fi.length)))) || m.fo.any (fun l => decide (60 < l.length))
theorem any_snoc {α : Type} (p : α → Bool) (l : List α) (d : α) (j : Nat) (h : j < l.length) : (l.take (j + 1)).any p = ((l.take j).any p || p (l.getD j d)) := by
  rw [List.take_succ_eq_append_getElem h, List.any_append, List.getD_eq_getElem?_getD, List.getElem?_eq_getElem h]; simp
set_option maxHeartbeats 3200000 in
set_option maxRecDepth 100000 in
theorem ngreat_any (x : Ma) (m : Mc) (w : World) (h : ListsIn w x.oa m.fo) :
    Calls Tryd.prog 4 #[.agg (mc x m)] w fun e w' => e = .returned (.bool (greatM m)) ∧ Below w.heap.size w w' := by
  have HM := Lib.hid h
  clear h
  go_enter Tryd.func4, Tryd.ntmps4
  go_upto_region 1 with fail
  have HX := Lib.hid (BoxM.new w x m)
  have HB := Lib.hid ((Below.refl w.heap.size w).alloc (Nat.le_refl _) (.cells (mc x m) 27))
  have HM1 := Lib.hid (HM.out.kept HB.out)
  have c0 := HX.out.c0
  have c1 := HX.out.c1
  have c2 := HX.out.c2
  have c3 := HX.out.c3
  generalize w.alloc (.cells (mc x m) 27) = w1 at *
  have HG : Hid (greatM m = ((decide (60 < m.sp.length) || (decide (60 < m.fo.length) || (decide (60 < m.la.length) || decide (60 < m.fi.length)))) || m.fo.any (fun l => decide (60 < l.length)))) := Lib.hid rfl
  by_cases h1 : 60 < m.sp.length
  · have d1 : decide ((60 : Int) < (m.sp.length : Int)) = true := decide_eq_true (by omega)
    have HR : Hid (greatM m = true) := Lib.hid (by rw [HG.out, decide_eq_true h1]; rfl)
    clear h1
    go_wp2_with fail
    go_ret
    exact ⟨by rw [HR.out]; rfl, HB.out⟩
  · have d1 : decide ((60 : Int) < (m.sp.length : Int)) = false := decide_eq_false (by omega)
    by_cases h2 : 60 < m.fo.length
    · have d2 : decide ((60 : Int) < (m.fo.length : Int)) = true := decide_eq_true (by omega)
      have HR : Hid (greatM m = true) := Lib.hid (by rw [HG.out, decide_eq_true h2]; simp)
      clear h1 h2
      go_wp2_with fail
      go_ret
      exact ⟨by rw [HR.out]; rfl, HB.out⟩
    · have d2 : decide ((60 : Int) < (m.fo.length : Int)) = false := decide_eq_false (by omega)
      by_cases h3 : 60 < m.la.length
      · have d3 : decide ((60 : Int) < (m.la.length : Int)) = true := decide_eq_true (by omega)
        have HR : Hid (greatM m = true) := Lib.hid (by rw [HG.out, decide_eq_true h3]; simp)
        clear h1 h2 h3
        go_wp2_with fail
        go_ret
        exact ⟨by rw [HR.out]; rfl, HB.out⟩
      · have d3 : decide ((60 : Int) < (m.la.length : Int)) = false := decide_eq_false (by omega)
        by_cases h4 : 60 < m.fi.length
        · have d4 : decide ((60 : Int) < (m.fi.length : Int)) = true := decide_eq_true (by omega)
          have HR : Hid (greatM m = true) := Lib.hid (by rw [HG.out, decide_eq_true h4]; simp)
          clear h1 h2 h3 h4
          go_wp2_with fail
          go_ret
          exact ⟨by rw [HR.out]; rfl, HB.out⟩
        · have d4 : decide ((60 : Int) < (m.fi.length : Int)) = false := decide_eq_false (by omega)
          have HG2 : Hid (greatM m = m.fo.any (fun l => decide (60 < l.length))) := Lib.hid (by rw [HG.out, decide_eq_false h1, decide_eq_false h2, decide_eq_false h3, decide_eq_false h4]; simp)
          have HL2 : Hid (m.fo.length ≤ 60) := Lib.hid (by omega)
          clear h1 h2 h3 h4 HG
          go_wp2_with fail
          go_loopw [3] (fun i wr => ∃ j : Nat, i = .int .i64 j ∧ j ≤ m.fo.length ∧ wr = w1 ∧ Hid ((m.fo.take j).any (fun l => decide (60 < l.length)) = false)) (fun i _ => ((m.fo.length : Int) - intOf i).toNat)
          case atStart => exact ⟨0, rfl, Nat.zero_le _, rfl, Lib.hid (by simp)⟩
          case round =>
            obtain ⟨j, rfl, hj, rfl, HA⟩ := hrel
            by_cases hlt : j < m.fo.length
            · have hdd : decide ((j : Int) < (m.fo.length : Int)) = true := decide_eq_true (by omega)
              have hd2 : decide (j < m.fo.length) = true := decide_eq_true hlt
              obtain ⟨b, o, a, cap, hoa, hc, -⟩ := HM1.out j hlt
              rw [hoa] at c2
              have HS := Lib.hid (any_snoc (fun l => decide (60 < l.length)) m.fo [] j hlt)
              have HW1 : Hid (wrap64 ((j : Int) + 1) = ((j + 1 : Nat) : Int)) := Lib.hid (nat_wrap (by have := HL2.out; omega))
              have HT : Hid (60 < (m.fo.getD j []).length → greatM m = true) := Lib.hid (fun h => by
                rw [HG2.out, List.any_eq_true]
                exact ⟨_, getD_mem hlt, decide_eq_true h⟩)
              have HJ := Lib.hid hlt
              have hjm : (j : Int) < (m.fo.length : Int) := by omega
              clear hlt hoa
              generalize m.fo.getD j [] = l at *
              by_cases h5 : 60 < l.length
              · have d5 : decide ((60 : Int) < (l.length : Int)) = true := decide_eq_true (by omega)
                have d5' : decide (60 < l.length) = true := decide_eq_true h5
                have HR := Lib.hid (HT.out h5)
                clear h5
                go_wp2_with fail
                go_ret
                exact ⟨by rw [HR.out]; rfl, HB.out⟩
              · have d5 : decide ((60 : Int) < (l.length : Int)) = false := decide_eq_false (by omega)
                have d5' : decide (60 < l.length) = false := decide_eq_false h5
                have HA2 : Hid ((m.fo.take (j + 1)).any (fun l => decide (60 < l.length)) = false) := Lib.hid (by rw [HS.out, HA.out, d5']; rfl)
                clear h5
                go_wp2_with fail
                go_roundw
                case rel => exact ⟨j + 1, by rw [HW1.out], HJ.out, by first | rfl | trivial, HA2⟩
                case measure => rw [HW1.out]; exact meas8 HJ.out
            · have hdd : decide ((j : Int) < (m.fo.length : Int)) = false := decide_eq_false (by omega)
              have hd2 : decide (j < m.fo.length) = false := decide_eq_false hlt
              have HR : Hid (greatM m = false) := Lib.hid (by rw [HG2.out, ← HA.out, List.take_of_length_le (by omega)])
              clear hlt
              go_wp2_with fail
              go_ret
              exact ⟨by rw [HR.out]; rfl, HB.out⟩
theorem some_fine : Fine someM := by
  refine ⟨by decide, by decide, by decide, by decide, ?_, ?_, ?_⟩
  · intro l hl
    simp [someM] at hl
    rcases hl with rfl | rfl
    · exact ⟨by decide, fun k hk => by simp at hk; rcases hk with rfl | rfl <;> (unfold i64; omega)⟩
    · exact ⟨by decide, fun k hk => by simp at hk⟩
  · intro k hk
    simp [someM] at hk
    subst hk
    unfold i64; omega
  · intro s hs
    simp [someM] at hs
    rcases hs with rfl | rfl | rfl <;> exact ⟨by decide +kernel, by decide⟩
theorem some_right : rightM someM = true := by decide +kernel
theorem some_two : (trimM someM (useN someM)).sp.length = 2 := by decide +kernel
theorem some_t0 : takesM someM (bs ⟨#[]⟩) = true := by decide +kernel
theorem some_t1 : takesM someM (bs ⟨#[97, 98]⟩) = true := by decide +kernel
theorem some_t2 : takesM someM (bs ⟨#[97, 99]⟩) = false := by decide +kernel
theorem wp_load_mach {o : Oper} {a : Act} {w : World} {K : Act → World → Prop} {Q : Exit → Act → World → Prop} (X : Operand) (ho : o.op = .load 27 X) (B : Nat) (x : Ma) (m : Mc) (hx : a.eval X = .pointer (some ⟨B, 0, none⟩)) (hc : BoxM w B x m)
    (h : K (a.put o.dst (.agg (mc x m))) w) : o.wp Tryd.prog a w K Q := by
  unfold Oper.wp execOp
  simp only [ho, hx, Instr.loadAt, Instr.sureAddr, Sem.run_bind, Sem.run_pure, Result.andThen_ok, run_loadVar_row w B 27 27 (mc x m) (0, 0) _ hc.row Tryd.underlying27 rfl (sizeMach x m)]
  exact h
/-- a machine is stored where a place for it was just laid -/
theorem wpList_lay_mach {ops : Array Oper} {rest : List Oper} {o : Oper} {a : Act} {w : World} {Q : Exit → Act → World → Prop} (hgd : o.guard = none) (X Y : Operand)
    (ho : o.op = .store 27 X Y) (x : Ma) (m : Mc) (g : Nat) (hg : w.heap.size = g) (hx : a.eval X = .pointer (some ⟨g, 0, none⟩)) (hy : a.eval Y = .agg (mc x m))
    (h : wpList Tryd.prog ops Q rest (a.put o.dst undef) (w.alloc (.cells (mc x m) 27))) : wpList Tryd.prog ops Q (o :: rest) a (w.alloc (.cells #[.slice none 0 0, .slice none 0 0, .slice none 0 0, .slice none 0 0, .bool false] 27)) := by
  subst hg
  refine wpList_store_row hgd 27 X Y ho w.heap.size (mc x m) hx hy 27 _ (heap_alloc_new w _) (sizeMach x m) rfl (oneMach x m) ?_
  rw [World.setRow_alloc_new]
  exact h
set_option maxHeartbeats 6400000 in
set_option maxRecDepth 100000 in
theorem awake10_any (w : World) (hT : Tab w) :
    Calls Tryd.prog 5 #[] w fun e w' => e = .returned (.bool true) ∧ Below w.heap.size w w' := by
  have HG : Hid (0 < w.heap.size) := Lib.hid (World.block_lt_of_cell? _ _ (hT 0 (by decide)))
  have HT := Lib.hid hT
  clear hT
  go_enter Tryd.func5, Tryd.ntmps5
  go_upto_region 2 with (first
    | (go_at_call 11; refine (some_any w).mono ?_; rintro e w1 ⟨x, rfl, ho, hb⟩; have HM := Lib.hid ho.mat; have HB1 := Lib.hid hb; clear ho hb)
    | (refine wpList_lay_mach rfl (.tmp 1) (.tmp 4) rfl x someM _ rfl rfl rfl ?_))
  rw [show ∀ a : Act, a.put none undef = a from fun _ => rfl]
  have hal := (Below.refl w1.heap.size w1).alloc (Nat.le_refl _) (.cells (mc x someM) 27)
  have HX2 := Lib.hid (BoxM.new w1 x someM)
  have HM2 := Lib.hid (HM.out.kept hal)
  have HB2 := Lib.hid (HB1.out.trans (hal.mono HB1.out.size))
  obtain ⟨b1, hb1⟩ : ∃ b, Hid (w1.heap.size = b) := ⟨_, Lib.hid rfl⟩
  have HL1 : Hid (w.heap.size ≤ b1) := Lib.hid (by rw [← hb1.out]; exact HB1.out.size)
  rw [hb1.out] at HX2 ⊢
  clear hal HM HB1
  generalize w1.alloc (.cells (mc x someM) 27) = w2 at *
  clear hb1
  have HTR := Lib.hid (trim_any x someM w2 HM2.out some_fine ((right_iff _).1 some_right) (HT.out.below HB2.out HG.out))
  go_upto_region 3 with (first
    | (refine wpList_load_mach rfl (.tmp 1) rfl b1 x someM rfl HX2.out ?_)
    | (go_at_call 12; refine HTR.out.mono ?_; rintro e w3 ⟨y, rfl, -, hb⟩; have HB3 := Lib.hid hb; clear hb)
    | (refine wpList_lay_mach rfl (.tmp 2) (.tmp 8) rfl y (trimM someM (useN someM)) _ rfl rfl rfl ?_))
  have hal := (Below.refl w3.heap.size w3).alloc (Nat.le_refl _) (.cells (mc y (trimM someM (useN someM))) 27)
  have h23 := HB3.out.trans (hal.mono HB3.out.size)
  have HX3 := Lib.hid (HX2.out.kept h23 HX2.out.lt)
  have HM3 := Lib.hid (HM2.out.kept h23)
  have HB4 := Lib.hid (HB2.out.trans (h23.mono HB2.out.size))
  have HY3 := Lib.hid (BoxM.new w3 y (trimM someM (useN someM)))
  obtain ⟨b3, hb3⟩ : ∃ b, Hid (w3.heap.size = b) := ⟨_, Lib.hid rfl⟩
  rw [hb3.out] at HY3 ⊢
  clear hal h23 HX2 HM2 HB3 HTR
  generalize w3.alloc (.cells (mc y (trimM someM (useN someM))) 27) = w4 at *
  clear hb3 w1
  have HRG := Lib.hid (nright_any x someM w4 HM3.out some_fine)
  rw [mv_eq, some_right] at HRG
  have HX4 := HX3
  have HY4 := HY3
  have HM4 := HM3
  have HBB4 := HB4
  clear HX3 HY3 HM3 HB4
  go_wp2_with (first
    | (refine wpList_load_mach rfl (.tmp 1) rfl b1 x someM rfl HX4.out ?_)
    | (go_at_call 13; refine HRG.out.mono ?_; rintro e w5 ⟨rfl, hb⟩; have HB := Lib.hid hb; clear hb HRG; have HX5 := Lib.hid (HX4.out.kept HB.out HX4.out.lt); have HY5 := Lib.hid (HY4.out.kept HB.out HY4.out.lt); have HM5 := Lib.hid (HM4.out.kept HB.out); have HBB5 := Lib.hid (HBB4.out.trans (HB.out.mono HBB4.out.size)); clear HB HX4 HY4 HM4 HBB4; have HRU5 := Lib.hid (nrun_any x someM ⟨#[]⟩ w5 HM5.out some_fine (by decide) (HT.out.below HBB5.out HG.out)); rw [some_t0] at HRU5)
    | (refine BigFrame.wpList_want rfl (fun K' hK' => ?_); refine wp_load_mach (.tmp 1) rfl b1 x someM rfl HX5.out ?_; refine hK' _ _ ?_; clear hK' K')
    | (go_at_call 10; refine HRU5.out.mono ?_; rintro e w6 ⟨rfl, hb⟩; have HB := Lib.hid hb; clear hb HRU5; have HX6 := Lib.hid (HX5.out.kept HB.out HX5.out.lt); have HY6 := Lib.hid (HY5.out.kept HB.out HY5.out.lt); have HM6 := Lib.hid (HM5.out.kept HB.out); have HBB6 := Lib.hid (HBB5.out.trans (HB.out.mono HBB5.out.size)); clear HB HX5 HY5 HM5 HBB5; have HRU6 := Lib.hid (nrun_any x someM ⟨#[97, 98]⟩ w6 HM6.out some_fine (by decide) (HT.out.below HBB6.out HG.out)); rw [some_t1] at HRU6)
    | (refine BigFrame.wpList_want rfl (fun K' hK' => ?_); refine wp_load_mach (.tmp 1) rfl b1 x someM rfl HX6.out ?_; refine hK' _ _ ?_; clear hK' K')
    | (go_at_call 10; refine HRU6.out.mono ?_; rintro e w7 ⟨rfl, hb⟩; have HB := Lib.hid hb; clear hb HRU6; have HX7 := Lib.hid (HX6.out.kept HB.out HX6.out.lt); have HY7 := Lib.hid (HY6.out.kept HB.out HY6.out.lt); have HM7 := Lib.hid (HM6.out.kept HB.out); have HBB7 := Lib.hid (HBB6.out.trans (HB.out.mono HBB6.out.size)); clear HB HX6 HY6 HM6 HBB6; have HRU7 := Lib.hid (nrun_any x someM ⟨#[97, 99]⟩ w7 HM7.out some_fine (by decide) (HT.out.below HBB7.out HG.out)); rw [some_t2] at HRU7)
    | (refine BigFrame.wpList_want rfl (fun K' hK' => ?_); refine wp_load_mach (.tmp 1) rfl b1 x someM rfl HX7.out ?_; refine hK' _ _ ?_; clear hK' K')
    | (go_at_call 10; refine HRU7.out.mono ?_; rintro e w8 ⟨rfl, hb⟩; have HB := Lib.hid hb; clear hb HRU7; have HX8 := Lib.hid (HX7.out.kept HB.out HX7.out.lt); have HY8 := Lib.hid (HY7.out.kept HB.out HY7.out.lt); have HM8 := Lib.hid (HM7.out.kept HB.out); have HBB8 := Lib.hid (HBB7.out.trans (HB.out.mono HBB7.out.size)); clear HB HX7 HY7 HM7 HBB7; have c0 := HY8.out.c0; rw [some_two] at c0))
  go_ret
  exact ⟨rfl, HBB8.out⟩
end Nf
end Go.Proofs.YtdmnocjlmnkdhaaDoor
namespace Go.Proofs.YtdmnocjlmnkdhaaDoor
open Go.RowKit Sets Nf
namespace Nf
theorem ext_getD {α : Type} (d : α) {l k : List α} (hl : l.length = k.length) (h : ∀ i, i < l.length → l.getD i d = k.getD i d) : l = k := by
  apply List.ext_getElem hl
  intro i h1 h2
  have := h i h1
  rwa [List.getD_eq_getElem?_getD, List.getD_eq_getElem?_getD, List.getElem?_eq_getElem h1, List.getElem?_eq_getElem h2] at this
theorem beq_w {S T : Nat} (hS : S < 2 ^ 256) (hT : T < 2 ^ 256) : (((wd S 0 : Nat) : Int) == wd T 0 && ((wd S 1 : Nat) : Int) == wd T 1 && ((wd S 2 : Nat) : Int) == wd T 2 && ((wd S 3 : Nat) : Int) == wd T 3) = decide (S = T) := by
  rw [Bool.eq_iff_iff, decide_eq_true_iff]
  simp only [Bool.and_eq_true, beq_iff_eq]
  constructor
  · rintro h
    refine ext_words hS hT (fun i hi => ?_)
    have : i = 0 ∨ i = 1 ∨ i = 2 ∨ i = 3 := by omega
    rcases this with rfl | rfl | rfl | rfl <;> omega
  · rintro rfl; simp
theorem eqS9999 (a b c d a' b' c' d' : Int) (w : World) : (Op.equalIn 9999 41 (.agg #[.int .u64 a, .int .u64 b, .int .u64 c, .int .u64 d]) (.agg #[.int .u64 a', .int .u64 b', .int .u64 c', .int .u64 d'])).run Tryd.prog w = .ok (a == a' && b == b' && c == c' && d == d') w := by
  have u3 := Tryd.underlying39
  have a3 := Tryd.isAgg39
  have z3 := Tryd.sizeOf39
  rw [show (9999 : Nat) = 9998 + 1 from rfl, Op.equalIn]
  simp only [Sem.run_bind, run_underlying Tryd.underlying41, Result.andThen_ok]
  simp only [Std.Legacy.Range.forIn_eq_forIn_range', Std.Legacy.Range.size, Nat.sub_zero, Nat.add_sub_cancel, Nat.div_one, List.range'_succ, List.range'_zero, List.forIn_cons, List.forIn_nil]
  go_simp
  by_cases h1 : a = a' <;> by_cases h2 : b = b' <;> by_cases h3 : c = c' <;> by_cases h4 : d = d' <;> simp [h1, h2, h3, h4]
theorem part_1 (t : TypeId) (xs : Array Value) (o : Nat) (v : Value) (w : World) (h : (isAgg t).run Tryd.prog w = .ok false w) (hv : xs[o]? = some v) : (part t xs o).run Tryd.prog w = .ok v w := by
  unfold part
  simp only [Sem.run_bind, h, Result.andThen_ok, hv]
  rfl
theorem part_s (x : Nat × Nat) (w : World) : (part 41 (row5 x) 0).run Tryd.prog w = .ok (.agg #[.int .u64 (wd x.1 0), .int .u64 (wd x.1 1), .int .u64 (wd x.1 2), .int .u64 (wd x.1 3)]) w := by
  have h1 : (isAgg 41).run Tryd.prog w = .ok true w := by kernel_rfl
  have h2 : (sizeOf 41).run Tryd.prog w = .ok 4 w := by kernel_rfl
  unfold part
  simp only [Sem.run_bind, h1, h2, Result.andThen_ok, if_true, Sem.run_pure]
  rfl
theorem two {α : Type} (l : List α) (h : l.length = 2) : ∃ a b, l = [a, b] := by
  rcases l with _ | ⟨a, _ | ⟨b, _ | ⟨c, l⟩⟩⟩ <;> simp at h
  exact ⟨a, b, rfl⟩
theorem fieldsSpot : ∃ f1 f2 : Field, (Tryd.prog.fieldsOf 54).toList = [f1, f2] ∧ [f1, f2].map (fun f => (f.name, f.type, f.offset)) = [("Set", 41, 0), ("Tag", 5, 4)] := by
  have hf : (Tryd.prog.fieldsOf 54).toList.map (fun f => (f.name, f.type, f.offset)) = [("Set", 41, 0), ("Tag", 5, 4)] := by kernel_rfl
  generalize (Tryd.prog.fieldsOf 54).toList = fs at hf ⊢
  have hl := congrArg List.length hf
  simp only [List.length_map, List.length_cons, List.length_nil] at hl
  obtain ⟨f1, f2, rfl⟩ := two fs hl
  exact ⟨f1, f2, rfl, hf⟩
set_option maxRecDepth 100000 in
theorem eqSpot (x y : Nat × Nat) (hx : x.1 < 2 ^ 256) (hy : y.1 < 2 ^ 256) (w : World) :
    (Op.equalIn 10000 54 (.agg (row5 x)) (.agg (row5 y))).run Tryd.prog w = .ok (decide (x = y)) w := by
  have he : decide (x = y) = (decide (x.1 = y.1) && decide (x.2 = y.2)) := by
    cases x; cases y
    simp
  have hS := beq_w hx hy
  have a1 : (isAgg 5).run Tryd.prog w = .ok false w := by kernel_rfl
  obtain ⟨f1, f2, e1, e2⟩ := fieldsSpot
  simp only [List.map_cons, List.map_nil, List.cons.injEq, Prod.mk.injEq, and_true] at e2
  obtain ⟨⟨n1, t1, o1⟩, n2, t2, o2⟩ := e2
  rw [show (10000 : Nat) = 9999 + 1 from rfl, run_equalIn_struct w 9999 54 _ _ (by kernel_rfl) (by kernel_rfl), e1, he]
  unfold Op.eqFields
  rw [n1, t1, o1, if_pos (by decide)]
  simp only [Sem.run_bind, part_s, Result.andThen_ok]
  rw [eqS9999, hS]
  by_cases h2 : x.1 = y.1
  case neg => simp [h2]
  simp only [h2, Result.andThen_ok, Bool.not_true, Bool.false_eq_true, if_false, decide_true, Bool.true_and]
  unfold Op.eqFields
  rw [n2, t2, o2, if_pos (by decide)]
  simp only [Sem.run_bind, part_1 _ (row5 x) 4 (.int .u8 x.2) w a1 rfl, part_1 _ (row5 y) 4 (.int .u8 y.2) w a1 rfl, Result.andThen_ok]
  rw [run_equalIn_int w 9998 5 .u8 .u8 _ _ Tryd.underlying5]
  by_cases h1 : x.2 = y.2
  case neg => (have : ((x.2 : Int) == (y.2 : Int)) = false := by simp only [beq_eq_false_iff_ne]; omega); simp [this, h1]
  simp only [h1, BEq.rfl, Result.andThen_ok, Bool.not_true, Bool.false_eq_true, if_false, decide_true]
  rfl
theorem quiet_neqS {C : World → Prop} {a : Act} {K : Act → Prop} {o : Oper} (ty t : TypeId) (x y : Operand) (ho : o.op = .binOp .neq ty x y t) (xs ys : Array Value) (hx : a.eval x = .agg xs) (hy : a.eval y = .agg ys) (hg : Tryd.prog.eqGuardType Tryd.prog.depth ty = false)
    (r : Bool) (hr : ∀ w, (Op.equalIn 10000 ty (.agg xs) (.agg ys)).run Tryd.prog w = .ok r w) (h : K (a.put o.dst (.bool (!r)))) : o.quiet Tryd.prog a C K := by
  refine ⟨.bool (!r), fun w hw => ?_, h⟩
  unfold Oper.quietAt execOp
  simp only [ho, hx, hy, Sem.run_bind, run_eqGuard_agg w .neq ty x y _ _ hg, run_neq_struct, hr, Result.andThen_ok, Sem.run_pure]
  exact ⟨rfl, rfl⟩
end Nf
end Go.Proofs.YtdmnocjlmnkdhaaDoor
