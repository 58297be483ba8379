/- Some: the chapter's machine. -/
import Derived.Test.YtlbaecjmfgahgaaDoorNfH
import Derived.Test.YtlbaecjmfgahgaaDoorOct1
namespace Go.Proofs.YtlbaecjmfgahgaaDoor
open Go.RowKit Sets Nf
namespace Nf
def someM : Mc := ⟨[(ofN [97], 0), (ofN [98], 0), (ofN [99], 0)], [0], [[1, 2], [], []], [false, true, false], true⟩
theorem bytes_litN (w : World) (l : List Nat) (hl : ∀ x ∈ l, x < 256) (cs : Array Value) (hcs : cs = (l.map fun (c : Nat) => Value.int .u8 c).toArray) (hm : l.length ≤ 1000) : BytesAt (w.alloc (.cells cs 5)) (.slice (some ⟨w.heap.size, 0, none⟩) l.length l.length) l := by
  subst hcs
  refine ⟨hl, by unfold maxLen; omega, _, _, rfl, fun i hi => ⟨w.heap.size, 0, rfl, ?_⟩⟩
  rw [Nat.zero_add, World.cell?_alloc_new, List.getElem?_toArray, List.getElem?_map, List.getElem?_eq_getElem hi, List.getD_eq_getElem?_getD, List.getElem?_eq_getElem hi]; rfl
set_option maxHeartbeats 6400000 in
set_option maxRecDepth 100000 in
theorem some_any (w : World) :
    Calls Tryd.prog 13 #[] w fun e w' => ∃ x, e = .returned (.agg (mc x someM)) ∧ OwnM w.heap.size w' x someM ∧ Below w.heap.size w w' := by
  go_enter Tryd.func13, Tryd.ntmps13
  go_upto_region 1 with fail
  have HB1 := Lib.hid ((Below.refl w.heap.size w).alloc (Nat.le_refl _) (.cells #[.slice none 0 0, .slice none 0 0, .slice none 0 0, .slice none 0 0, .bool false] 27))
  have HR1 := Lib.hid (heap_alloc_new w (.cells #[.slice none 0 0, .slice none 0 0, .slice none 0 0, .slice none 0 0, .bool false] 27))
  obtain ⟨s, hs⟩ : ∃ s, Hid (w.heap.size = s) := ⟨_, Lib.hid rfl⟩
  rw [hs.out] at HB1 HR1 ⊢
  generalize w.alloc (.cells #[.slice none 0 0, .slice none 0 0, .slice none 0 0, .slice none 0 0, .bool false] 27) = w1 at *
  have HO1 := Lib.hid (of_any _ [97] _ (bytes_litN w1 [97] (by decide) #[.int .u8 97] rfl (by decide)))
  have HA1 : Hid (Below w1.heap.size w1 (w1.alloc (.cells #[.int .u8 97] 5))) := Lib.hid ((Below.refl _ _).alloc (Nat.le_refl _) _)
  go_wp2_with fail
  refine HO1.out.mono ?_
  rintro e w2 ⟨rfl, hb2⟩
  have HB2 := Lib.hid (HA1.out.trans (hb2.mono HA1.out.size))
  clear hb2 HO1 HA1
  have HO1 := Lib.hid (of_any _ [98] _ (bytes_litN w2 [98] (by decide) #[.int .u8 98] rfl (by decide)))
  have HA1 : Hid (Below w2.heap.size w2 (w2.alloc (.cells #[.int .u8 98] 5))) := Lib.hid ((Below.refl _ _).alloc (Nat.le_refl _) _)
  go_wp2_with fail
  refine HO1.out.mono ?_
  rintro e w3 ⟨rfl, hb3⟩
  have HB3 := Lib.hid (HA1.out.trans (hb3.mono HA1.out.size))
  clear hb3 HO1 HA1
  have HO1 := Lib.hid (of_any _ [99] _ (bytes_litN w3 [99] (by decide) #[.int .u8 99] rfl (by decide)))
  have HA1 : Hid (Below w3.heap.size w3 (w3.alloc (.cells #[.int .u8 99] 5))) := Lib.hid ((Below.refl _ _).alloc (Nat.le_refl _) _)
  go_wp2_with fail
  refine HO1.out.mono ?_
  rintro e w4 ⟨rfl, hb4⟩
  have HB4 := Lib.hid (HA1.out.trans (hb4.mono HA1.out.size))
  clear hb4 HO1 HA1
  have HC := Lib.hid (HB1.out.trans (((HB2.out.trans ((HB3.out.trans (HB4.out.mono HB3.out.size)).mono HB2.out.size))).mono (Nat.le_of_lt (Array.getElem?_eq_some_iff.1 HR1.out).1)))
  have HR4 := Lib.hid ((HB4.out.block s (by have := HB3.out.size; have := HB2.out.size; have := (Array.getElem?_eq_some_iff.1 HR1.out).1; omega)).trans ((HB3.out.block s (by have := HB2.out.size; have := (Array.getElem?_eq_some_iff.1 HR1.out).1; omega)).trans ((HB2.out.block s (Array.getElem?_eq_some_iff.1 HR1.out).1).trans HR1.out)))
  clear HB1 HB2 HB3 HB4 HR1
  obtain ⟨W1, hW1⟩ : ∃ W, W = w4.alloc (.cells #[.int .u64 (wd (ofN [97]) 0), .int .u64 (wd (ofN [97]) 1), .int .u64 (wd (ofN [97]) 2), .int .u64 (wd (ofN [97]) 3), .int .u8 0, .int .u64 (wd (ofN [98]) 0), .int .u64 (wd (ofN [98]) 1), .int .u64 (wd (ofN [98]) 2), .int .u64 (wd (ofN [98]) 3), .int .u8 0, .int .u64 (wd (ofN [99]) 0), .int .u64 (wd (ofN [99]) 1), .int .u64 (wd (ofN [99]) 2), .int .u64 (wd (ofN [99]) 3), .int .u8 0] 41) := ⟨_, rfl⟩
  obtain ⟨W2, hW2⟩ : ∃ W, W = W1.alloc (.cells #[.int .i64 0] 3) := ⟨_, rfl⟩
  obtain ⟨W3, hW3⟩ : ∃ W, W = W2.alloc (.cells #[.int .i64 1, .int .i64 2] 3) := ⟨_, rfl⟩
  obtain ⟨W4, hW4⟩ : ∃ W, W = W3.alloc (.cells #[] 3) := ⟨_, rfl⟩
  obtain ⟨W5, hW5⟩ : ∃ W, W = W4.alloc (.cells #[] 3) := ⟨_, rfl⟩
  obtain ⟨W6, hW6⟩ : ∃ W, W = W5.alloc (.cells #[.slice (some ⟨w4.heap.size + 1 + 1, 0, none⟩) 2 2, .slice (some ⟨w4.heap.size + 1 + 1 + 1, 0, none⟩) 0 0, .slice (some ⟨w4.heap.size + 1 + 1 + 1 + 1, 0, none⟩) 0 0] 23) := ⟨_, rfl⟩
  obtain ⟨W7, hW7⟩ : ∃ W, W = W6.alloc (.cells #[.bool false, .bool true, .bool false] 4) := ⟨_, rfl⟩
  have b1 : Below w4.heap.size w4 W1 := by rw [hW1]; exact (Below.refl _ _).alloc (Nat.le_refl _) _
  have z1 : W1.heap.size = w4.heap.size + 1 := by rw [hW1]; simp
  have b2 : Below W1.heap.size W1 W2 := by rw [hW2]; exact (Below.refl _ _).alloc (Nat.le_refl _) _
  have z2 : W2.heap.size = w4.heap.size + 1 + 1 := by rw [hW2]; simp [z1]
  have b3 : Below W2.heap.size W2 W3 := by rw [hW3]; exact (Below.refl _ _).alloc (Nat.le_refl _) _
  have z3 : W3.heap.size = w4.heap.size + 1 + 1 + 1 := by rw [hW3]; simp [z2]
  have b4 : Below W3.heap.size W3 W4 := by rw [hW4]; exact (Below.refl _ _).alloc (Nat.le_refl _) _
  have z4 : W4.heap.size = w4.heap.size + 1 + 1 + 1 + 1 := by rw [hW4]; simp [z3]
  have b5 : Below W4.heap.size W4 W5 := by rw [hW5]; exact (Below.refl _ _).alloc (Nat.le_refl _) _
  have z5 : W5.heap.size = w4.heap.size + 1 + 1 + 1 + 1 + 1 := by rw [hW5]; simp [z4]
  have b6 : Below W5.heap.size W5 W6 := by rw [hW6]; exact (Below.refl _ _).alloc (Nat.le_refl _) _
  have z6 : W6.heap.size = w4.heap.size + 1 + 1 + 1 + 1 + 1 + 1 := by rw [hW6]; simp [z5]
  have b7 : Below W6.heap.size W6 W7 := by rw [hW7]; exact (Below.refl _ _).alloc (Nat.le_refl _) _
  have z7 : W7.heap.size = w4.heap.size + 1 + 1 + 1 + 1 + 1 + 1 + 1 := by rw [hW7]; simp [z6]
  have hsz : s ≤ w4.heap.size := Nat.le_of_lt (Array.getElem?_eq_some_iff.1 HR4.out).1
  have sp0 : W1.ownsRow s 41 5 (.slice (some ⟨w4.heap.size, 0, none⟩) 3 3) 3 (#[.int .u64 (wd (ofN [97]) 0), .int .u64 (wd (ofN [97]) 1), .int .u64 (wd (ofN [97]) 2), .int .u64 (wd (ofN [97]) 3), .int .u8 0, .int .u64 (wd (ofN [98]) 0), .int .u64 (wd (ofN [98]) 1), .int .u64 (wd (ofN [98]) 2), .int .u64 (wd (ofN [98]) 3), .int .u8 0, .int .u64 (wd (ofN [99]) 0), .int .u64 (wd (ofN [99]) 1), .int .u64 (wd (ofN [99]) 2), .int .u64 (wd (ofN [99]) 3), .int .u8 0] : Array Value).toList := by rw [hW1]; exact World.ownsRow_lit w4 _ 3 (by omega) (by decide) rfl
  have spH := Lib.hid (own_stay (own_stay (own_stay (own_stay (own_stay (own_stay (sp0) b2) b3) b4) b5) b6) b7)
  clear sp0
  have fi0 : W2.ownsRow s 3 1 (.slice (some ⟨W1.heap.size, 0, none⟩) 1 1) 1 (#[.int .i64 0] : Array Value).toList := by rw [hW2]; exact World.ownsRow_lit W1 _ 1 (by omega) (by decide) rfl
  have fiH := Lib.hid (own_stay (own_stay (own_stay (own_stay (own_stay (fi0) b3) b4) b5) b6) b7)
  clear fi0
  rw [z1] at fiH
  have o00 : W3.ownsRow s 3 1 (.slice (some ⟨W2.heap.size, 0, none⟩) 2 2) 2 (#[.int .i64 1, .int .i64 2] : Array Value).toList := by rw [hW3]; exact World.ownsRow_lit W2 _ 2 (by omega) (by decide) rfl
  have o0H := Lib.hid (own_stay (own_stay (own_stay (own_stay (o00) b4) b5) b6) b7)
  clear o00
  rw [z2] at o0H
  have o10 : W4.ownsRow s 3 1 (.slice (some ⟨W3.heap.size, 0, none⟩) 0 0) 0 (#[] : Array Value).toList := by rw [hW4]; exact World.ownsRow_lit W3 _ 0 (by omega) (by decide) rfl
  have o1H := Lib.hid (own_stay (own_stay (own_stay (o10) b5) b6) b7)
  clear o10
  rw [z3] at o1H
  have o20 : W5.ownsRow s 3 1 (.slice (some ⟨W4.heap.size, 0, none⟩) 0 0) 0 (#[] : Array Value).toList := by rw [hW5]; exact World.ownsRow_lit W4 _ 0 (by omega) (by decide) rfl
  have o2H := Lib.hid (own_stay (own_stay (o20) b6) b7)
  clear o20
  rw [z4] at o2H
  have fo0 : W6.ownsRow s 23 1 (.slice (some ⟨W5.heap.size, 0, none⟩) 3 3) 3 (#[.slice (some ⟨w4.heap.size + 1 + 1, 0, none⟩) 2 2, .slice (some ⟨w4.heap.size + 1 + 1 + 1, 0, none⟩) 0 0, .slice (some ⟨w4.heap.size + 1 + 1 + 1 + 1, 0, none⟩) 0 0] : Array Value).toList := by rw [hW6]; exact World.ownsRow_lit W5 _ 3 (by omega) (by decide) rfl
  have foH := Lib.hid (own_stay (fo0) b7)
  clear fo0
  rw [z5] at foH
  have la0 : W7.ownsRow s 4 1 (.slice (some ⟨W6.heap.size, 0, none⟩) 3 3) 3 (#[.bool false, .bool true, .bool false] : Array Value).toList := by rw [hW7]; exact World.ownsRow_lit W6 _ 3 (by omega) (by decide) rfl
  have laH := Lib.hid (la0)
  clear la0
  rw [z6] at laH
  have bA : Below w4.heap.size w4 W7 := b1.trans ((b2.trans ((b3.trans ((b4.trans ((b5.trans ((b6.trans (b7.mono b6.size)).mono b5.size)).mono b4.size)).mono b3.size)).mono b2.size)).mono b1.size)
  have HRW := Lib.hid ((bA.block s (Array.getElem?_eq_some_iff.1 HR4.out).1).trans HR4.out)
  have HBW := Lib.hid (HC.out.trans (bA.mono hsz))
  have HMC : Hid ((mc ⟨some ⟨w4.heap.size, 0, none⟩, 3, some ⟨w4.heap.size + 1, 0, none⟩, 1, some ⟨w4.heap.size + 1 + 1 + 1 + 1 + 1, 0, none⟩, 3, some ⟨w4.heap.size + 1 + 1 + 1 + 1 + 1 + 1, 0, none⟩, 3⟩ someM) = #[.slice (some ⟨w4.heap.size, 0, none⟩) 3 3, .slice (some ⟨w4.heap.size + 1, 0, none⟩) 1 1, .slice (some ⟨w4.heap.size + 1 + 1 + 1 + 1 + 1, 0, none⟩) 3 3, .slice (some ⟨w4.heap.size + 1 + 1 + 1 + 1 + 1 + 1, 0, none⟩) 3 3, .bool true]) := Lib.hid rfl
  have HW : Hid (W7 = ((((((w4.alloc (.cells #[.int .u64 (wd (ofN [97]) 0), .int .u64 (wd (ofN [97]) 1), .int .u64 (wd (ofN [97]) 2), .int .u64 (wd (ofN [97]) 3), .int .u8 0, .int .u64 (wd (ofN [98]) 0), .int .u64 (wd (ofN [98]) 1), .int .u64 (wd (ofN [98]) 2), .int .u64 (wd (ofN [98]) 3), .int .u8 0, .int .u64 (wd (ofN [99]) 0), .int .u64 (wd (ofN [99]) 1), .int .u64 (wd (ofN [99]) 2), .int .u64 (wd (ofN [99]) 3), .int .u8 0] 41)).alloc (.cells #[.int .i64 0] 3)).alloc (.cells #[.int .i64 1, .int .i64 2] 3)).alloc (.cells #[] 3)).alloc (.cells #[] 3)).alloc (.cells #[.slice (some ⟨w4.heap.size + 1 + 1, 0, none⟩) 2 2, .slice (some ⟨w4.heap.size + 1 + 1 + 1, 0, none⟩) 0 0, .slice (some ⟨w4.heap.size + 1 + 1 + 1 + 1, 0, none⟩) 0 0] 23)).alloc (.cells #[.bool false, .bool true, .bool false] 4)) := Lib.hid (by rw [hW7, hW6, hW5, hW4, hW3, hW2, hW1])
  clear hW1 hW2 hW3 hW4 hW5 hW6 hW7 z1 z2 z3 z4 z5 z6 z7 b1 b2 b3 b4 b5 b6 b7 bA
  rw [HW.out] at HRW
  go_wp2_with (refine wpList_store_row rfl 27 (.tmp 0) (.tmp 17) rfl s #[.slice (some ⟨w4.heap.size, 0, none⟩) 3 3, .slice (some ⟨w4.heap.size + 1, 0, none⟩) 1 1, .slice (some ⟨w4.heap.size + 1 + 1 + 1 + 1 + 1, 0, none⟩) 3 3, .slice (some ⟨w4.heap.size + 1 + 1 + 1 + 1 + 1 + 1, 0, none⟩) 3 3, .bool true] rfl rfl 27 _ HRW.out (by kernel_rfl) rfl (by simp [Value.oneCell']) ?_)
  rw [← HW.out, ← HMC.out]
  rw [← HW.out] at HRW
  have HOW : OwnM s W7 ⟨some ⟨w4.heap.size, 0, none⟩, 3, some ⟨w4.heap.size + 1, 0, none⟩, 1, some ⟨w4.heap.size + 1 + 1 + 1 + 1 + 1, 0, none⟩, 3, some ⟨w4.heap.size + 1 + 1 + 1 + 1 + 1 + 1, 0, none⟩, 3⟩ someM := ⟨spH.out, fiH.out, ⟨_, rfl, foH.out, fun i hi => by
      have hi3 : i < 3 := hi
      have : i = 0 ∨ i = 1 ∨ i = 2 := by omega
      rcases this with rfl | rfl | rfl
      · exact o0H.out
      · exact o1H.out
      · exact o2H.out⟩, laH.out⟩
  have hr3 : (W7.setRow s (mc ⟨some ⟨w4.heap.size, 0, none⟩, 3, some ⟨w4.heap.size + 1, 0, none⟩, 1, some ⟨w4.heap.size + 1 + 1 + 1 + 1 + 1, 0, none⟩, 3, some ⟨w4.heap.size + 1 + 1 + 1 + 1 + 1 + 1, 0, none⟩, 3⟩ someM)).heap[s]? = some (.cells (mc ⟨some ⟨w4.heap.size, 0, none⟩, 3, some ⟨w4.heap.size + 1, 0, none⟩, 1, some ⟨w4.heap.size + 1 + 1 + 1 + 1 + 1, 0, none⟩, 3, some ⟨w4.heap.size + 1 + 1 + 1 + 1 + 1 + 1, 0, none⟩, 3⟩ someM) 27 (0, 0)) := setRow_heap W7 s _ _ _ _ HRW.out
  refine bodyPost_ret (v := .agg (mc ⟨some ⟨w4.heap.size, 0, none⟩, 3, some ⟨w4.heap.size + 1, 0, none⟩, 1, some ⟨w4.heap.size + 1 + 1 + 1 + 1 + 1, 0, none⟩, 3, some ⟨w4.heap.size + 1 + 1 + 1 + 1 + 1 + 1, 0, none⟩, 3⟩ someM)) (results_cell_row (p := 0) Tryd.results13 _ _ s 27 _ (0, 0) _ rfl hr3 Tryd.underlying27 rfl (sizeMach _ _)) rfl ⟨_, rfl, ?_, ?_⟩
  · rw [hs.out]
    refine HOW.move (fun k cs t hk ht => ?_)
    rw [setRow_other _ _ _ _ (fun e => ?_)]
    rw [e, HRW.out] at hk
    injection hk with hk
    injection hk with _ h2
    exact ht h2.symm
  · rw [hs.out]
    exact But.below HBW.out (But.setRow _ _ _) (Nat.le_refl _) (Nat.le_trans hsz (by rw [HW.out]; simp; omega))
end Nf
end Go.Proofs.YtlbaecjmfgahgaaDoor
