/- slices.Clone of the slices of a machine. -/
import Derived.Test.YtlbaecjmfgahgaaDoorNfJ
namespace Go.Proofs.YtlbaecjmfgahgaaDoor
open Go.RowKit Sets Nf
namespace Nf
def Lies (w : World) (a : Option Addr) (xs : List Value) : Prop := (a = none → xs = []) ∧ ∀ ad, a = some ad → ∀ j u, xs[j]? = some u → w.cell? (ad.add j) = some u
theorem Lies.kept {w w' : World} {a : Option Addr} {xs : List Value} (h : Lies w a xs) (hb : Below w.heap.size w w') : Lies w' a xs := ⟨h.1, fun ad e j u hj => by
  have hc := h.2 ad e j u hj
  exact (hb.cell (World.block_lt_of_cell? _ _ hc)).trans hc⟩
theorem NumsIn.lies {w : World} {a : Option Addr} {l : List Int} (h : NumsIn w a l) : Lies w a (is64 l) := by
  refine ⟨fun e => ?_, fun ad e j u hj => ?_⟩
  · cases l with
    | nil => rfl
    | cons x l => obtain ⟨b, o, e2, -⟩ := h 0 (by simp); rw [e] at e2; cases e2
  · have hjl : j < l.length := by have := (List.getElem?_eq_some_iff.1 hj).1; rwa [is64_length] at this
    obtain ⟨b, o, e2, hc⟩ := h j hjl
    rw [e] at e2
    injection e2 with e2
    subst e2
    rw [Addr.add_lit, hc, ← hj]
    unfold is64
    rw [List.getElem?_map, List.getElem?_eq_getElem hjl, List.getD_eq_getElem?_getD, List.getElem?_eq_getElem hjl]; rfl
theorem bL_length (l : List Bool) : (bL l).length = l.length := List.length_map _
theorem spL_length (L : List (Nat × Nat)) : (spL L).length = L.length * 5 := by
  induction L with
  | nil => rfl
  | cons s L ih => unfold spL at *; rw [List.flatMap_cons, List.length_append, ih, sp5_len, List.length_cons]; omega
theorem BoolsIn.lies {w : World} {a : Option Addr} {l : List Bool} (h : BoolsIn w a l) : Lies w a (bL l) := by
  refine ⟨fun e => ?_, fun ad e j u hj => ?_⟩
  · cases l with
    | nil => rfl
    | cons x l => obtain ⟨b, o, e2, -⟩ := h 0 (by simp); rw [e] at e2; cases e2
  · have hjl : j < l.length := by have := (List.getElem?_eq_some_iff.1 hj).1; rwa [bL_length] at this
    obtain ⟨b, o, e2, hc⟩ := h j hjl
    rw [e] at e2
    injection e2 with e2
    subst e2
    rw [Addr.add_lit, hc, ← hj, bL_get _ _ hjl]
theorem SpotsIn.lies {w : World} {a : Option Addr} {l : List (Nat × Nat)} (h : SpotsIn w a l) : Lies w a (spL l) := by
  refine ⟨fun e => ?_, fun ad e j u hj => ?_⟩
  · cases l with
    | nil => rfl
    | cons x l => obtain ⟨b, o, e2, -⟩ := h 0 (by simp); rw [e] at e2; cases e2
  · have hjl : j < l.length * 5 := by have := (List.getElem?_eq_some_iff.1 hj).1; rwa [spL_length] at this
    have hi : j / 5 < l.length := by omega
    obtain ⟨b, o, e2, hc⟩ := h (j / 5) hi
    rw [e] at e2
    injection e2 with e2
    subst e2
    have hg := spL_get l (j / 5) hi (j % 5) (by omega)
    rw [show j / 5 * 5 + j % 5 = j from by omega, hj] at hg
    have := hc (j % 5) u hg.symm
    rw [Addr.add_lit, show o + j = o + j / 5 * 5 + j % 5 from by omega]
    exact this
theorem is64_one (l : List Int) : ∀ u ∈ is64 l, u.oneCell' = true := fun u hu => by
  obtain ⟨x, -, rfl⟩ := List.mem_map.1 hu; rfl
theorem bL_one (l : List Bool) : ∀ u ∈ bL l, u.oneCell' = true := fun u hu => by
  obtain ⟨x, -, rfl⟩ := List.mem_map.1 hu; rfl
theorem spL_one (l : List (Nat × Nat)) : ∀ u ∈ spL l, u.oneCell' = true := fun u hu => by
  unfold spL at hu
  obtain ⟨x, -, h⟩ := List.mem_flatMap.1 hu
  simp [sp5] at h
  rcases h with rfl | rfl | rfl | rfl | rfl <;> rfl
theorem own_newN (w : World) : (w.alloc (.cells #[] 3)).ownsRow w.heap.size 3 1 (.slice (some ⟨w.heap.size, 0, none⟩) 0 0) 0 ([] : List Value) :=
  World.ownsRow_made w #[] 0 (Nat.le_refl _) (by simp) (by simp)
set_option maxHeartbeats 3200000 in
set_option maxRecDepth 100000 in
theorem cloneN_any (a : Option Addr) (cap : Nat) (l : List Int) (w : World) (h : NumsIn w a l) (hl : l.length ≤ 1000) :
    Calls Tryd.prog 19 #[.slice a l.length cap] w fun e w' => ∃ v, e = .returned v ∧ w'.ownsRow w.heap.size 3 1 v l.length (is64 l) ∧ Below w.heap.size w w' := by
  have hs := h.lies
  cases a with
  | none =>
    obtain rfl : l = [] := by
      cases l with
      | nil => rfl
      | cons x l => obtain ⟨b, o, e2, -⟩ := h 0 (by simp); cases e2
    clear h hs hl
    have hnil : ∀ w : World, (binOp .eql 23 (.slice none 0 cap) (.slice none 0 0)).run Tryd.prog w = .ok (.bool true) w := fun w => by kernel_rfl
    go_enter Tryd.func19, Tryd.ntmps19
    go_wp2_with fail
    go_ret
    exact ⟨_, rfl, World.ownsRow_nil _ _ _ _, Below.refl _ _⟩
  | some ad =>
    have HC := Lib.hid (hs.2 ad rfl)
    have hal := (Below.refl w.heap.size w).alloc (Nat.le_refl _) (.cells #[] 3)
    have HC2 : Hid (∀ j u, (is64 l)[j]? = some u → (w.alloc (.cells #[] 3)).cell? (ad.add j) = some u) := Lib.hid (fun j u hj => by
      have h5 := HC.out j u hj
      exact (hal.cell (World.block_lt_of_cell? _ _ h5)).trans h5)
    have HB := Lib.hid hal
    have HN := Lib.hid (own_newN w)
    have HL := Lib.hid hl
    have HS : Hid ((w.alloc (.cells #[] 3)).heap.size = w.heap.size + 1) := Lib.hid (by simp)
    clear hal h hs hl HC
    have hnil : ∀ w : World, (binOp .eql 23 (.slice (some ad) l.length cap) (.slice none 0 0)).run Tryd.prog w = .ok (.bool false) w := fun w => by kernel_rfl
    obtain ⟨i0, hi, hz0, hz1, hz2⟩ := info_parts infoInt
    have HI := Lib.hid hi
    have HZ := Lib.hid (And.intro hz0 (And.intro hz1 hz2))
    clear hi hz0 hz1 hz2
    go_enter Tryd.func19, Tryd.ntmps19
    go_wp2_with (refine wpList_append_own_at _ rfl _ _ 23 rfl w.heap.size 3 i0 _ 1 8 Tryd.underlying23 HI.out HZ.out.1 HZ.out.2.1 HZ.out.2.2 rfl (by decide) (.slice (some ⟨w.heap.size, 0, none⟩) 0 0) 0 [] rfl HN.out ad l.length cap (is64 l) rfl (by rw [is64_length, Nat.mul_one]) HC2.out (is64_one l) (by have := HL.out; unfold maxLen; omega) (by have := HL.out; omega) (by have := HS.out; omega) ?_; intro v' w2 ho hg2 hz3 hz4; clear hz3 hz4; have HO := Lib.hid ho; have HG2 := Lib.hid hg2; clear ho hg2)
    go_ret
    refine ⟨v', rfl, ?_, HB.out.grown HG2.out (by have := HS.out; omega) (fun j hj => (HN.out.lt j hj).1)⟩
    have := HO.out
    rwa [Nat.zero_add, List.nil_append] at this
theorem own_newS (w : World) : (w.alloc (.cells #[] 41)).ownsRow w.heap.size 41 5 (.slice (some ⟨w.heap.size, 0, none⟩) 0 0) 0 ([] : List Value) :=
  World.ownsRow_made w #[] 0 (Nat.le_refl _) (by simp) (by simp)
set_option maxHeartbeats 3200000 in
set_option maxRecDepth 100000 in
theorem cloneS_any (a : Option Addr) (cap : Nat) (l : List (Nat × Nat)) (w : World) (h : SpotsIn w a l) (hl : l.length ≤ 1000) :
    Calls Tryd.prog 18 #[.slice a l.length cap] w fun e w' => ∃ v, e = .returned v ∧ w'.ownsRow w.heap.size 41 5 v l.length (spL l) ∧ Below w.heap.size w w' := by
  have hs := h.lies
  cases a with
  | none =>
    obtain rfl : l = [] := by
      cases l with
      | nil => rfl
      | cons x l => obtain ⟨b, o, e2, -⟩ := h 0 (by simp); cases e2
    clear h hs hl
    have hnil : ∀ w : World, (binOp .eql 22 (.slice none 0 cap) (.slice none 0 0)).run Tryd.prog w = .ok (.bool true) w := fun w => by kernel_rfl
    go_enter Tryd.func18, Tryd.ntmps18
    go_wp2_with fail
    go_ret
    exact ⟨_, rfl, World.ownsRow_nil _ _ _ _, Below.refl _ _⟩
  | some ad =>
    have HC := Lib.hid (hs.2 ad rfl)
    have hal := (Below.refl w.heap.size w).alloc (Nat.le_refl _) (.cells #[] 41)
    have HC2 : Hid (∀ j u, (spL l)[j]? = some u → (w.alloc (.cells #[] 41)).cell? (ad.add j) = some u) := Lib.hid (fun j u hj => by
      have h5 := HC.out j u hj
      exact (hal.cell (World.block_lt_of_cell? _ _ h5)).trans h5)
    have HB := Lib.hid hal
    have HN := Lib.hid (own_newS w)
    have HL := Lib.hid hl
    have HS : Hid ((w.alloc (.cells #[] 41)).heap.size = w.heap.size + 1) := Lib.hid (by simp)
    clear hal h hs hl HC
    have hnil : ∀ w : World, (binOp .eql 22 (.slice (some ad) l.length cap) (.slice none 0 0)).run Tryd.prog w = .ok (.bool false) w := fun w => by kernel_rfl
    obtain ⟨i0, hi, hz0, hz1, hz2⟩ := info_parts infoSpot
    have HI := Lib.hid hi
    have HZ := Lib.hid (And.intro hz0 (And.intro hz1 hz2))
    clear hi hz0 hz1 hz2
    go_enter Tryd.func18, Tryd.ntmps18
    go_wp2_with (refine wpList_append_own_at _ rfl _ _ 22 rfl w.heap.size 41 i0 _ 5 40 Tryd.underlying22 HI.out HZ.out.1 HZ.out.2.1 HZ.out.2.2 rfl (by decide) (.slice (some ⟨w.heap.size, 0, none⟩) 0 0) 0 [] rfl HN.out ad l.length cap (spL l) rfl (spL_length l) HC2.out (spL_one l) (by have := HL.out; unfold maxLen; omega) (by have := HL.out; omega) (by have := HS.out; omega) ?_; intro v' w2 ho hg2 hz3 hz4; clear hz3 hz4; have HO := Lib.hid ho; have HG2 := Lib.hid hg2; clear ho hg2)
    go_ret
    refine ⟨v', rfl, ?_, HB.out.grown HG2.out (by have := HS.out; omega) (fun j hj => (HN.out.lt j hj).1)⟩
    have := HO.out
    rwa [Nat.zero_add, List.nil_append] at this
theorem own_newB (w : World) : (w.alloc (.cells #[] 4)).ownsRow w.heap.size 4 1 (.slice (some ⟨w.heap.size, 0, none⟩) 0 0) 0 ([] : List Value) :=
  World.ownsRow_made w #[] 0 (Nat.le_refl _) (by simp) (by simp)
set_option maxHeartbeats 3200000 in
set_option maxRecDepth 100000 in
theorem cloneB_any (a : Option Addr) (cap : Nat) (l : List Bool) (w : World) (h : BoolsIn w a l) (hl : l.length ≤ 1000) :
    Calls Tryd.prog 20 #[.slice a l.length cap] w fun e w' => ∃ v, e = .returned v ∧ w'.ownsRow w.heap.size 4 1 v l.length (bL l) ∧ Below w.heap.size w w' := by
  have hs := h.lies
  cases a with
  | none =>
    obtain rfl : l = [] := by
      cases l with
      | nil => rfl
      | cons x l => obtain ⟨b, o, e2, -⟩ := h 0 (by simp); cases e2
    clear h hs hl
    have hnil : ∀ w : World, (binOp .eql 25 (.slice none 0 cap) (.slice none 0 0)).run Tryd.prog w = .ok (.bool true) w := fun w => by kernel_rfl
    go_enter Tryd.func20, Tryd.ntmps20
    go_wp2_with fail
    go_ret
    exact ⟨_, rfl, World.ownsRow_nil _ _ _ _, Below.refl _ _⟩
  | some ad =>
    have HC := Lib.hid (hs.2 ad rfl)
    have hal := (Below.refl w.heap.size w).alloc (Nat.le_refl _) (.cells #[] 4)
    have HC2 : Hid (∀ j u, (bL l)[j]? = some u → (w.alloc (.cells #[] 4)).cell? (ad.add j) = some u) := Lib.hid (fun j u hj => by
      have h5 := HC.out j u hj
      exact (hal.cell (World.block_lt_of_cell? _ _ h5)).trans h5)
    have HB := Lib.hid hal
    have HN := Lib.hid (own_newB w)
    have HL := Lib.hid hl
    have HS : Hid ((w.alloc (.cells #[] 4)).heap.size = w.heap.size + 1) := Lib.hid (by simp)
    clear hal h hs hl HC
    have hnil : ∀ w : World, (binOp .eql 25 (.slice (some ad) l.length cap) (.slice none 0 0)).run Tryd.prog w = .ok (.bool false) w := fun w => by kernel_rfl
    obtain ⟨i0, hi, hz0, hz1, hz2⟩ := info_parts infoBool
    have HI := Lib.hid hi
    have HZ := Lib.hid (And.intro hz0 (And.intro hz1 hz2))
    clear hi hz0 hz1 hz2
    go_enter Tryd.func20, Tryd.ntmps20
    go_wp2_with (refine wpList_append_own_at _ rfl _ _ 25 rfl w.heap.size 4 i0 _ 1 1 Tryd.underlying25 HI.out HZ.out.1 HZ.out.2.1 HZ.out.2.2 rfl (by decide) (.slice (some ⟨w.heap.size, 0, none⟩) 0 0) 0 [] rfl HN.out ad l.length cap (bL l) rfl (by rw [bL_length, Nat.mul_one]) HC2.out (bL_one l) (by have := HL.out; unfold maxLen; omega) (by have := HL.out; omega) (by have := HS.out; omega) ?_; intro v' w2 ho hg2 hz3 hz4; clear hz3 hz4; have HO := Lib.hid ho; have HG2 := Lib.hid hg2; clear ho hg2)
    go_ret
    refine ⟨v', rfl, ?_, HB.out.grown HG2.out (by have := HS.out; omega) (fun j hj => (HN.out.lt j hj).1)⟩
    have := HO.out
    rwa [Nat.zero_add, List.nil_append] at this
end Nf
end Go.Proofs.YtlbaecjmfgahgaaDoor
