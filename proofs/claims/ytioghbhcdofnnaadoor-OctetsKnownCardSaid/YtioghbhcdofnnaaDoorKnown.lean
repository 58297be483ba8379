import Derived.Test.YtioghbhcdofnnaaDoorFam
import Derived.Test.YtioghbhcdofnnaaDoorAwk
import Derived.WalkSpells
import Derived.Deep.RegionHeld3
namespace Go.Proofs.YtioghbhcdofnnaaDoor
open Go.RowKit Sets
theorem range_none (w : World) :
    Calls Tryd.prog 8 #[.int .u8 99, .int .u8 97] w fun e w' => e = .returned (.agg #[.int .u64 0, .int .u64 0, .int .u64 0, .int .u64 0]) ∧ Below w.heap.size w w' :=
  (range_any 99 97 w (by decide) (by decide) (by decide) (by decide)).mono fun _ _ h => ⟨h.1.trans (by
    have e : rangeN (Int.toNat 99) (Int.toNat 97) = 0 := by decide
    rw [e]; simp only [wd_zero]; rfl), h.2⟩
theorem first_zero (w : World) :
    Calls Tryd.prog 9 #[.agg #[.int .u64 0, .int .u64 0, .int .u64 0, .int .u64 0]] w fun e w' => e = .returned (.tuple #[.int .u8 0, .bool false]) ∧ Below w.heap.size w w' := by
  have h := first_none 0 w (wd_zero _) (wd_zero _) (wd_zero _) (wd_zero _)
  simp only [wd_zero] at h
  exact h
theorem list_zero (w : World) (hT : Tab w) (hg : 0 < w.heap.size) :
    Calls Tryd.prog 14 #[.agg #[.int .u64 0, .int .u64 0, .int .u64 0, .int .u64 0]] w fun e w' => ∃ v, e = .returned v ∧ BytesAt w' v (listN 0) ∧ Below w.heap.size w w' := by
  have h := list_bytes 0 w hT hg
  simp only [wd_zero] at h
  exact h
theorem listN_zero : listN 0 = [] := by decide +kernel
theorem of_none (w : World) :
    Calls Tryd.prog 11 #[.slice none 0 0] w fun e w' => e = .returned (.agg #[.int .u64 0, .int .u64 0, .int .u64 0, .int .u64 0]) ∧ Below w.heap.size w w' :=
  (of_any _ [] w ⟨by simp, by simp, none, 0, rfl, by simp⟩).mono fun _ _ h => ⟨h.1.trans (by
    have e : ofN [] = 0 := rfl
    rw [e]; simp only [wd_zero]; rfl), h.2⟩
theorem range_lit (f t : Nat) (hf : f ≤ 255) (ht : t ≤ 255) (w : World) :
    Calls Tryd.prog 8 #[.int .u8 f, .int .u8 t] w fun e w' => e = .returned (.agg #[.int .u64 (wd (rangeN f t) 0), .int .u64 (wd (rangeN f t) 1), .int .u64 (wd (rangeN f t) 2), .int .u64 (wd (rangeN f t) 3)]) ∧ Below w.heap.size w w' :=
  range_any f t w (by omega) (by omega) (by omega) (by omega)
theorem range_1_255 (w : World) :
    Calls Tryd.prog 8 #[.int .u8 1, .int .u8 255] w fun e w' => e = .returned (.agg #[.int .u64 (wd (rangeN 1 255) 0), .int .u64 (wd (rangeN 1 255) 1), .int .u64 (wd (rangeN 1 255) 2), .int .u64 (wd (rangeN 1 255) 3)]) ∧ Below w.heap.size w w' :=
  range_any 1 255 w (by decide) (by decide) (by decide) (by decide)
theorem range_0_255 (w : World) :
    Calls Tryd.prog 8 #[.int .u8 0, .int .u8 255] w fun e w' => e = .returned (.agg #[.int .u64 (wd (rangeN 0 255) 0), .int .u64 (wd (rangeN 0 255) 1), .int .u64 (wd (rangeN 0 255) 2), .int .u64 (wd (rangeN 0 255) 3)]) ∧ Below w.heap.size w w' :=
  range_any 0 255 w (by decide) (by decide) (by decide) (by decide)
theorem cell_alloc {w : World} {a : Addr} {v : Value} (h : w.cell? a = some v) (o : Obj) : (w.alloc o).cell? a = some v := (World.cell?_alloc_lt _ _ _ (World.block_lt_of_cell? _ _ h)).trans h
theorem new_cell (w : World) (v : Value) (t : TypeId) : (w.alloc (.cells #[v] t)).cell? ⟨w.heap.size, 0, none⟩ = some v := by simp
theorem bytes1 {w : World} {b : Nat} (h : w.cell? ⟨b, 0, none⟩ = some (.int .u8 0)) : BytesAt w (.slice (some ⟨b, 0, none⟩) 1 1) [0] := by
  refine ⟨?_, by unfold maxLen; simp, _, _, rfl, ?_⟩
  · intro x hx; simp at hx; omega
  · intro i hi
    simp at hi
    subst hi
    exact ⟨_, _, rfl, h⟩
/-- What the walk of a closed law keeps: an empty set in block g, what was there, the library's table. -/
structure Kn (w0 : World) (g : Nat) (w : World) : Prop where
  c0 : w.cell? ⟨g, 0, none⟩ = some (.int .u64 0)
  c1 : w.cell? ⟨g, 1, none⟩ = some (.int .u64 0)
  c2 : w.cell? ⟨g, 2, none⟩ = some (.int .u64 0)
  c3 : w.cell? ⟨g, 3, none⟩ = some (.int .u64 0)
  old : Below w0.heap.size w0 w
  tab : Tab w
  pos : 0 < w.heap.size
theorem Kn.call {w0 w w' : World} {g : Nat} (k : Kn w0 g w) (hb : Below w.heap.size w w') : Kn w0 g w' :=
  ⟨cell_later hb k.c0, cell_later hb k.c1, cell_later hb k.c2, cell_later hb k.c3, k.old.trans (hb.mono k.old.size), k.tab.below hb k.pos, Nat.lt_of_lt_of_le k.pos hb.size⟩
theorem Kn.alloc {w0 w : World} {g : Nat} (k : Kn w0 g w) (o : Obj) : Kn w0 g (w.alloc o) := k.call ((Below.refl _ _).alloc (Nat.le_refl _) o)
theorem Kn.drew {w0 w : World} {g : Nat} (k : Kn w0 g w) : Kn w0 g w.drew := k.call ((Below.refl _ _).drew)
theorem Kn.s {w0 w : World} {g : Nat} (k : Kn w0 g w) : w.cell? ⟨g, 0, none⟩ = some (.int .u64 0) ∧ w.cell? ⟨g, 1, none⟩ = some (.int .u64 0) ∧ w.cell? ⟨g, 2, none⟩ = some (.int .u64 0) ∧ w.cell? ⟨g, 3, none⟩ = some (.int .u64 0) := ⟨k.c0, k.c1, k.c2, k.c3⟩
set_option maxHeartbeats 1600000 in
set_option maxRecDepth 100000 in
theorem known_any (w : World) (hT : Tab w) (hg : 0 < w.heap.size) :
    Calls Tryd.prog 3 #[] w fun e w' => e = .returned (.bool true) ∧ Below w.heap.size w w' := by
  go_enter Tryd.func3, Tryd.ntmps3
  go_wp2_with fail
  refine (range_none _).mono ?_
  rintro e w1 ⟨rfl, hb1⟩
  go_wp2_with fail
  refine (first_zero _).mono ?_
  rintro e w2 ⟨rfl, hb2⟩
  have hs2 : ∀ j, j < 4 → w2.cell? ⟨w1.heap.size, j, none⟩ = some (.int .u64 0) := fun j hj => (hb2.cell (by simp)).trans (by
    have : j = 0 ∨ j = 1 ∨ j = 2 ∨ j = 3 := by omega
    rcases this with rfl | rfl | rfl | rfl <;> simp)
  have hB2 : Below w.heap.size w w2 := (hb1.trans (((Below.refl _ _).alloc (Nat.le_refl _) _).mono hb1.size)).trans (hb2.mono (by have := hb1.size; simp; omega))
  have hsz2 : w1.heap.size < w2.heap.size := by have := hb2.size; simp at this; omega
  have hg1 := hb1.size
  clear hb1 hb2
  go_wp2_with fail
  refine (range_lit 200 255 (by decide) (by decide) _).mono ?_
  rintro e w3 ⟨rfl, hb3⟩
  have hs3 : ∀ j, j < 4 → w3.cell? ⟨w1.heap.size, j, none⟩ = some (.int .u64 0) := fun j hj => (hb3.cell hsz2).trans (hs2 j hj)
  have hB3 := hB2.trans (hb3.mono hB2.size)
  have hsz3 := Nat.lt_of_lt_of_le hsz2 hb3.size
  clear hs2 hb3
  go_wp2_with fail
  refine (first_some (rangeN 200 255) 200 _ (by decide) (by decide +kernel) (by decide +kernel) (hT.below hB3 hg) (by omega)).mono ?_
  rintro e w4 ⟨rfl, hb4⟩
  have hs4 : ∀ j, j < 4 → w4.cell? ⟨w1.heap.size, j, none⟩ = some (.int .u64 0) := fun j hj => (hb4.cell hsz3).trans (hs3 j hj)
  have hB4 := hB3.trans (hb4.mono hB3.size)
  have hsz4 := Nat.lt_of_lt_of_le hsz3 hb4.size
  have HT := Lib.hid (hT.below hB4 hg)
  clear hs3 hb4 hT
  have K : Kn w w1.heap.size w4 := ⟨hs4 0 (by decide), hs4 1 (by decide), hs4 2 (by decide), hs4 3 (by decide), hB4, HT.out, Nat.lt_of_lt_of_le hg hB4.size⟩
  clear hs4 hB2 hB3 hB4 hsz2 hsz3 hsz4 hg1 HT
  have E1 : full ^^^ rangeN 1 255 = ofN [0] := by decide +kernel
  have E2 : cnt full = 256 := by decide +kernel
  have E3 : rangeN 0 255 = full := by decide +kernel
  go_wp2_with fail
  go_region_held3 (fun w' => w'.cell? ⟨w1.heap.size, 0, none⟩ = some (.int .u64 0) ∧ w'.cell? ⟨w1.heap.size, 1, none⟩ = some (.int .u64 0) ∧ w'.cell? ⟨w1.heap.size, 2, none⟩ = some (.int .u64 0) ∧ w'.cell? ⟨w1.heap.size, 3, none⟩ = some (.int .u64 0))
    (with_reducible first | exact K.s | exact K.drew.s | exact (K.alloc _).s | exact (K.alloc _).drew.s)
    (first
    | (go_at_call 8; (with_reducible refine (range_1_255 _).mono ?_); rintro e w' ⟨rfl, hb⟩; (first | (with_reducible replace K := K.call hb) | (with_reducible replace K := K.drew.call hb) | (with_reducible replace K := (K.alloc _).call hb; have cb := (by first | exact cell_later hb (new_cell _ _ _) | exact cell_later hb ((World.cell?_drew _ _).trans (new_cell _ _ _)))) | (with_reducible replace K := (K.alloc _).drew.call hb; have cb := (by first | exact cell_later hb (new_cell _ _ _) | exact cell_later hb ((World.cell?_drew _ _).trans (new_cell _ _ _))))); (try (with_reducible replace cb := cell_later hb cb)); clear hb)
    | (go_at_call 8; (with_reducible refine (range_0_255 _).mono ?_); rintro e w' ⟨rfl, hb⟩; (first | (with_reducible replace K := K.call hb) | (with_reducible replace K := K.drew.call hb) | (with_reducible replace K := (K.alloc _).call hb; have cb := (by first | exact cell_later hb (new_cell _ _ _) | exact cell_later hb ((World.cell?_drew _ _).trans (new_cell _ _ _)))) | (with_reducible replace K := (K.alloc _).drew.call hb; have cb := (by first | exact cell_later hb (new_cell _ _ _) | exact cell_later hb ((World.cell?_drew _ _).trans (new_cell _ _ _))))); (try (with_reducible replace cb := cell_later hb cb)); clear hb)
    | (go_at_call 10; refine (not_any _ _).mono ?_; rintro e w' ⟨rfl, hb⟩; (first | (with_reducible replace K := K.call hb) | (with_reducible replace K := K.drew.call hb) | (with_reducible replace K := (K.alloc _).call hb; have cb := (by first | exact cell_later hb (new_cell _ _ _) | exact cell_later hb ((World.cell?_drew _ _).trans (new_cell _ _ _)))) | (with_reducible replace K := (K.alloc _).drew.call hb; have cb := (by first | exact cell_later hb (new_cell _ _ _) | exact cell_later hb ((World.cell?_drew _ _).trans (new_cell _ _ _))))); (try (with_reducible replace cb := cell_later hb cb)); clear hb)
    | (go_at_call 11; (with_reducible refine (of_none _).mono ?_); rintro e w' ⟨rfl, hb⟩; (first | (with_reducible replace K := K.call hb) | (with_reducible replace K := K.drew.call hb) | (with_reducible replace K := (K.alloc _).call hb; have cb := (by first | exact cell_later hb (new_cell _ _ _) | exact cell_later hb ((World.cell?_drew _ _).trans (new_cell _ _ _)))) | (with_reducible replace K := (K.alloc _).drew.call hb; have cb := (by first | exact cell_later hb (new_cell _ _ _) | exact cell_later hb ((World.cell?_drew _ _).trans (new_cell _ _ _))))); (try (with_reducible replace cb := cell_later hb cb)); clear hb)
    | (go_at_call 11; (first | (with_reducible refine (of_any _ [0] _ (bytes1 cb)).mono ?_) | (with_reducible refine (of_any _ [0] _ (bytes1 (new_cell _ _ _))).mono ?_)); rintro e w' ⟨rfl, hb⟩; (first | (with_reducible replace K := K.call hb) | (with_reducible replace K := K.drew.call hb) | (with_reducible replace K := (K.alloc _).call hb; have cb := (by first | exact cell_later hb (new_cell _ _ _) | exact cell_later hb ((World.cell?_drew _ _).trans (new_cell _ _ _)))) | (with_reducible replace K := (K.alloc _).drew.call hb; have cb := (by first | exact cell_later hb (new_cell _ _ _) | exact cell_later hb ((World.cell?_drew _ _).trans (new_cell _ _ _))))); (try (with_reducible replace cb := cell_later hb cb)); clear hb)
    | (go_at_call 13; refine (all_any _).mono ?_; rintro e w' ⟨rfl, hb⟩; (first | (with_reducible replace K := K.call hb) | (with_reducible replace K := K.drew.call hb) | (with_reducible replace K := (K.alloc _).call hb; have cb := (by first | exact cell_later hb (new_cell _ _ _) | exact cell_later hb ((World.cell?_drew _ _).trans (new_cell _ _ _)))) | (with_reducible replace K := (K.alloc _).drew.call hb; have cb := (by first | exact cell_later hb (new_cell _ _ _) | exact cell_later hb ((World.cell?_drew _ _).trans (new_cell _ _ _))))); (try (with_reducible replace cb := cell_later hb cb)); clear hb)
    | (go_at_call 12; refine (count_any _ _).mono ?_; rintro e w' ⟨rfl, hb⟩; (first | (with_reducible replace K := K.call hb) | (with_reducible replace K := K.drew.call hb) | (with_reducible replace K := (K.alloc _).call hb; have cb := (by first | exact cell_later hb (new_cell _ _ _) | exact cell_later hb ((World.cell?_drew _ _).trans (new_cell _ _ _)))) | (with_reducible replace K := (K.alloc _).drew.call hb; have cb := (by first | exact cell_later hb (new_cell _ _ _) | exact cell_later hb ((World.cell?_drew _ _).trans (new_cell _ _ _))))); (try (with_reducible replace cb := cell_later hb cb)); clear hb)
    | (go_at_call 14; refine (list_zero _ K.tab K.pos).mono ?_; rintro e w' ⟨v, rfl, hby, hb⟩; (first | (with_reducible replace K := K.call hb) | (with_reducible replace K := K.drew.call hb) | (with_reducible replace K := (K.alloc _).call hb; have cb := (by first | exact cell_later hb (new_cell _ _ _) | exact cell_later hb ((World.cell?_drew _ _).trans (new_cell _ _ _)))) | (with_reducible replace K := (K.alloc _).drew.call hb; have cb := (by first | exact cell_later hb (new_cell _ _ _) | exact cell_later hb ((World.cell?_drew _ _).trans (new_cell _ _ _))))); (try (with_reducible replace cb := cell_later hb cb)); clear hb; rw [listN_zero] at hby; obtain ⟨-, -, a, cap, rfl, -⟩ := hby)
    | (go_at_call 15; refine (awake_any _ K.tab K.pos).mono ?_; rintro e w' ⟨rfl, hb⟩; (first | (with_reducible replace K := K.call hb) | (with_reducible replace K := K.drew.call hb) | (with_reducible replace K := (K.alloc _).call hb; have cb := (by first | exact cell_later hb (new_cell _ _ _) | exact cell_later hb ((World.cell?_drew _ _).trans (new_cell _ _ _)))) | (with_reducible replace K := (K.alloc _).drew.call hb; have cb := (by first | exact cell_later hb (new_cell _ _ _) | exact cell_later hb ((World.cell?_drew _ _).trans (new_cell _ _ _))))); (try (with_reducible replace cb := cell_later hb cb)); clear hb))
  all_goals go_wp2
  all_goals go_ret
  all_goals exact ⟨rfl, K.old⟩
end Go.Proofs.YtioghbhcdofnnaaDoor
