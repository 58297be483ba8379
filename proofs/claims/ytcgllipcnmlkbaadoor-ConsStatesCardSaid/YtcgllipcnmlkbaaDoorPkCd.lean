/- Sets: a copy. -/
import Derived.Test.YtcgllipcnmlkbaaDoorPkCb
namespace Go.Proofs.YtcgllipcnmlkbaaDoor
open Go.RowKit Sets Tr Rx Sp
open Cn
theorem own_none9 (w : World) : OwnS w.heap.size (w.alloc (.cells #[] 52)) (.slice (some ⟨w.heap.size, 0, none⟩) 0 0) [] :=
  World.ownsRow_made w #[] 0 (Nat.le_refl _) (by simp) (by simp)
set_option maxHeartbeats 3200000 in
set_option maxRecDepth 100000 in
theorem clone_any (v : Value) (L : List Nat) (B : Nat) (w : World) (h : OwnS B w v L) (hL : L.length ≤ 63) :
    Calls Tryd.prog 28 #[v] w fun e w' => ∃ v', e = .returned v' ∧ OwnS w.heap.size w' v' L ∧ Below w.heap.size w w' := by
  have h2 := h
  rcases h2.2 with ⟨e1, e2⟩ | ⟨g, cap, cur, e1, -⟩
  · subst e1
    obtain rfl : L = [] := by cases L with | nil => rfl | cons x l => simp at e2
    clear h h2 e2
    have hnil : ∀ w : World, (binOp .eql 29 (.slice none 0 0) (.slice none 0 0)).run Tryd.prog w = .ok (.bool true) w := fun w => by kernel_rfl
    go_enter Tryd.func28, Tryd.ntmps28
    go_wp2_with fail
    go_ret
    exact ⟨_, rfl, World.ownsRow_nil _ _ _ _, Below.refl _ _⟩
  · subst e1
    have hcell := fun j u hj => h.cells (g := g) rfl j u hj
    have hal := (Below.refl w.heap.size w).alloc (Nat.le_refl _) (.cells #[] 52)
    have HC : Hid (∀ j u, (sts L)[j]? = some u → (w.alloc (.cells #[] 52)).cell? ((⟨g, 0, none⟩ : Addr).add j) = some u) := Lib.hid (fun j u hj => by
      have h5 := hcell j u hj
      rw [Addr.add_lit] at h5 ⊢
      exact (hal.cell (World.block_lt_of_cell? _ _ h5)).trans h5)
    have HB := Lib.hid hal
    have HN := Lib.hid (own_none9 w)
    have HL := Lib.hid hL
    have HS : Hid ((w.alloc (.cells #[] 52)).heap.size = w.heap.size + 1) := Lib.hid (by simp)
    clear hal hcell h h2 hL
    have hnil : ∀ w : World, (binOp .eql 29 (.slice (some ⟨g, 0, none⟩) L.length cap) (.slice none 0 0)).run Tryd.prog w = .ok (.bool false) w := fun w => by kernel_rfl
    obtain ⟨i0, hi, hz0, hz1, hz2⟩ := info_parts infoSet
    go_enter Tryd.func28, Tryd.ntmps28
    go_wp2_with (refine wpList_append_keep rfl _ _ 29 rfl w.heap.size 52 i0 _ 4 32 Tryd.underlying29 hi hz0 hz1 hz2 rfl (by decide) (.slice (some ⟨w.heap.size, 0, none⟩) 0 0) 0 (sts []) rfl HN.out ⟨g, 0, none⟩ L.length cap (sts L) rfl (sts_length L) HC.out (sts_ones L) (by have := HL.out; unfold maxLen; omega) (by have := HL.out; omega) (by have := HS.out; omega) ?_; intro v' w2 ho hg2 hz3 hz4; clear hz3 hz4; have HO := Lib.hid ho; have HG2 := Lib.hid hg2; clear ho hg2)
    go_ret
    refine ⟨v', rfl, ?_, HB.out.grown HG2.out (by have := HS.out; omega) (fun j hj => (HN.out.lt j hj).1)⟩
    have := HO.out
    unfold OwnS
    simpa [sts] using this
set_option maxHeartbeats 3200000 in
set_option maxRecDepth 100000 in
theorem csets_any (C : Nat) (m : Sp.Md) (w : World) (h : ConsAt w C m) (hf : Fit m) :
    Calls Tryd.prog 15 #[.pointer (some ⟨C, 0, none⟩)] w fun e w' => ∃ v', e = .returned v' ∧ OwnS w.heap.size w' v' m.s ∧ Below w.heap.size w w' := by
  obtain ⟨sv, fi, la, fv, em, nt, h1, h2⟩ := h.ex
  have c0 := (cell_of_row w C 0 _ _ _ h1).trans (cnC_low _ _ _ _ _ _ _ 0 (by decide))
  have HCl := Lib.hid (clone_any sv m.s 0 w h2.s hf.s)
  have HF := Lib.hid hf
  obtain ⟨sa, sc, e⟩ := own_slice h2.s
  subst e
  simp only [List.getElem?_cons_zero] at c0
  clear h h1 h2 hf
  generalize m.s = L at *
  go_enter Tryd.func15, Tryd.ntmps15
  go_wp2_with fail
  refine HCl.out.mono ?_
  rintro e w1 ⟨v', rfl, ho, hb⟩
  have HO := Lib.hid ho
  have HB := Lib.hid hb
  clear ho hb HCl
  go_wp2_with fail
  go_ret
  exact ⟨v', rfl, HO.out, HB.out⟩
theorem csets_nil (w : World) : Calls Tryd.prog 15 #[.pointer none] w fun e w' => e = .returned (.slice none 0 0) ∧ w = w' := by
  go_enter Tryd.func15, Tryd.ntmps15
  go_wp2_with fail
  go_ret
  exact ⟨rfl, rfl⟩
theorem match_nil (s : ByteArray) (hs : s.size = 0) (w : World) : Calls Tryd.prog 14 #[.pointer none, .string s] w fun e w' => e = .returned (.bool false) ∧ Below w.heap.size w w' := by
  have h0 : decide (0 < s.size) = false := decide_eq_false (by omega)
  go_enter Tryd.func14, Tryd.ntmps14
  go_wp2_with fail
  refine (start_nil w).mono ?_
  rintro e w1 ⟨rfl, hb⟩
  have HB := Lib.hid hb
  clear hb
  rw [show (Value.string s) = .string ⟨#[]⟩ from by cases s with | mk d => simp [ByteArray.size] at hs; rw [hs]]
  go_wp2_with fail
  go_loopw [5, 11] (fun x i wr => i = .int .i64 0 ∧ x = .int .u64 0 ∧ Hid (Below w.heap.size w wr)) (fun _ i _ => 0)
  case atStart => exact ⟨rfl, rfl, HB⟩
  case round =>
    obtain ⟨rfl, rfl, HB2⟩ := hrel
    generalize hwr : wr = w2 at *
    clear hwr wr HB
    go_wp2_with fail
    refine (good_nil 0 w2).mono ?_
    rintro e w3 ⟨rfl, rfl⟩
    go_wp2_with fail
    go_ret
    exact ⟨rfl, HB2.out⟩
end Go.Proofs.YtcgllipcnmlkbaaDoor
