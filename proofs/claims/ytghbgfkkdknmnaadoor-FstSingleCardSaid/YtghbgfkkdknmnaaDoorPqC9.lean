/- Several texts in one. -/
import Derived.Test.YtghbgfkkdknmnaaDoorPqC8
import Derived.Test.YtghbgfkkdknmnaaDoorPq43
import Derived.Test.YtghbgfkkdknmnaaDoorPqC5
import Derived.Test.YtghbgfkkdknmnaaDoorPqC6
import Derived.Laws.StructEq
namespace Go.Proofs.YtghbgfkkdknmnaaDoor
open Go.RowKit Sets Nf
namespace Fs
def big20 (m : Mc) : Bool := (decide (20 < m.sp.length) || (decide (20 < m.fo.length) || (decide (20 < m.la.length) || decide (20 < m.fi.length)))) || m.fo.any (fun l => decide (20 < l.length))
set_option maxHeartbeats 3200000 in
set_option maxRecDepth 100000 in
theorem small14_any (x : Ma) (m : Mc) (w : World) (h : ListsIn w x.oa m.fo) :
    Calls Tryd.prog 16 #[.agg (mc x m)] w fun e w' => e = .returned (.bool (!(big20 m))) ∧ Below w.heap.size w w' := by
  have HM := Lib.hid h
  clear h
  go_enter Tryd.func16, Tryd.ntmps16
  go_upto_region 1 with fail
  have HX := Lib.hid (BoxM.new w x m)
  have HB := Lib.hid ((Below.refl w.heap.size w).alloc (Nat.le_refl _) (.cells (mc x m) 27))
  have HM1 := Lib.hid (HM.out.kept HB.out)
  have c0 := HX.out.c0
  have c1 := HX.out.c1
  have c2 := HX.out.c2
  have c3 := HX.out.c3
  generalize w.alloc (.cells (mc x m) 27) = w1 at *
  have HG : Hid (big20 m = ((decide (20 < m.sp.length) || (decide (20 < m.fo.length) || (decide (20 < m.la.length) || decide (20 < m.fi.length)))) || m.fo.any (fun l => decide (20 < l.length)))) := Lib.hid rfl
  by_cases h1 : 20 < m.sp.length
  · have d1 : decide ((20 : Int) < (m.sp.length : Int)) = true := decide_eq_true (by omega)
    have HR : Hid (big20 m = true) := Lib.hid (by rw [HG.out, decide_eq_true h1]; rfl)
    clear h1
    go_wp2_with fail
    go_ret
    exact ⟨by rw [HR.out]; rfl, HB.out⟩
  · have d1 : decide ((20 : Int) < (m.sp.length : Int)) = false := decide_eq_false (by omega)
    by_cases h2 : 20 < m.fo.length
    · have d2 : decide ((20 : Int) < (m.fo.length : Int)) = true := decide_eq_true (by omega)
      have HR : Hid (big20 m = true) := Lib.hid (by rw [HG.out, decide_eq_true h2]; simp)
      clear h1 h2
      go_wp2_with fail
      go_ret
      exact ⟨by rw [HR.out]; rfl, HB.out⟩
    · have d2 : decide ((20 : Int) < (m.fo.length : Int)) = false := decide_eq_false (by omega)
      by_cases h3 : 20 < m.la.length
      · have d3 : decide ((20 : Int) < (m.la.length : Int)) = true := decide_eq_true (by omega)
        have HR : Hid (big20 m = true) := Lib.hid (by rw [HG.out, decide_eq_true h3]; simp)
        clear h1 h2 h3
        go_wp2_with fail
        go_ret
        exact ⟨by rw [HR.out]; rfl, HB.out⟩
      · have d3 : decide ((20 : Int) < (m.la.length : Int)) = false := decide_eq_false (by omega)
        by_cases h4 : 20 < m.fi.length
        · have d4 : decide ((20 : Int) < (m.fi.length : Int)) = true := decide_eq_true (by omega)
          have HR : Hid (big20 m = true) := Lib.hid (by rw [HG.out, decide_eq_true h4]; simp)
          clear h1 h2 h3 h4
          go_wp2_with fail
          go_ret
          exact ⟨by rw [HR.out]; rfl, HB.out⟩
        · have d4 : decide ((20 : Int) < (m.fi.length : Int)) = false := decide_eq_false (by omega)
          have HG2 : Hid (big20 m = m.fo.any (fun l => decide (20 < l.length))) := Lib.hid (by rw [HG.out, decide_eq_false h1, decide_eq_false h2, decide_eq_false h3, decide_eq_false h4]; simp)
          have HL2 : Hid (m.fo.length ≤ 20) := Lib.hid (by omega)
          clear h1 h2 h3 h4 HG
          go_wp2_with fail
          go_loopw [3] (fun i wr => ∃ j : Nat, i = .int .i64 j ∧ j ≤ m.fo.length ∧ wr = w1 ∧ Hid ((m.fo.take j).any (fun l => decide (20 < l.length)) = false)) (fun i _ => ((m.fo.length : Int) - intOf i).toNat)
          case atStart => exact ⟨0, rfl, Nat.zero_le _, rfl, Lib.hid (by simp)⟩
          case round =>
            obtain ⟨j, rfl, hj, rfl, HA⟩ := hrel
            by_cases hlt : j < m.fo.length
            · have hdd : decide ((j : Int) < (m.fo.length : Int)) = true := decide_eq_true (by omega)
              have hd2 : decide (j < m.fo.length) = true := decide_eq_true hlt
              obtain ⟨b, o, a, cap, hoa, hc, -⟩ := HM1.out j hlt
              rw [hoa] at c2
              have HS := Lib.hid (Nf.any_snoc (fun l => decide (20 < l.length)) m.fo [] j hlt)
              have HW1 : Hid (wrap64 ((j : Int) + 1) = ((j + 1 : Nat) : Int)) := Lib.hid (nat_wrap (by have := HL2.out; omega))
              have HT : Hid (20 < (m.fo.getD j []).length → big20 m = true) := Lib.hid (fun h => by
                rw [HG2.out, List.any_eq_true]
                exact ⟨_, getD_mem hlt, decide_eq_true h⟩)
              have HJ := Lib.hid hlt
              have hjm : (j : Int) < (m.fo.length : Int) := by omega
              clear hlt hoa
              generalize m.fo.getD j [] = l at *
              by_cases h5 : 20 < l.length
              · have d5 : decide ((20 : Int) < (l.length : Int)) = true := decide_eq_true (by omega)
                have d5' : decide (20 < l.length) = true := decide_eq_true h5
                have HR := Lib.hid (HT.out h5)
                clear h5
                go_wp2_with fail
                go_ret
                exact ⟨by rw [HR.out]; rfl, HB.out⟩
              · have d5 : decide ((20 : Int) < (l.length : Int)) = false := decide_eq_false (by omega)
                have d5' : decide (20 < l.length) = false := decide_eq_false h5
                have HA2 : Hid ((m.fo.take (j + 1)).any (fun l => decide (20 < l.length)) = false) := Lib.hid (by rw [HS.out, HA.out, d5']; rfl)
                clear h5
                go_wp2_with fail
                go_roundw
                case rel => exact ⟨j + 1, by rw [HW1.out], HJ.out, by first | rfl | trivial, HA2⟩
                case measure => rw [HW1.out]; exact meas8 HJ.out
            · have hdd : decide ((j : Int) < (m.fo.length : Int)) = false := decide_eq_false (by omega)
              have hd2 : decide (j < m.fo.length) = false := decide_eq_false hlt
              have HR : Hid (big20 m = false) := Lib.hid (by rw [HG2.out, ← HA.out, List.take_of_length_le (by omega)])
              clear hlt
              go_wp2_with fail
              go_ret
              exact ⟨by rw [HR.out]; rfl, HB.out⟩
theorem small14_fine {m : Mc} {w : World} {x : Ma} (h : UnM w x m) (hb : big20 m = false) : Fine m ∧ m.sp.length ≤ 20 := by
  have h8 : ¬ 20 < m.sp.length ∧ ¬ 20 < m.fo.length ∧ ¬ 20 < m.la.length ∧ ¬ 20 < m.fi.length ∧ ∀ l ∈ m.fo, ¬ 20 < l.length := by
    unfold big20 at hb
    simp only [Bool.or_eq_false_iff, decide_eq_false_iff_not, List.any_eq_false, decide_eq_true_iff] at hb
    obtain ⟨⟨h1, h2, h3, h4⟩, h5⟩ := hb
    exact ⟨h1, h2, h3, h4, h5⟩
  obtain ⟨h1, h2, h3, h4, h5⟩ := h8
  refine ⟨h.2 ?_, by omega⟩
  unfold greatM
  simp only [Bool.or_eq_false_iff, decide_eq_false_iff_not, List.any_eq_false, decide_eq_true_iff]
  exact ⟨⟨by omega, by omega, by omega, by omega⟩, fun l hl => by have := h5 l hl; omega⟩
end Fs
end Go.Proofs.YtghbgfkkdknmnaaDoor
namespace Go.Proofs.YtghbgfkkdknmnaaDoor
open Go.RowKit Sets Nf
namespace Fs
def twoM (c : Nat) : Mc := ⟨[(ofN [c], 0), (ofN [97], 1), (ofN [98], 0)], [0, 1], [[2], [2], []], [false, false, true], false⟩
set_option maxHeartbeats 6400000 in
set_option maxRecDepth 100000 in
theorem two14_any (c : Nat) (hc : c < 256) (w : World) :
    Calls Tryd.prog 19 #[.int .u8 c] w fun e w' => ∃ x, e = .returned (.agg (mc x (twoM c))) ∧ OwnM w.heap.size w' x (twoM c) ∧ Below w.heap.size w w' := by
  go_enter Tryd.func19, Tryd.ntmps19
  go_upto_region 1 with fail
  have HB1 := Lib.hid ((Below.refl w.heap.size w).alloc (Nat.le_refl _) (.cells #[.slice none 0 0, .slice none 0 0, .slice none 0 0, .slice none 0 0, .bool false] 27))
  have HR1 := Lib.hid (heap_alloc_new w (.cells #[.slice none 0 0, .slice none 0 0, .slice none 0 0, .slice none 0 0, .bool false] 27))
  obtain ⟨s, hs⟩ : ∃ s, Hid (w.heap.size = s) := ⟨_, Lib.hid rfl⟩
  rw [hs.out] at HB1 HR1 ⊢
  generalize w.alloc (.cells #[.slice none 0 0, .slice none 0 0, .slice none 0 0, .slice none 0 0, .bool false] 27) = w1 at *
  have HO1 := Lib.hid (of_any _ [c] _ (bytes_litN w1 [c] (fun x hx => by rw [List.mem_singleton] at hx; rw [hx]; exact hc) #[.int .u8 c] rfl (by simp)))
  have HA1 : Hid (Below w1.heap.size w1 (w1.alloc (.cells #[.int .u8 c] 5))) := Lib.hid ((Below.refl _ _).alloc (Nat.le_refl _) _)
  go_wp2_with fail
  refine HO1.out.mono ?_
  rintro e w2 ⟨rfl, hb2⟩
  have HB2 := Lib.hid (HA1.out.trans (hb2.mono HA1.out.size))
  clear hb2 HO1 HA1
  have HO1 := Lib.hid (of_any _ [97] _ (bytes_litN w2 [97] (by decide) #[.int .u8 97] rfl (by decide)))
  have HA1 : Hid (Below w2.heap.size w2 (w2.alloc (.cells #[.int .u8 97] 5))) := Lib.hid ((Below.refl _ _).alloc (Nat.le_refl _) _)
  go_wp2_with fail
  refine HO1.out.mono ?_
  rintro e w3 ⟨rfl, hb3⟩
  have HB3 := Lib.hid (HA1.out.trans (hb3.mono HA1.out.size))
  clear hb3 HO1 HA1
  have HO1 := Lib.hid (of_any _ [98] _ (bytes_litN w3 [98] (by decide) #[.int .u8 98] rfl (by decide)))
  have HA1 : Hid (Below w3.heap.size w3 (w3.alloc (.cells #[.int .u8 98] 5))) := Lib.hid ((Below.refl _ _).alloc (Nat.le_refl _) _)
  go_wp2_with fail
  refine HO1.out.mono ?_
  rintro e w4 ⟨rfl, hb4⟩
  have HB4 := Lib.hid (HA1.out.trans (hb4.mono HA1.out.size))
  clear hb4 HO1 HA1
  have HC := Lib.hid (HB1.out.trans (((HB2.out.trans ((HB3.out.trans (HB4.out.mono HB3.out.size)).mono HB2.out.size))).mono (Nat.le_of_lt (Array.getElem?_eq_some_iff.1 HR1.out).1)))
  have HR4 := Lib.hid ((HB4.out.block s (by have := HB3.out.size; have := HB2.out.size; have := (Array.getElem?_eq_some_iff.1 HR1.out).1; omega)).trans ((HB3.out.block s (by have := HB2.out.size; have := (Array.getElem?_eq_some_iff.1 HR1.out).1; omega)).trans ((HB2.out.block s (Array.getElem?_eq_some_iff.1 HR1.out).1).trans HR1.out)))
  clear HB1 HB2 HB3 HB4 HR1
  obtain ⟨W1, hW1⟩ : ∃ W, W = w4.alloc (.cells #[.int .u64 (wd (ofN [c]) 0), .int .u64 (wd (ofN [c]) 1), .int .u64 (wd (ofN [c]) 2), .int .u64 (wd (ofN [c]) 3), .int .u8 0, .int .u64 (wd (ofN [97]) 0), .int .u64 (wd (ofN [97]) 1), .int .u64 (wd (ofN [97]) 2), .int .u64 (wd (ofN [97]) 3), .int .u8 1, .int .u64 (wd (ofN [98]) 0), .int .u64 (wd (ofN [98]) 1), .int .u64 (wd (ofN [98]) 2), .int .u64 (wd (ofN [98]) 3), .int .u8 0] 43) := ⟨_, rfl⟩
  obtain ⟨W2, hW2⟩ : ∃ W, W = W1.alloc (.cells #[.int .i64 0, .int .i64 1] 3) := ⟨_, rfl⟩
  obtain ⟨W3, hW3⟩ : ∃ W, W = W2.alloc (.cells #[.int .i64 2] 3) := ⟨_, rfl⟩
  obtain ⟨W4, hW4⟩ : ∃ W, W = W3.alloc (.cells #[.int .i64 2] 3) := ⟨_, rfl⟩
  obtain ⟨W5, hW5⟩ : ∃ W, W = W4.alloc (.cells #[] 3) := ⟨_, rfl⟩
  obtain ⟨W6, hW6⟩ : ∃ W, W = W5.alloc (.cells #[.slice (some ⟨w4.heap.size + 1 + 1, 0, none⟩) 1 1, .slice (some ⟨w4.heap.size + 1 + 1 + 1, 0, none⟩) 1 1, .slice (some ⟨w4.heap.size + 1 + 1 + 1 + 1, 0, none⟩) 0 0] 23) := ⟨_, rfl⟩
  obtain ⟨W7, hW7⟩ : ∃ W, W = W6.alloc (.cells #[.bool false, .bool false, .bool true] 4) := ⟨_, rfl⟩
  have b1 : Below w4.heap.size w4 W1 := by rw [hW1]; exact (Below.refl _ _).alloc (Nat.le_refl _) _
  have z1 : W1.heap.size = w4.heap.size + 1 := by rw [hW1]; simp
  have b2 : Below W1.heap.size W1 W2 := by rw [hW2]; exact (Below.refl _ _).alloc (Nat.le_refl _) _
  have z2 : W2.heap.size = w4.heap.size + 1 + 1 := by rw [hW2]; simp [z1]
  have b3 : Below W2.heap.size W2 W3 := by rw [hW3]; exact (Below.refl _ _).alloc (Nat.le_refl _) _
  have z3 : W3.heap.size = w4.heap.size + 1 + 1 + 1 := by rw [hW3]; simp [z2]
  have b4 : Below W3.heap.size W3 W4 := by rw [hW4]; exact (Below.refl _ _).alloc (Nat.le_refl _) _
  have z4 : W4.heap.size = w4.heap.size + 1 + 1 + 1 + 1 := by rw [hW4]; simp [z3]
  have b5 : Below W4.heap.size W4 W5 := by rw [hW5]; exact (Below.refl _ _).alloc (Nat.le_refl _) _
  have z5 : W5.heap.size = w4.heap.size + 1 + 1 + 1 + 1 + 1 := by rw [hW5]; simp [z4]
  have b6 : Below W5.heap.size W5 W6 := by rw [hW6]; exact (Below.refl _ _).alloc (Nat.le_refl _) _
  have z6 : W6.heap.size = w4.heap.size + 1 + 1 + 1 + 1 + 1 + 1 := by rw [hW6]; simp [z5]
  have b7 : Below W6.heap.size W6 W7 := by rw [hW7]; exact (Below.refl _ _).alloc (Nat.le_refl _) _
  have z7 : W7.heap.size = w4.heap.size + 1 + 1 + 1 + 1 + 1 + 1 + 1 := by rw [hW7]; simp [z6]
  have hsz : s ≤ w4.heap.size := Nat.le_of_lt (Array.getElem?_eq_some_iff.1 HR4.out).1
  have sp0 : W1.ownsRow s 43 5 (.slice (some ⟨w4.heap.size, 0, none⟩) 3 3) 3 (#[.int .u64 (wd (ofN [c]) 0), .int .u64 (wd (ofN [c]) 1), .int .u64 (wd (ofN [c]) 2), .int .u64 (wd (ofN [c]) 3), .int .u8 0, .int .u64 (wd (ofN [97]) 0), .int .u64 (wd (ofN [97]) 1), .int .u64 (wd (ofN [97]) 2), .int .u64 (wd (ofN [97]) 3), .int .u8 1, .int .u64 (wd (ofN [98]) 0), .int .u64 (wd (ofN [98]) 1), .int .u64 (wd (ofN [98]) 2), .int .u64 (wd (ofN [98]) 3), .int .u8 0] : Array Value).toList := by rw [hW1]; exact World.ownsRow_lit w4 _ 3 (by omega) (by decide) rfl
  have spH := Lib.hid (own_stay (own_stay (own_stay (own_stay (own_stay (own_stay (sp0) b2) b3) b4) b5) b6) b7)
  clear sp0
  have fi0 : W2.ownsRow s 3 1 (.slice (some ⟨W1.heap.size, 0, none⟩) 2 2) 2 (#[.int .i64 0, .int .i64 1] : Array Value).toList := by rw [hW2]; exact World.ownsRow_lit W1 _ 2 (by omega) (by decide) rfl
  have fiH := Lib.hid (own_stay (own_stay (own_stay (own_stay (own_stay (fi0) b3) b4) b5) b6) b7)
  clear fi0
  rw [z1] at fiH
  have o00 : W3.ownsRow s 3 1 (.slice (some ⟨W2.heap.size, 0, none⟩) 1 1) 1 (#[.int .i64 2] : Array Value).toList := by rw [hW3]; exact World.ownsRow_lit W2 _ 1 (by omega) (by decide) rfl
  have o0H := Lib.hid (own_stay (own_stay (own_stay (own_stay (o00) b4) b5) b6) b7)
  clear o00
  rw [z2] at o0H
  have o10 : W4.ownsRow s 3 1 (.slice (some ⟨W3.heap.size, 0, none⟩) 1 1) 1 (#[.int .i64 2] : Array Value).toList := by rw [hW4]; exact World.ownsRow_lit W3 _ 1 (by omega) (by decide) rfl
  have o1H := Lib.hid (own_stay (own_stay (own_stay (o10) b5) b6) b7)
  clear o10
  rw [z3] at o1H
  have o20 : W5.ownsRow s 3 1 (.slice (some ⟨W4.heap.size, 0, none⟩) 0 0) 0 (#[] : Array Value).toList := by rw [hW5]; exact World.ownsRow_lit W4 _ 0 (by omega) (by decide) rfl
  have o2H := Lib.hid (own_stay (own_stay (o20) b6) b7)
  clear o20
  rw [z4] at o2H
  have fo0 : W6.ownsRow s 23 1 (.slice (some ⟨W5.heap.size, 0, none⟩) 3 3) 3 (#[.slice (some ⟨w4.heap.size + 1 + 1, 0, none⟩) 1 1, .slice (some ⟨w4.heap.size + 1 + 1 + 1, 0, none⟩) 1 1, .slice (some ⟨w4.heap.size + 1 + 1 + 1 + 1, 0, none⟩) 0 0] : Array Value).toList := by rw [hW6]; exact World.ownsRow_lit W5 _ 3 (by omega) (by decide) rfl
  have foH := Lib.hid (own_stay (fo0) b7)
  clear fo0
  rw [z5] at foH
  have la0 : W7.ownsRow s 4 1 (.slice (some ⟨W6.heap.size, 0, none⟩) 3 3) 3 (#[.bool false, .bool false, .bool true] : Array Value).toList := by rw [hW7]; exact World.ownsRow_lit W6 _ 3 (by omega) (by decide) rfl
  have laH := Lib.hid (la0)
  clear la0
  rw [z6] at laH
  have bA : Below w4.heap.size w4 W7 := b1.trans ((b2.trans ((b3.trans ((b4.trans ((b5.trans ((b6.trans (b7.mono b6.size)).mono b5.size)).mono b4.size)).mono b3.size)).mono b2.size)).mono b1.size)
  have HRW := Lib.hid ((bA.block s (Array.getElem?_eq_some_iff.1 HR4.out).1).trans HR4.out)
  have HBW := Lib.hid (HC.out.trans (bA.mono hsz))
  have HMC : Hid ((mc ⟨some ⟨w4.heap.size, 0, none⟩, 3, some ⟨w4.heap.size + 1, 0, none⟩, 2, some ⟨w4.heap.size + 1 + 1 + 1 + 1 + 1, 0, none⟩, 3, some ⟨w4.heap.size + 1 + 1 + 1 + 1 + 1 + 1, 0, none⟩, 3⟩ (twoM c)) = #[.slice (some ⟨w4.heap.size, 0, none⟩) 3 3, .slice (some ⟨w4.heap.size + 1, 0, none⟩) 2 2, .slice (some ⟨w4.heap.size + 1 + 1 + 1 + 1 + 1, 0, none⟩) 3 3, .slice (some ⟨w4.heap.size + 1 + 1 + 1 + 1 + 1 + 1, 0, none⟩) 3 3, .bool false]) := Lib.hid rfl
  have HW : Hid (W7 = ((((((w4.alloc (.cells #[.int .u64 (wd (ofN [c]) 0), .int .u64 (wd (ofN [c]) 1), .int .u64 (wd (ofN [c]) 2), .int .u64 (wd (ofN [c]) 3), .int .u8 0, .int .u64 (wd (ofN [97]) 0), .int .u64 (wd (ofN [97]) 1), .int .u64 (wd (ofN [97]) 2), .int .u64 (wd (ofN [97]) 3), .int .u8 1, .int .u64 (wd (ofN [98]) 0), .int .u64 (wd (ofN [98]) 1), .int .u64 (wd (ofN [98]) 2), .int .u64 (wd (ofN [98]) 3), .int .u8 0] 43)).alloc (.cells #[.int .i64 0, .int .i64 1] 3)).alloc (.cells #[.int .i64 2] 3)).alloc (.cells #[.int .i64 2] 3)).alloc (.cells #[] 3)).alloc (.cells #[.slice (some ⟨w4.heap.size + 1 + 1, 0, none⟩) 1 1, .slice (some ⟨w4.heap.size + 1 + 1 + 1, 0, none⟩) 1 1, .slice (some ⟨w4.heap.size + 1 + 1 + 1 + 1, 0, none⟩) 0 0] 23)).alloc (.cells #[.bool false, .bool false, .bool true] 4)) := Lib.hid (by rw [hW7, hW6, hW5, hW4, hW3, hW2, hW1])
  clear hW1 hW2 hW3 hW4 hW5 hW6 hW7 z1 z2 z3 z4 z5 z6 z7 b1 b2 b3 b4 b5 b6 b7 bA
  rw [HW.out] at HRW
  go_wp2_with (refine wpList_store_row rfl 27 (.tmp 2) (.tmp 20) rfl s #[.slice (some ⟨w4.heap.size, 0, none⟩) 3 3, .slice (some ⟨w4.heap.size + 1, 0, none⟩) 2 2, .slice (some ⟨w4.heap.size + 1 + 1 + 1 + 1 + 1, 0, none⟩) 3 3, .slice (some ⟨w4.heap.size + 1 + 1 + 1 + 1 + 1 + 1, 0, none⟩) 3 3, .bool false] rfl rfl 27 _ HRW.out (by kernel_rfl) rfl (by simp [Value.oneCell']) ?_)
  rw [← HW.out, ← HMC.out]
  rw [← HW.out] at HRW
  have HOW : OwnM s W7 ⟨some ⟨w4.heap.size, 0, none⟩, 3, some ⟨w4.heap.size + 1, 0, none⟩, 2, some ⟨w4.heap.size + 1 + 1 + 1 + 1 + 1, 0, none⟩, 3, some ⟨w4.heap.size + 1 + 1 + 1 + 1 + 1 + 1, 0, none⟩, 3⟩ (twoM c) := ⟨spH.out, fiH.out, ⟨_, rfl, foH.out, fun i hi => by
      have hi3 : i < 3 := hi
      have : i = 0 ∨ i = 1 ∨ i = 2 := by omega
      rcases this with rfl | rfl | rfl
      · exact o0H.out
      · exact o1H.out
      · exact o2H.out⟩, laH.out⟩
  have hr3 : (W7.setRow s (mc ⟨some ⟨w4.heap.size, 0, none⟩, 3, some ⟨w4.heap.size + 1, 0, none⟩, 2, some ⟨w4.heap.size + 1 + 1 + 1 + 1 + 1, 0, none⟩, 3, some ⟨w4.heap.size + 1 + 1 + 1 + 1 + 1 + 1, 0, none⟩, 3⟩ (twoM c))).heap[s]? = some (.cells (mc ⟨some ⟨w4.heap.size, 0, none⟩, 3, some ⟨w4.heap.size + 1, 0, none⟩, 2, some ⟨w4.heap.size + 1 + 1 + 1 + 1 + 1, 0, none⟩, 3, some ⟨w4.heap.size + 1 + 1 + 1 + 1 + 1 + 1, 0, none⟩, 3⟩ (twoM c)) 27 (0, 0)) := setRow_heap W7 s _ _ _ _ HRW.out
  refine bodyPost_ret (v := .agg (mc ⟨some ⟨w4.heap.size, 0, none⟩, 3, some ⟨w4.heap.size + 1, 0, none⟩, 2, some ⟨w4.heap.size + 1 + 1 + 1 + 1 + 1, 0, none⟩, 3, some ⟨w4.heap.size + 1 + 1 + 1 + 1 + 1 + 1, 0, none⟩, 3⟩ (twoM c))) (results_cell_row (p := 2) Tryd.results19 _ _ s 27 _ (0, 0) _ rfl hr3 Tryd.underlying27 rfl (sizeMach _ _)) rfl ⟨_, rfl, ?_, ?_⟩
  · rw [hs.out]
    refine HOW.move (fun k cs t hk ht => ?_)
    rw [setRow_other _ _ _ _ (fun e => ?_)]
    rw [e, HRW.out] at hk
    injection hk with hk
    injection hk with _ h2
    exact ht h2.symm
  · rw [hs.out]
    exact But.below HBW.out (But.setRow _ _ _) (Nat.le_refl _) (Nat.le_trans hsz (by rw [HW.out]; simp; omega))
end Fs
end Go.Proofs.YtghbgfkkdknmnaaDoor
namespace Go.Proofs.YtghbgfkkdknmnaaDoor
open Go.RowKit Sets Nf Fs
namespace Ft
theorem part_1 (t : TypeId) (xs : Array Value) (o : Nat) (v : Value) (w : World) (h : (isAgg t).run Tryd.prog w = .ok false w) (hv : xs[o]? = some v) : (part t xs o).run Tryd.prog w = .ok v w := by
  unfold part
  simp only [Sem.run_bind, h, Result.andThen_ok, hv]
  rfl
theorem fieldsPa : ∃ f1 f2 f3 : Field, (Tryd.prog.fieldsOf 35).toList = [f1, f2, f3] ∧ [f1, f2, f3].map (fun f => (f.name, f.type, f.offset)) = [("OK", 4, 0), ("Host", 9, 1), ("Path", 9, 2)] := by
  have hf : (Tryd.prog.fieldsOf 35).toList.map (fun f => (f.name, f.type, f.offset)) = [("OK", 4, 0), ("Host", 9, 1), ("Path", 9, 2)] := by kernel_rfl
  generalize (Tryd.prog.fieldsOf 35).toList = fs at hf ⊢
  have hl := congrArg List.length hf
  simp only [List.length_map, List.length_cons, List.length_nil] at hl
  obtain ⟨f1, f2, f3, rfl⟩ : ∃ a b c, fs = [a, b, c] := by
    match fs, hl with
    | [a, b, c], _ => exact ⟨a, b, c, rfl⟩
  exact ⟨f1, f2, f3, rfl, hf⟩
theorem eqPa (a b : Bool) (h p h' p' : ByteArray) (w : World) : (Op.equal 35 (.agg (pcV a h p)) (.agg (pcV b h' p'))).run Tryd.prog w = .ok (a == b && h.toList == h'.toList && p.toList == p'.toList) w := by
  have a1 : (isAgg 4).run Tryd.prog w = .ok false w := by kernel_rfl
  have a2 : (isAgg 9).run Tryd.prog w = .ok false w := by kernel_rfl
  obtain ⟨f1, f2, f3, e1, e2⟩ := fieldsPa
  simp only [List.map_cons, List.map_nil, List.cons.injEq, Prod.mk.injEq, and_true] at e2
  obtain ⟨⟨n1, t1, o1⟩, ⟨n2, t2, o2⟩, n3, t3, o3⟩ := e2
  unfold Op.equal Op.maxDepth
  rw [show (10000 : Nat) = 9999 + 1 from rfl, run_equalIn_struct w 9999 35 _ _ (by kernel_rfl) (by kernel_rfl), e1]
  unfold Op.eqFields
  rw [n1, t1, o1, if_pos (by decide)]
  simp only [Sem.run_bind, part_1 _ (pcV a h p) 0 (.bool a) w a1 rfl, part_1 _ (pcV b h' p') 0 (.bool b) w a1 rfl, Result.andThen_ok]
  rw [run_equalIn_bool w 9998 4 _ _ Tryd.underlying4]
  simp only [Result.andThen_ok]
  cases hab : (a == b)
  · simp
  · unfold Op.eqFields
    rw [n2, t2, o2]
    simp only [Bool.not_true, Bool.false_eq_true, if_false]
    rw [if_pos (by decide)]
    simp only [Sem.run_bind, part_1 _ (pcV a h p) 1 (.string h) w a2 rfl, part_1 _ (pcV b h' p') 1 (.string h') w a2 rfl, Result.andThen_ok]
    rw [run_equalIn_string w 9998 9 _ _ Tryd.underlying9]
    simp only [Result.andThen_ok]
    cases hhh : (h.toList == h'.toList)
    · simp
    · unfold Op.eqFields
      rw [n3, t3, o3]
      simp only [Bool.not_true, Bool.false_eq_true, if_false]
      rw [if_pos (by decide)]
      simp only [Sem.run_bind, part_1 _ (pcV a h p) 2 (.string p) w a2 rfl, part_1 _ (pcV b h' p') 2 (.string p') w a2 rfl, Result.andThen_ok]
      rw [run_equalIn_string w 9998 9 _ _ Tryd.underlying9]
      simp only [Result.andThen_ok]
      cases hpp : (p.toList == p'.toList) <;> simp [Op.eqFields]
theorem bs_beq (a b : ByteArray) : (a.toList == b.toList) = decide (Nf.bs a = Nf.bs b) := by
  have hu : ∀ l k : List UInt8, l.map UInt8.toNat = k.map UInt8.toNat → l = k := by
    intro l
    induction l with
    | nil => intro k h; cases k with
      | nil => rfl
      | cons c k => cases h
    | cons c l ih => intro k h; cases k with
      | nil => cases h
      | cons d k =>
        simp only [List.map_cons, List.cons.injEq] at h
        rw [ih k h.2, UInt8.toNat_inj.1 h.1]
  rw [Bool.eq_iff_iff, beq_iff_eq, decide_eq_true_eq, ByteArray.toList_eq, ByteArray.toList_eq]
  unfold Nf.bs
  exact ⟨fun h => by rw [h], fun h => hu _ _ h⟩
theorem guardPa : Tryd.prog.eqGuardType Tryd.prog.depth 35 = false := by kernel_rfl
/-- Two of what is told are one, if all three are. -/
def paB (a : Bool) (h p : ByteArray) (b : Bool) (h' p' : ByteArray) : Bool := a == b && decide (Nf.bs h = Nf.bs h') && decide (Nf.bs p = Nf.bs p')
theorem wpList_eql_pa {ops : Array Oper} {rest : List Oper} {o : Oper} {a : Act} {w : World} {Q : Exit → Act → World → Prop} (hgd : Region.wanted o (yielded ops a.tmps) = true) (t : TypeId) (x y : Operand) (ho : o.op = .binOp .eql 35 x y t)
    (u : Bool) (h p : ByteArray) (v : Bool) (h' p' : ByteArray) (hx : a.eval x = .agg (pcV u h p)) (hy : a.eval y = .agg (pcV v h' p')) (hk : wpList Tryd.prog ops Q rest (a.put o.dst (.bool (paB u h p v h' p'))) w) : wpList Tryd.prog ops Q (o :: rest) a w := by
  refine BigFrame.wpList_want hgd (fun K hK => ?_)
  unfold Oper.wp execOp
  have he := eqPa u v h p h' p' w
  rw [bs_beq, bs_beq] at he
  unfold Op.equal Op.maxDepth at he
  simp only [ho, hx, hy, Sem.run_bind, run_eqGuard_agg w .eql 35 x y _ _ guardPa, run_eql_struct, he, Result.andThen_ok, Sem.run_pure]
  exact hK _ _ hk
/-! The two machines. -/
theorem two_fine (c : Nat) (hc : c < 256) : Fine (twoM c) := by
  refine ⟨show 3 ≤ 1000 by decide, show 2 ≤ 1000 by decide, show 3 ≤ 1000 by decide, show 3 ≤ 1000 by decide, fun l hl => ?_, fun k hk => ?_, fun s hs => ?_⟩
  · simp [twoM] at hl
    rcases hl with rfl | rfl <;> simp [i64]
  · simp [twoM] at hk
    rcases hk with rfl | rfl <;> simp [i64]
  · simp [twoM] at hs
    rcases hs with rfl | rfl | rfl
    · refine ⟨?_, show 0 < 256 by decide⟩
      show ofN [c] < 2 ^ 256
      rw [ofN_one]
      exact Nat.pow_lt_pow_right (by decide) hc
    · exact ⟨by decide +kernel, by decide +kernel⟩
    · exact ⟨by decide +kernel, by decide +kernel⟩
theorem two_rt (c : Nat) : Rt (twoM c) := by
  refine ⟨show 3 ≤ 250 by decide, rfl, rfl, fun s hs => ?_, fun l hl => ?_, show rise 3 [0, 1] = true by decide⟩
  · simp [twoM] at hs
    rcases hs with rfl | rfl | rfl
    · exact show 0 ≤ 2 by decide
    · exact show 1 ≤ 2 by decide
    · exact show 0 ≤ 2 by decide
  · simp [twoM] at hl
    rcases hl with rfl | rfl
    · exact show rise 3 [2] = true by decide
    · exact show rise 3 [] = true by decide
theorem st0_c (c : Nat) (d : Nat) : (stN (twoM c) 0).testBit d = true ↔ d = c := by
  show (ofN [c]).testBit d = true ↔ _
  rw [ofN_testBit]; simp [eq_comm]
theorem st1_c (c : Nat) (d : Nat) : (stN (twoM c) 1).testBit d = true ↔ d = 97 := by
  show (ofN [97]).testBit d = true ↔ _
  rw [ofN_testBit]; simp [eq_comm]
theorem fi_c (c k : Nat) : (grp (twoM c).fi).testBit k = true ↔ k = 0 ∨ k = 1 := by
  show (ofN [0, 1]).testBit k = true ↔ _
  rw [ofN_testBit]; simp
theorem fo_c (c k j : Nat) : (foN (twoM c) k).testBit j = true → j = 2 := by
  intro h
  unfold foN grp at h
  rw [ofN_testBit, List.contains_iff_mem] at h
  match k with
  | 0 => simpa [twoM] using h
  | 1 => simpa [twoM] using h
  | 2 => simp [twoM] at h
  | k + 3 => simp [twoM] at h
theorem two_sv : Sv (twoM 99) := by
  rw [sv_q]
  refine ⟨two_rt 99, ?_⟩
  have key : ∀ h a b, Q2 (twoM 99) h a b → h = 1 ∧ a = b := by
    intro h a b q
    induction q with
    | @one a b c h1 h2 h3 h4 =>
      have e : a = b := by
        rcases (fi_c 99 a).1 h1 with rfl | rfl
        · rcases (fi_c 99 b).1 h2 with rfl | rfl
          · rfl
          · have h5 := (st0_c 99 c).1 h3
            have h6 := (st1_c 99 c).1 h4
            omega
        · rcases (fi_c 99 b).1 h2 with rfl | rfl
          · have h5 := (st1_c 99 c).1 h3
            have h6 := (st0_c 99 c).1 h4
            omega
          · rfl
      subst e
      exact ⟨if_pos rfl, rfl⟩
    | @more h a b x y c _ h1 h2 _ _ ih =>
      obtain ⟨rfl, rfl⟩ := ih
      have e1 := fo_c 99 a x h1
      have e2 := fo_c 99 a y h2
      subst e1; subst e2
      exact ⟨if_pos rfl, rfl⟩
  rintro ⟨a, b, q, -⟩
  have := (key 2 a b q).1
  omega
theorem two_not : ¬ Sv (twoM 97) := by
  rw [sv_q]
  rintro ⟨-, hb⟩
  refine hb ⟨2, 2, ?_, by decide, by decide⟩
  have q : Q2 (twoM 97) 2 0 1 := Q2.one (m := twoM 97) (a := 0) (b := 1) (c := 97) ((fi_c 97 0).2 (.inl rfl)) ((fi_c 97 1).2 (.inr rfl)) ((st0_c 97 97).2 rfl) ((st1_c 97 97).2 rfl)
  exact Q2.more (m := twoM 97) (x := 2) (y := 2) (c := 98) q (by decide +kernel) (by decide +kernel) (by decide +kernel) (by decide +kernel)
/-- The least run of the chapter's machine on ab. -/
theorem two_run : Lr (twoM 99) none [97, 98] [1, 2] := by
  refine .read ((fi_c 99 1).2 (.inr rfl)) ((st1_c 99 97).2 rfl) (fun j hj _ h2 => ?_) (.read ?_ (by decide +kernel) (fun j hj h1 _ => ?_) (.done (by decide)))
  · obtain rfl : j = 0 := by omega
    have := (st0_c 99 97).1 h2
    omega
  · show (foN (twoM 99) 1).testBit 2 = true
    decide +kernel
  · have := fo_c 99 1 j h1
    omega
theorem two_takes : takesM (twoM 99) [97, 98] = true := (takes_iff _ _).2 ⟨two_rt 99, tk_runs.2 ⟨_, two_run.run⟩⟩
theorem two_marks : mkR (twoM 99) [1, 2] = [1, 0] := by decide +kernel
end Ft
end Go.Proofs.YtghbgfkkdknmnaaDoor
namespace Go.Proofs.YtghbgfkkdknmnaaDoor
open Go.RowKit Sets Nf Fs
namespace Ft
set_option maxHeartbeats 6400000 in
set_option maxRecDepth 100000 in
theorem awake14_any (w : World) (hT : Tab w) :
    Calls Tryd.prog 10 #[] w fun e w' => e = .returned (.bool true) ∧ Below w.heap.size w w' := by
  have HG : Hid (0 < w.heap.size) := Lib.hid (World.block_lt_of_cell? _ _ (hT 0 (by decide)))
  have HT := Lib.hid hT
  clear hT
  have HC : Hid (∀ c : Nat, c < 256 → ∀ W, Below w.heap.size w W → Calls Tryd.prog 19 #[.int .u8 c] W fun e w' => ∃ x, e = .returned (.agg (mc x (twoM c))) ∧ MAt w' x (twoM c) ∧ Below w.heap.size w w') := Lib.hid (fun c hc W hW => (two14_any c hc W).mono (by
    rintro e w' ⟨x, rfl, ho, hb⟩
    exact ⟨x, rfl, ho.mat, hW.trans (hb.mono hW.size)⟩))
  have HSI : Hid (∀ (c : Nat) (x : Ma) W, c < 256 → Below w.heap.size w W → MAt W x (twoM c) → Calls Tryd.prog 17 #[.agg (mc x (twoM c))] W fun e w' => ∃ b : Bool, e = .returned (.bool b) ∧ (b = true ↔ Sv (twoM c)) ∧ Below w.heap.size w w') := Lib.hid (fun c x W hc hW hm => (fsingle_any x (twoM c) W hm (two_fine c hc) (show 3 ≤ 100 by decide) (HT.out.below hW HG.out)).mono (by
    rintro e w' ⟨b, rfl, hs, hb⟩
    exact ⟨b, rfl, hs, hW.trans (hb.mono hW.size)⟩))
  have H1 := Lib.hid (HC.out 99 (by decide) w (Below.refl _ _))
  have HB0 : Hid (∀ W, Below w.heap.size w W → w.heap.size ≤ W.heap.size) := Lib.hid (fun W h => h.size)
  have HRU : Hid (∀ (x : Ma) W, Below w.heap.size w W → MAt W x (twoM 99) → Calls Tryd.prog 14 #[.agg (mc x (twoM 99)), .string ⟨#[97, 98]⟩] W fun e w' => ∃ hS pS, e = .returned (.agg (pcV true hS pS)) ∧ Nf.bs hS = [97] ∧ Nf.bs pS = [] ∧ Below w.heap.size w w') := Lib.hid (fun x W hW hm => (frun_any x (twoM 99) ⟨#[97, 98]⟩ W hm (two_fine 99 (by decide)) (show 2 ≤ 1000 by decide) (HT.out.below hW HG.out)).mono (by
    rintro e w' ⟨L, hS, pS, rfl, -, h1, h2, h3, hb⟩
    have hws : Nf.bs ⟨#[97, 98]⟩ = [97, 98] := rfl
    rw [hws] at h1 h2 h3 ⊢
    rw [two_takes] at h1 ⊢
    have hL := h1 rfl [1, 2] two_run
    rw [two_marks] at hL
    subst hL
    exact ⟨hS, pS, rfl, h2, h3, hW.trans (hb.mono hW.size)⟩))
  have HN97 := Lib.hid two_not
  have HS99 := Lib.hid two_sv
  go_enter Tryd.func10, Tryd.ntmps10
  go_upto_region 1 with fail
  go_wp2_with fail
  refine H1.out.mono ?_
  rintro e w1 ⟨x1, rfl, hm1, hb1⟩
  have HR := Lib.hid (HRU.out x1 w1 hb1 hm1)
  clear hm1 hb1 H1
  go_wp2_with fail
  refine HR.out.mono ?_
  rintro e w2 ⟨hS, pS, rfl, hh, hp, hb2⟩
  have HB2 := Lib.hid hb2
  have HHS := Lib.hid hh
  have HPS := Lib.hid hp
  clear hh hp hb2 HR
  go_upto_region 2 with (refine wpList_store_row rfl 35 (.tmp 1) (.tmp 3) rfl w2.heap.size (pcV true hS pS) rfl rfl 35 _ (heap_alloc_new w2 _) (sizePa _ _ _) rfl (by simp [pcV, Value.oneCell']) ?_; rw [World.setRow_alloc_new])
  have hput : ∀ a : Act, a.put none undef = a := fun _ => rfl
  rw [hput]
  clear hput
  have HB3 := Lib.hid (HB2.out.alloc (HB0.out _ HB2.out) (.cells (pcV true hS pS) 35))
  have HRW := Lib.hid (heap_alloc_new w2 (.cells (pcV true hS pS) 35))
  obtain ⟨b, hb⟩ : ∃ b, Hid (w2.heap.size = b) := ⟨_, Lib.hid rfl⟩
  rw [hb.out] at HRW ⊢
  generalize w2.alloc (.cells (pcV true hS pS) 35) = w3 at *
  clear hb HB2
  have H2 := Lib.hid (two14_any 97 (by decide) w3)
  have HL3 : Hid (b < w3.heap.size) := Lib.hid (Array.getElem?_eq_some_iff.1 HRW.out).1
  go_wp2_with fail
  refine H2.out.mono ?_
  rintro e w4 ⟨x4, rfl, ho4, hb4⟩
  have HB4 := Lib.hid (HB3.out.trans (hb4.mono (HB0.out _ HB3.out)))
  have HK4 := Lib.hid hb4
  have H4 := Lib.hid (fsingle_any x4 (twoM 97) w4 ho4.mat (two_fine 97 (by decide)) (show 3 ≤ 100 by decide) (HT.out.below HB4.out HG.out))
  clear ho4 hb4 H2
  go_wp2_with fail
  refine H4.out.mono ?_
  rintro e w5 ⟨q5, rfl, hq5, hb5⟩
  have e5 : q5 = false := by
    cases q5 with
    | false => rfl
    | true => exact absurd (hq5.1 rfl) HN97.out
  subst e5
  have HB5 := Lib.hid (HB4.out.trans (hb5.mono (HB0.out _ HB4.out)))
  have HK5 := Lib.hid (HK4.out.trans (hb5.mono HK4.out.size))
  have H5 := Lib.hid (two14_any 99 (by decide) w5)
  clear hq5 hb5 H4
  go_wp2_with fail
  refine H5.out.mono ?_
  rintro e w6 ⟨x6, rfl, ho6, hb6⟩
  have HB6 := Lib.hid (HB5.out.trans (hb6.mono (HB0.out _ HB5.out)))
  have HK6 := Lib.hid (HK5.out.trans (hb6.mono HK5.out.size))
  have H6 := Lib.hid (fsingle_any x6 (twoM 99) w6 ho6.mat (two_fine 99 (by decide)) (show 3 ≤ 100 by decide) (HT.out.below HB6.out HG.out))
  clear ho6 hb6 H5
  go_wp2_with fail
  refine H6.out.mono ?_
  rintro e w7 ⟨q7, rfl, hq7, hb7⟩
  have e7 : q7 = true := hq7.2 HS99.out
  subst e7
  have HB7 := Lib.hid (HB6.out.trans (hb7.mono (HB0.out _ HB6.out)))
  have HK7 := Lib.hid (HK6.out.trans (hb7.mono HK6.out.size))
  have HR7 := Lib.hid ((HK7.out.block b HL3.out).trans HRW.out)
  have HPB : Hid (paB true hS pS true ⟨#[97]⟩ ⟨#[]⟩ = true) := Lib.hid (by
    unfold paB
    rw [HHS.out, HPS.out]
    rfl)
  clear hq7 hb7 H6
  have k0 : w7.cell? ⟨b, 0, none⟩ = some (.bool true) := by rw [cell_of_row w7 b 0 _ _ _ HR7.out]; rfl
  have k1 : w7.cell? ⟨b, 1, none⟩ = some (.string hS) := by rw [cell_of_row w7 b 1 _ _ _ HR7.out]; rfl
  have k2 : w7.cell? ⟨b, 2, none⟩ = some (.string pS) := by rw [cell_of_row w7 b 2 _ _ _ HR7.out]; rfl
  go_wp2_with (refine wpList_eql_pa rfl _ (.tmp 12) (.tmp 13) rfl true hS pS true ⟨#[97]⟩ ⟨#[]⟩ rfl rfl ?_; rw [HPB.out])
  go_ret
  exact ⟨rfl, HB7.out⟩
end Ft
end Go.Proofs.YtghbgfkkdknmnaaDoor
