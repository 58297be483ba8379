/- RexKnown, walked. -/
import Derived.Test.YtbmoanhdpnaocaaRKnA
namespace Go.Proofs.Ytbmoanhdpnaocaa
open Go.RowKit Sets Tr Rx
set_option maxHeartbeats 12800000 in
set_option maxRecDepth 100000 in
theorem rknown_any (w : World) : Calls Try.prog 3 #[] w fun e w' => e = .returned (.bool true) ∧ Below w.heap.size w w' := by
  have hz := zeroNode
  have hE1 := (Below.refl w.heap.size w).alloc (Nat.le_refl _) (.cells (Kn.KL.map Value.string).toArray 9)
  have hE2 := hE1.alloc hE1.size (.cells (Kn.KP.map fun n : Nat => Value.int .i64 n).toArray 3)
  have r1 := World.rangeAt_row (cs := Kn.KL.map Value.string) (heap_alloc_new w (.cells (Kn.KL.map Value.string).toArray 9))
  have r2 := World.rangeAt_row (cs := Kn.KP.map fun n : Nat => Value.int .i64 n) (heap_alloc_new (w.alloc (.cells (Kn.KL.map Value.string).toArray 9)) (.cells (Kn.KP.map fun n : Nat => Value.int .i64 n).toArray 3))
  rw [show (w.alloc (.cells (Kn.KL.map Value.string).toArray 9)).heap.size = w.heap.size + 1 from by simp] at r2
  have r1' := range_kept r1 ((Below.refl _ _).alloc (Nat.le_refl _) (.cells (Kn.KP.map fun n : Nat => Value.int .i64 n).toArray 3))
  have HR1 := Lib.hid r1'
  have HR2 := Lib.hid r2
  have HB := Lib.hid hE2
  clear hE1 hE2 r1 r2 r1'
  go_enter Try.func3, Try.ntmps3
  go_wp2_with fail
  change Hid (((w.alloc (.cells #[.string ⟨#[97, 42, 42]⟩, .string ⟨#[97, 124, 42]⟩, .string ⟨#[40, 97]⟩, .string ⟨#[97, 41]⟩, .string ⟨#[91, 97, 45, 93]⟩, .string ⟨#[91, 122, 45, 97, 93]⟩, .string ⟨#[97, 123, 50, 44, 49, 125]⟩, .string ⟨#[97, 92, 113]⟩, .string ⟨#[33, 97, 33, 98]⟩, .string ⟨#[91, 97]⟩, .string ⟨#[97, 123]⟩, .string ⟨#[97, 123, 49]⟩, .string ⟨#[97, 123, 49, 44]⟩, .string ⟨#[92, 120, 52]⟩, .string ⟨#[40, 97, 38, 98, 41]⟩, .string ⟨#[93]⟩, .string ⟨#[97, 123, 44, 50, 125]⟩, .string ⟨#[91, 97, 94, 93]⟩, .string ⟨#[92]⟩] 9)).alloc (.cells #[.int .i64 2, .int .i64 2, .int .i64 2, .int .i64 1, .int .i64 3, .int .i64 3, .int .i64 4, .int .i64 1, .int .i64 2, .int .i64 2, .int .i64 2, .int .i64 3, .int .i64 4, .int .i64 0, .int .i64 2, .int .i64 0, .int .i64 2, .int .i64 2, .int .i64 0] 3)).rangeAt w.heap.size 0 (Kn.KL.map Value.string)) at HR1
  change Hid (((w.alloc (.cells #[.string ⟨#[97, 42, 42]⟩, .string ⟨#[97, 124, 42]⟩, .string ⟨#[40, 97]⟩, .string ⟨#[97, 41]⟩, .string ⟨#[91, 97, 45, 93]⟩, .string ⟨#[91, 122, 45, 97, 93]⟩, .string ⟨#[97, 123, 50, 44, 49, 125]⟩, .string ⟨#[97, 92, 113]⟩, .string ⟨#[33, 97, 33, 98]⟩, .string ⟨#[91, 97]⟩, .string ⟨#[97, 123]⟩, .string ⟨#[97, 123, 49]⟩, .string ⟨#[97, 123, 49, 44]⟩, .string ⟨#[92, 120, 52]⟩, .string ⟨#[40, 97, 38, 98, 41]⟩, .string ⟨#[93]⟩, .string ⟨#[97, 123, 44, 50, 125]⟩, .string ⟨#[91, 97, 94, 93]⟩, .string ⟨#[92]⟩] 9)).alloc (.cells #[.int .i64 2, .int .i64 2, .int .i64 2, .int .i64 1, .int .i64 3, .int .i64 3, .int .i64 4, .int .i64 1, .int .i64 2, .int .i64 2, .int .i64 2, .int .i64 3, .int .i64 4, .int .i64 0, .int .i64 2, .int .i64 0, .int .i64 2, .int .i64 2, .int .i64 0] 3)).rangeAt (w.heap.size + 1) 0 (Kn.KP.map fun n : Nat => Value.int .i64 n)) at HR2
  change Hid (Below w.heap.size w ((w.alloc (.cells #[.string ⟨#[97, 42, 42]⟩, .string ⟨#[97, 124, 42]⟩, .string ⟨#[40, 97]⟩, .string ⟨#[97, 41]⟩, .string ⟨#[91, 97, 45, 93]⟩, .string ⟨#[91, 122, 45, 97, 93]⟩, .string ⟨#[97, 123, 50, 44, 49, 125]⟩, .string ⟨#[97, 92, 113]⟩, .string ⟨#[33, 97, 33, 98]⟩, .string ⟨#[91, 97]⟩, .string ⟨#[97, 123]⟩, .string ⟨#[97, 123, 49]⟩, .string ⟨#[97, 123, 49, 44]⟩, .string ⟨#[92, 120, 52]⟩, .string ⟨#[40, 97, 38, 98, 41]⟩, .string ⟨#[93]⟩, .string ⟨#[97, 123, 44, 50, 125]⟩, .string ⟨#[91, 97, 94, 93]⟩, .string ⟨#[92]⟩] 9)).alloc (.cells #[.int .i64 2, .int .i64 2, .int .i64 2, .int .i64 1, .int .i64 3, .int .i64 3, .int .i64 4, .int .i64 1, .int .i64 2, .int .i64 2, .int .i64 2, .int .i64 3, .int .i64 4, .int .i64 0, .int .i64 2, .int .i64 0, .int .i64 2, .int .i64 2, .int .i64 0] 3))) at HB
  generalize ((w.alloc (.cells #[.string ⟨#[97, 42, 42]⟩, .string ⟨#[97, 124, 42]⟩, .string ⟨#[40, 97]⟩, .string ⟨#[97, 41]⟩, .string ⟨#[91, 97, 45, 93]⟩, .string ⟨#[91, 122, 45, 97, 93]⟩, .string ⟨#[97, 123, 50, 44, 49, 125]⟩, .string ⟨#[97, 92, 113]⟩, .string ⟨#[33, 97, 33, 98]⟩, .string ⟨#[91, 97]⟩, .string ⟨#[97, 123]⟩, .string ⟨#[97, 123, 49]⟩, .string ⟨#[97, 123, 49, 44]⟩, .string ⟨#[92, 120, 52]⟩, .string ⟨#[40, 97, 38, 98, 41]⟩, .string ⟨#[93]⟩, .string ⟨#[97, 123, 44, 50, 125]⟩, .string ⟨#[91, 97, 94, 93]⟩, .string ⟨#[92]⟩] 9)).alloc (.cells #[.int .i64 2, .int .i64 2, .int .i64 2, .int .i64 1, .int .i64 3, .int .i64 3, .int .i64 4, .int .i64 1, .int .i64 2, .int .i64 2, .int .i64 2, .int .i64 3, .int .i64 4, .int .i64 0, .int .i64 2, .int .i64 0, .int .i64 2, .int .i64 2, .int .i64 0] 3)) = w2 at *
  go_loopw [3] (fun v wr => ∃ k : Nat, v = .int .i64 k ∧ k ≤ 19 ∧ Below w2.heap.size w2 wr) (fun v wr => (19 - intOf v).toNat)
  case atStart => exact ⟨0, rfl, by omega, Below.refl _ _⟩
  case round =>
    obtain ⟨k, rfl, hk, hB⟩ := hrel
    have HBk := Lib.hid hB
    clear hB
    by_cases hlt : k < 19
    · have d1 : decide ((k : Int) < (19 : Int)) = true := decide_eq_true (by omega)
      have d1' : decide (k < 19) = true := decide_eq_true hlt
      have c1 := Kn.kl_cell (range_kept HR1.out HBk.out) k hlt
      have HKB := Lib.hid (Kn.kl_bad k hlt)
      have h4 := Kn.kp_lt k
      have HP := Lib.hid (parse_any (Kn.KL.getD k ByteArray.empty) wr)
      have HC2 := Lib.hid (fun (w' : World) (h : Below w2.heap.size w2 w') => Kn.kp_cell (range_kept HR2.out h) k hlt)
      generalize Kn.KL.getD k ByteArray.empty = z at *
      generalize Kn.KP.getD k 0 = q at *
      go_wp2_with fail
      refine HP.out.mono ?_
      clear HP
      intro e w3 hP
      unfold PO at hP
      rw [HKB.out] at hP
      obtain ⟨rfl, hB3⟩ := hP
      have hB4 := HBk.out.trans (hB3.mono HBk.out.size)
      have ha := (Below.refl w3.heap.size w3).alloc (Nat.le_refl _) (.cells #[.slice none 0 0, .slice none 0 0] 27)
      have HB5 := Lib.hid (hB4.trans (ha.mono hB4.size))
      have c2 := HC2.out _ HB5.out
      have gq : ((q : Int) != (q : Int)) = false := by simp
      have HS := Lib.hid (same_any none none none none 0 0 0 0 [] [] (w3.alloc (.cells #[.slice none 0 0, .slice none 0 0] 27)) (Kn.nil_nodes _) (Kn.nil_nodes _) (Kn.nil_parts _) (Kn.nil_parts _))
      clear hB3 hB4 ha
      go_wp2_with (go_at_call 6; refine HS.out.mono ?_; rintro e w6 ⟨rfl, hB6⟩; have HB6 := Lib.hid (HB5.out.trans (hB6.mono HB5.out.size)); clear hB6)
      go_round
      case rel => exact ⟨k + 1, by congr 1, by omega, HB6.out⟩
      case measure => simp [intOf]; omega
    · have d1 : decide ((k : Int) < (19 : Int)) = false := decide_eq_false (by omega)
      have d1' : decide (k < 19) = false := decide_eq_false (by omega)
      go_wp2_with fail
      have HB3 := Lib.hid (HB.out.trans (HBk.out.mono HB.out.size))
      clear HR1 HR2 HB HBk d1 d1' hlt hk
      generalize hwr : wr = w3 at *
      clear hwr wr
      go_loopw [7, 8] (fun s v wr => ∃ k : Nat, v = .int .i64 k ∧ s = .string (Kn.rep k) ∧ k ≤ 201 ∧ wr = w3) (fun s v wr => (201 - intOf v).toNat)
      case atStart => exact ⟨0, rfl, rfl, by omega, rfl⟩
      case round =>
        obtain ⟨k, rfl, rfl, hk, rfl⟩ := hrel
        by_cases hlt : k < 201
        · have d1 : decide ((k : Int) < (201 : Int)) = true := decide_eq_true (by omega)
          have d1' : decide (k < 201) = true := decide_eq_true hlt
          have hno : ¬ 9223372036854775807 < (Kn.rep k).size + (⟨#[97]⟩ : ByteArray).size := by rw [Kn.rep_size, show (⟨#[97]⟩ : ByteArray).size = 1 from rfl]; omega
          have hrs := Kn.rep_succ k
          go_wp2_with fail
          go_round
          case rel => exact ⟨k + 1, by congr 1, by first | rfl | trivial | rw [← hrs], by omega, by first | rfl | trivial⟩
          case measure => simp [intOf]; omega
        · obtain rfl : k = 201 := by omega
          have d1 : decide (((201 : Nat) : Int) < (201 : Int)) = false := decide_eq_false (by omega)
          have HP := Lib.hid (parse_any (Kn.rep 201) wr)
          generalize hre : Kn.rep 201 = z at *
          have HRB : Hid (cons (by' z) = .bad true 200) := Lib.hid (hre ▸ Kn.rep_bad)
          clear hre d1 hk hlt
          go_wp2_with fail
          refine HP.out.mono ?_
          clear HP
          intro e wo0 hP
          unfold PO at hP
          rw [HRB.out] at hP
          obtain ⟨rfl, hB⟩ := hP
          have hC := hB.trans (((Below.refl wo0.heap.size wo0).alloc (Nat.le_refl _) (.cells #[.slice none 0 0, .slice none 0 0] 27)).mono hB.size)
          have HBn := Lib.hid (HB3.out.trans (hC.mono HB3.out.size))
          clear hB hC HB3
          have HB3 := HBn
          clear HBn
          go_wp2_with fail
          generalize wo0.alloc (.cells #[.slice none 0 0, .slice none 0 0] 27) = wq0 at *
          refine (parse_any _ wq0).mono ?_
          intro e wo1 hP
          unfold PO at hP
          rw [Kn.nine_bad] at hP
          obtain ⟨rfl, hB⟩ := hP
          have hC := hB.trans (((Below.refl wo1.heap.size wo1).alloc (Nat.le_refl _) (.cells #[.slice none 0 0, .slice none 0 0] 27)).mono hB.size)
          have HBn := Lib.hid (HB3.out.trans (hC.mono HB3.out.size))
          clear hB hC HB3
          have HB3 := HBn
          clear HBn
          go_wp2_with fail
          generalize wo1.alloc (.cells #[.slice none 0 0, .slice none 0 0] 27) = wq1 at *
          refine (parse_any _ wq1).mono ?_
          intro e wo2 hP
          unfold PO at hP
          rw [Kn.open_bad] at hP
          obtain ⟨rfl, hB⟩ := hP
          have hC := hB.trans (((Below.refl wo2.heap.size wo2).alloc (Nat.le_refl _) (.cells #[.slice none 0 0, .slice none 0 0] 27)).mono hB.size)
          have HBn := Lib.hid (HB3.out.trans (hC.mono HB3.out.size))
          clear hB hC HB3
          have HB3 := HBn
          clear HBn
          go_wp2_with fail
          generalize wo2.alloc (.cells #[.slice none 0 0, .slice none 0 0] 27) = wq2 at *
          refine (parse_any _ wq2).mono ?_
          intro e wo3 hP
          unfold PO at hP
          rw [Kn.parts_bad] at hP
          obtain ⟨rfl, hB⟩ := hP
          have hC := hB.trans (((Below.refl wo3.heap.size wo3).alloc (Nat.le_refl _) (.cells #[.slice none 0 0, .slice none 0 0] 27)).mono hB.size)
          have HBn := Lib.hid (HB3.out.trans (hC.mono HB3.out.size))
          clear hB hC HB3
          have HB3 := HBn
          clear HBn
          go_wp2_with fail
          generalize wo3.alloc (.cells #[.slice none 0 0, .slice none 0 0] 27) = wq3 at *
          refine (parse_any _ wq3).mono ?_
          intro e wo4 hP
          unfold PO at hP
          rw [Kn.most_ok] at hP
          obtain ⟨⟨nv, pv, rfl, hN, hP⟩, hB⟩ := hP
          obtain ⟨na4, nc4, rfl⟩ : ∃ a c, nv = .slice a 20 c := by obtain ⟨-, -, a, c, e, -⟩ := hN; exact ⟨a, c, e⟩
          obtain ⟨pa4, pc4, rfl⟩ : ∃ a c, pv = .slice a 20 c := by obtain ⟨-, -, a, c, e, -⟩ := hP; exact ⟨a, c, e⟩
          have ha := (Below.refl wo4.heap.size wo4).alloc (Nat.le_refl _) (.cells #[.slice na4 20 nc4, .slice pa4 20 pc4] 27)
          have hC := hB.trans (ha.mono hB.size)
          have HBn := Lib.hid (HB3.out.trans (hC.mono HB3.out.size))
          have HT4 := Lib.hid (heap_alloc_new wo4 (.cells #[.slice na4 20 nc4, .slice pa4 20 pc4] 27))
          have HN4 := Lib.hid (hN.kept ha)
          have HG4 : Hid (wo4.heap.size < (wo4.alloc (.cells #[.slice na4 20 nc4, .slice pa4 20 pc4] 27)).heap.size) := Lib.hid (by simp)
          have HSR := Lib.hid (World.setRow_alloc_new wo4 #[.slice none 0 0, .slice none 0 0] #[.slice na4 20 nc4, .slice pa4 20 pc4] 27)
          have H0 := Lib.hid (heap_alloc_new wo4 (.cells #[.slice none 0 0, .slice none 0 0] 27))
          clear hB hC HB3 ha hN hP
          have HB3 := HBn
          clear HBn
          go_wp2_with (refine wpList_put_tree rfl _ _ rfl wo4.heap.size _ _ _ _ _ _ rfl rfl (.slice none 0 0) (.slice none 0 0) H0.out ?_; rw [HSR.out])
          generalize wo4.alloc (.cells #[.slice na4 20 nc4, .slice pa4 20 pc4] 27) = wq4 at *
          clear H0 HSR
          refine (parse_any _ wq4).mono ?_
          intro e wo5 hP
          unfold PO at hP
          rw [Kn.up_ok] at hP
          obtain ⟨⟨nv, pv, rfl, hN, hP⟩, hB⟩ := hP
          obtain ⟨na5, nc5, rfl⟩ : ∃ a c, nv = .slice a 2 c := by obtain ⟨-, -, a, c, e, -⟩ := hN; exact ⟨a, c, e⟩
          obtain ⟨pa5, pc5, rfl⟩ : ∃ a c, pv = .slice a 1 c := by obtain ⟨-, -, a, c, e, -⟩ := hP; exact ⟨a, c, e⟩
          have ha := (Below.refl wo5.heap.size wo5).alloc (Nat.le_refl _) (.cells #[.slice na5 2 nc5, .slice pa5 1 pc5] 27)
          have hC := hB.trans (ha.mono hB.size)
          have HBn := Lib.hid (HB3.out.trans (hC.mono HB3.out.size))
          have HT4_ := Lib.hid ((hC.block _ HG4.out).trans HT4.out)
          have HN4_ := Lib.hid (HN4.out.kept hC)
          have HG4_ : Hid (wo4.heap.size < (wo5.alloc (.cells #[.slice na5 2 nc5, .slice pa5 1 pc5] 27)).heap.size) := Lib.hid (Nat.lt_of_lt_of_le HG4.out hC.size)
          clear HT4 HN4 HG4
          have HT4 := HT4_
          have HN4 := HN4_
          have HG4 := HG4_
          clear HT4_ HN4_ HG4_
          have HT5 := Lib.hid (heap_alloc_new wo5 (.cells #[.slice na5 2 nc5, .slice pa5 1 pc5] 27))
          have HN5 := Lib.hid (hN.kept ha)
          have HG5 : Hid (wo5.heap.size < (wo5.alloc (.cells #[.slice na5 2 nc5, .slice pa5 1 pc5] 27)).heap.size) := Lib.hid (by simp)
          have HSR := Lib.hid (World.setRow_alloc_new wo5 #[.slice none 0 0, .slice none 0 0] #[.slice na5 2 nc5, .slice pa5 1 pc5] 27)
          have H0 := Lib.hid (heap_alloc_new wo5 (.cells #[.slice none 0 0, .slice none 0 0] 27))
          clear hB hC HB3 ha hN hP
          have HB3 := HBn
          clear HBn
          go_wp2_with (refine wpList_put_tree rfl _ _ rfl wo5.heap.size _ _ _ _ _ _ rfl rfl (.slice none 0 0) (.slice none 0 0) H0.out ?_; rw [HSR.out])
          generalize wo5.alloc (.cells #[.slice na5 2 nc5, .slice pa5 1 pc5] 27) = wq5 at *
          clear H0 HSR
          refine (parse_any _ wq5).mono ?_
          intro e wo6 hP
          unfold PO at hP
          rw [Kn.no_ok] at hP
          obtain ⟨⟨nv, pv, rfl, hN, hP⟩, hB⟩ := hP
          obtain ⟨na6, nc6, rfl⟩ : ∃ a c, nv = .slice a 1 c := by obtain ⟨-, -, a, c, e, -⟩ := hN; exact ⟨a, c, e⟩
          obtain ⟨pa6, pc6, rfl⟩ : ∃ a c, pv = .slice a 1 c := by obtain ⟨-, -, a, c, e, -⟩ := hP; exact ⟨a, c, e⟩
          have ha := (Below.refl wo6.heap.size wo6).alloc (Nat.le_refl _) (.cells #[.slice na6 1 nc6, .slice pa6 1 pc6] 27)
          have hC := hB.trans (ha.mono hB.size)
          have HBn := Lib.hid (HB3.out.trans (hC.mono HB3.out.size))
          have HT4_ := Lib.hid ((hC.block _ HG4.out).trans HT4.out)
          have HN4_ := Lib.hid (HN4.out.kept hC)
          have HG4_ : Hid (wo4.heap.size < (wo6.alloc (.cells #[.slice na6 1 nc6, .slice pa6 1 pc6] 27)).heap.size) := Lib.hid (Nat.lt_of_lt_of_le HG4.out hC.size)
          clear HT4 HN4 HG4
          have HT4 := HT4_
          have HN4 := HN4_
          have HG4 := HG4_
          clear HT4_ HN4_ HG4_
          have HT5_ := Lib.hid ((hC.block _ HG5.out).trans HT5.out)
          have HN5_ := Lib.hid (HN5.out.kept hC)
          have HG5_ : Hid (wo5.heap.size < (wo6.alloc (.cells #[.slice na6 1 nc6, .slice pa6 1 pc6] 27)).heap.size) := Lib.hid (Nat.lt_of_lt_of_le HG5.out hC.size)
          clear HT5 HN5 HG5
          have HT5 := HT5_
          have HN5 := HN5_
          have HG5 := HG5_
          clear HT5_ HN5_ HG5_
          have HT6 := Lib.hid (heap_alloc_new wo6 (.cells #[.slice na6 1 nc6, .slice pa6 1 pc6] 27))
          have HN6 := Lib.hid (hN.kept ha)
          have HG6 : Hid (wo6.heap.size < (wo6.alloc (.cells #[.slice na6 1 nc6, .slice pa6 1 pc6] 27)).heap.size) := Lib.hid (by simp)
          have HSR := Lib.hid (World.setRow_alloc_new wo6 #[.slice none 0 0, .slice none 0 0] #[.slice na6 1 nc6, .slice pa6 1 pc6] 27)
          have H0 := Lib.hid (heap_alloc_new wo6 (.cells #[.slice none 0 0, .slice none 0 0] 27))
          clear hB hC HB3 ha hN hP
          have HB3 := HBn
          clear HBn
          go_wp2_with (refine wpList_put_tree rfl _ _ rfl wo6.heap.size _ _ _ _ _ _ rfl rfl (.slice none 0 0) (.slice none 0 0) H0.out ?_; rw [HSR.out])
          generalize wo6.alloc (.cells #[.slice na6 1 nc6, .slice pa6 1 pc6] 27) = wq6 at *
          clear H0 HSR
          refine (parse_any _ wq6).mono ?_
          intro e wo7 hP
          unfold PO at hP
          rw [Kn.dot_ok] at hP
          obtain ⟨⟨nv, pv, rfl, hN, hP⟩, hB⟩ := hP
          obtain ⟨na7, nc7, rfl⟩ : ∃ a c, nv = .slice a 3 c := by obtain ⟨-, -, a, c, e, -⟩ := hN; exact ⟨a, c, e⟩
          obtain ⟨pa7, pc7, rfl⟩ : ∃ a c, pv = .slice a 1 c := by obtain ⟨-, -, a, c, e, -⟩ := hP; exact ⟨a, c, e⟩
          have ha := (Below.refl wo7.heap.size wo7).alloc (Nat.le_refl _) (.cells #[.slice na7 3 nc7, .slice pa7 1 pc7] 27)
          have hC := hB.trans (ha.mono hB.size)
          have HBn := Lib.hid (HB3.out.trans (hC.mono HB3.out.size))
          have HT4_ := Lib.hid ((hC.block _ HG4.out).trans HT4.out)
          have HN4_ := Lib.hid (HN4.out.kept hC)
          have HG4_ : Hid (wo4.heap.size < (wo7.alloc (.cells #[.slice na7 3 nc7, .slice pa7 1 pc7] 27)).heap.size) := Lib.hid (Nat.lt_of_lt_of_le HG4.out hC.size)
          clear HT4 HN4 HG4
          have HT4 := HT4_
          have HN4 := HN4_
          have HG4 := HG4_
          clear HT4_ HN4_ HG4_
          have HT5_ := Lib.hid ((hC.block _ HG5.out).trans HT5.out)
          have HN5_ := Lib.hid (HN5.out.kept hC)
          have HG5_ : Hid (wo5.heap.size < (wo7.alloc (.cells #[.slice na7 3 nc7, .slice pa7 1 pc7] 27)).heap.size) := Lib.hid (Nat.lt_of_lt_of_le HG5.out hC.size)
          clear HT5 HN5 HG5
          have HT5 := HT5_
          have HN5 := HN5_
          have HG5 := HG5_
          clear HT5_ HN5_ HG5_
          have HT6_ := Lib.hid ((hC.block _ HG6.out).trans HT6.out)
          have HN6_ := Lib.hid (HN6.out.kept hC)
          have HG6_ : Hid (wo6.heap.size < (wo7.alloc (.cells #[.slice na7 3 nc7, .slice pa7 1 pc7] 27)).heap.size) := Lib.hid (Nat.lt_of_lt_of_le HG6.out hC.size)
          clear HT6 HN6 HG6
          have HT6 := HT6_
          have HN6 := HN6_
          have HG6 := HG6_
          clear HT6_ HN6_ HG6_
          have HT7 := Lib.hid (heap_alloc_new wo7 (.cells #[.slice na7 3 nc7, .slice pa7 1 pc7] 27))
          have HN7 := Lib.hid (hN.kept ha)
          have HG7 : Hid (wo7.heap.size < (wo7.alloc (.cells #[.slice na7 3 nc7, .slice pa7 1 pc7] 27)).heap.size) := Lib.hid (by simp)
          have HSR := Lib.hid (World.setRow_alloc_new wo7 #[.slice none 0 0, .slice none 0 0] #[.slice na7 3 nc7, .slice pa7 1 pc7] 27)
          have H0 := Lib.hid (heap_alloc_new wo7 (.cells #[.slice none 0 0, .slice none 0 0] 27))
          clear hB hC HB3 ha hN hP
          have HB3 := HBn
          clear HBn
          have q4 : (wo7.alloc (.cells #[.slice na7 3 nc7, .slice pa7 1 pc7] 27)).cell? ⟨wo4.heap.size, 1, none⟩ = some (.slice pa4 20 pc4) := by simp only [World.cell?, HT4.out]; rfl
          go_wp2_with (refine wpList_put_tree rfl _ _ rfl wo7.heap.size _ _ _ _ _ _ rfl rfl (.slice none 0 0) (.slice none 0 0) H0.out ?_; rw [HSR.out])
          generalize wo7.alloc (.cells #[.slice na7 3 nc7, .slice pa7 1 pc7] 27) = wq7 at *
          clear H0 HSR q4
          obtain ⟨b5, o5, rfl, hr5, -⟩ := HN5.out.at (i := 0) (by decide)
          obtain ⟨b5', o5', e5, hs5, -⟩ := HN5.out.at (i := 1) (by decide)
          cases e5
          obtain ⟨b6, o6, rfl, hr6, -⟩ := HN6.out.at (i := 0) (by decide)
          obtain ⟨b7, o7, rfl, hr7, -⟩ := HN7.out.at (i := 0) (by decide)
          obtain ⟨b7', o7', e7, hs7, -⟩ := HN7.out.at (i := 1) (by decide)
          cases e7
          have R50 := Lib.hid hr5
          have R51 := Lib.hid hs5
          have R60 := Lib.hid hr6
          have R70 := Lib.hid hr7
          have R71 := Lib.hid hs7
          have y5 : wq7.cell? ⟨wo5.heap.size, 0, none⟩ = some (.slice (some ⟨b5, o5, none⟩) 2 nc5) := by simp only [World.cell?, HT5.out]; rfl
          have y6 : wq7.cell? ⟨wo6.heap.size, 0, none⟩ = some (.slice (some ⟨b6, o6, none⟩) 1 nc6) := by simp only [World.cell?, HT6.out]; rfl
          have y7 : wq7.cell? ⟨wo7.heap.size, 0, none⟩ = some (.slice (some ⟨b7, o7, none⟩) 3 nc7) := by simp only [World.cell?, HT7.out]; rfl
          have HY5 := Lib.hid y5
          have HY6 := Lib.hid y6
          have HY7 := Lib.hid y7
          clear hr5 hs5 hr6 hr7 hs7 y5 y6 y7 HT4 HT5 HT6 HT7 HN4 HN5 HN6 HN7
          have HRg := Lib.hid (fun w => range_any 33 255 w (by omega) (by omega) (by omega) (by omega))
          have HAl := Lib.hid (fun w => all_any w)
          have HAw := Lib.hid (fun w => rawake_any w)
          refine region_mix [(false, 0), (false, 1), (false, 2), (false, 3), (false, 4), (false, 5), (false, 6), (false, 7), (false, 8), (false, 9), (false, 10), (false, 11), (false, 12), (false, 13), (true, 14), (false, 15), (false, 16), (false, 17), (false, 18), (false, 19), (false, 20), (false, 21), (false, 22), (false, 23), (false, 24), (false, 25), (false, 26), (false, 27), (false, 28), (false, 29), (false, 30), (false, 31), (false, 32), (false, 33), (false, 34), (false, 35), (false, 36), (false, 37), (false, 38), (false, 39), (false, 40), (false, 41), (false, 42), (false, 43), (false, 44), (false, 45), (false, 46), (false, 47), (false, 48), (false, 49), (false, 50), (false, 51), (false, 52), (true, 53), (true, 54), (false, 55), (false, 56), (false, 57), (false, 58), (false, 59), (false, 60), (false, 61), (false, 62), (true, 63), (false, 64), (false, 65), (false, 66), (true, 67), (false, 68)] (fun w' => Below wq7.heap.size wq7 w') (by kernel_rfl) (by kernel_rfl) ((Below.refl _ _).drew) ?_
          simp only [planOps, List.map_cons, List.map_nil, List.getD_cons_zero, List.getD_cons_succ, List.length_cons, List.length_nil, List.drop_succ_cons, List.drop_zero, List.append_eq, List.cons_append, List.nil_append]
          refine mix_seg (seg := [_, _, _, _, _, _, _, _, _, _, _, _, _, _]) rfl ((Below.refl _ _).drew) ?_
          intro ι hι F hF
          have f5 := fun n => ((hF n).cell (p := ⟨wo5.heap.size, 0, none⟩) HG5.out).trans HY5.out
          have f6 := fun n => ((hF n).cell (p := ⟨wo6.heap.size, 0, none⟩) HG6.out).trans HY6.out
          have f7 := fun n => ((hF n).cell (p := ⟨wo7.heap.size, 0, none⟩) HG7.out).trans HY7.out
          have s50 := fun n => Kn.set_in (range_kept R50.out ((Below.refl _ _).trans (hF n)))
          have s51 := fun n => range_kept R51.out ((Below.refl _ _).trans (hF n))
          have s60 := fun n => show (F n).cell? ⟨b6, o6, none⟩ = some (.int .u8 1) from (range_kept R60.out ((Below.refl _ _).trans (hF n))) 0 _ rfl
          have s70 := fun n => Kn.set_in (range_kept R70.out ((Below.refl _ _).trans (hF n)))
          have s71 := fun n => Kn.set_in1 (range_kept R71.out ((Below.refl _ _).trans (hF n)))
          repeat (first
            | (refine BigFrame.wpQuiet_want rfl (fun K hK => ?_); refine quiet_load_mid 34 _ rfl b5 (o5 + 1) rfl [.int .u64 (wd (rangeN 33 255) 0), .int .u64 (wd (rangeN 33 255) 1), .int .u64 (wd (rangeN 33 255) 2), .int .u64 (wd (rangeN 33 255) 3)] _ (fun w' ⟨n, e⟩ => e ▸ s50 n) Try.underlying34 rfl (by kernel_rfl) ?_; refine hK _ ?_; clear hK K; simp only [Act.put, List.setIfInBounds_toArray, List.set_cons_zero, List.set_cons_succ])
            | (go_big_quiet_step (fail)))
          refine wpQuiet_nil ?_
          clear f5 f6 f7 s50 s51 s60 s70 s71 hF hι F
          refine mix_eff (fun K hK => ?_)
          go_wp2_with (go_at_call 7; refine (HRg.out _).mono ?_; rintro e v1 ⟨rfl, hb⟩)
          have hB1 : Below wq7.heap.size wq7 v1 := (Below.refl wq7.heap.size wq7).drew.trans (hb.mono (Below.refl wq7.heap.size wq7).drew.size)
          clear hb
          refine mix_on hK hB1 ?_
          clear hK K
          refine mix_seg (seg := [_, _, _, _, _, _, _, _, _, _, _, _, _, _, _, _, _, _, _, _, _, _, _, _, _, _, _, _, _, _, _, _, _, _, _, _, _, _]) rfl hB1 ?_
          intro ι hι F hF
          have f5 := fun n => ((hF n).cell (p := ⟨wo5.heap.size, 0, none⟩) HG5.out).trans HY5.out
          have f6 := fun n => ((hF n).cell (p := ⟨wo6.heap.size, 0, none⟩) HG6.out).trans HY6.out
          have f7 := fun n => ((hF n).cell (p := ⟨wo7.heap.size, 0, none⟩) HG7.out).trans HY7.out
          have s50 := fun n => Kn.set_in (range_kept R50.out ((Below.refl _ _).trans (hF n)))
          have s51 := fun n => range_kept R51.out ((Below.refl _ _).trans (hF n))
          have s60 := fun n => show (F n).cell? ⟨b6, o6, none⟩ = some (.int .u8 1) from (range_kept R60.out ((Below.refl _ _).trans (hF n))) 0 _ rfl
          have s70 := fun n => Kn.set_in (range_kept R70.out ((Below.refl _ _).trans (hF n)))
          have s71 := fun n => Kn.set_in1 (range_kept R71.out ((Below.refl _ _).trans (hF n)))
          repeat (first
            | (refine BigFrame.wpQuiet_want rfl (fun K hK => ?_); refine Kn.quiet_eql 34 _ _ _ rfl _ _ rfl rfl (by kernel_rfl) true (fun w' => Kn.set_eq (rangeN 33 255) (by decide +kernel) w') ?_; refine hK _ ?_; clear hK K; simp only [Act.put, List.setIfInBounds_toArray, List.set_cons_zero, List.set_cons_succ])
            | (refine BigFrame.wpQuiet_want rfl (fun K hK => ?_); refine quiet_load_mid 36 _ rfl b5 (o5 + 9) rfl (nd9 ⟨5, 0, 0, 0, 2, 2⟩) _ (fun w' ⟨n, e⟩ => e ▸ s51 n) Try.underlying36 rfl (sizeNodeL ⟨5, 0, 0, 0, 2, 2⟩) ?_; refine hK _ ?_; clear hK K; simp only [Act.put, List.setIfInBounds_toArray, List.set_cons_zero, List.set_cons_succ])
            | (refine BigFrame.wpQuiet_want rfl (fun K hK => ?_); refine Kn.quiet_eql 36 _ _ _ rfl _ _ rfl rfl (by kernel_rfl) true (fun w' => Kn.node_eq ⟨5, 0, 0, 0, 2, 2⟩ (by decide +kernel) w') ?_; refine hK _ ?_; clear hK K; simp only [Act.put, List.setIfInBounds_toArray, List.set_cons_zero, List.set_cons_succ])
            | (refine BigFrame.wpQuiet_want rfl (fun K hK => ?_); refine quiet_load_mid 34 _ rfl b7 (o7 + 1) rfl [.int .u64 (wd (ofN [46]) 0), .int .u64 (wd (ofN [46]) 1), .int .u64 (wd (ofN [46]) 2), .int .u64 (wd (ofN [46]) 3)] _ (fun w' ⟨n, e⟩ => e ▸ s70 n) Try.underlying34 rfl (by kernel_rfl) ?_; refine hK _ ?_; clear hK K; simp only [Act.put, List.setIfInBounds_toArray, List.set_cons_zero, List.set_cons_succ])
            | (go_big_quiet_step (fail)))
          refine wpQuiet_nil ?_
          clear f5 f6 f7 s50 s51 s60 s70 s71 hF hι F
          refine mix_eff (fun K hK => ?_)
          go_wp2
          have hB2 : Below wq7.heap.size wq7 (v1.alloc (.cells #[.int .u8 46] 5)) := hB1.trans (((Below.refl v1.heap.size v1).alloc (Nat.le_refl _) (.cells #[.int .u8 46] 5)).mono hB1.size)
          refine mix_on hK hB2 ?_
          clear hK K
          have hby := Lt.bytes_lit v1 [46] (by decide) #[.int .u8 46] rfl (by decide)
          refine mix_eff (fun K hK => ?_)
          go_wp2_with (go_at_call 8; refine (of_any _ [46] _ hby).mono ?_; rintro e v2 ⟨rfl, hb⟩)
          have hB3 := hB2.trans (hb.mono hB2.size)
          clear hb hby hB1
          refine mix_on hK hB3 ?_
          clear hK K
          refine mix_seg (seg := [_, _, _, _, _, _, _, _]) rfl hB3 ?_
          intro ι hι F hF
          have f5 := fun n => ((hF n).cell (p := ⟨wo5.heap.size, 0, none⟩) HG5.out).trans HY5.out
          have f6 := fun n => ((hF n).cell (p := ⟨wo6.heap.size, 0, none⟩) HG6.out).trans HY6.out
          have f7 := fun n => ((hF n).cell (p := ⟨wo7.heap.size, 0, none⟩) HG7.out).trans HY7.out
          have s50 := fun n => Kn.set_in (range_kept R50.out ((Below.refl _ _).trans (hF n)))
          have s51 := fun n => range_kept R51.out ((Below.refl _ _).trans (hF n))
          have s60 := fun n => show (F n).cell? ⟨b6, o6, none⟩ = some (.int .u8 1) from (range_kept R60.out ((Below.refl _ _).trans (hF n))) 0 _ rfl
          have s70 := fun n => Kn.set_in (range_kept R70.out ((Below.refl _ _).trans (hF n)))
          have s71 := fun n => Kn.set_in1 (range_kept R71.out ((Below.refl _ _).trans (hF n)))
          repeat (first
            | (refine BigFrame.wpQuiet_want rfl (fun K hK => ?_); refine Kn.quiet_eql 34 _ _ _ rfl _ _ rfl rfl (by kernel_rfl) true (fun w' => Kn.set_eq (ofN [46]) (by decide +kernel) w') ?_; refine hK _ ?_; clear hK K; simp only [Act.put, List.setIfInBounds_toArray, List.set_cons_zero, List.set_cons_succ])
            | (refine BigFrame.wpQuiet_want rfl (fun K hK => ?_); refine quiet_load_mid 34 _ rfl b7 (o7 + 9 + 1) rfl [.int .u64 (wd (full) 0), .int .u64 (wd (full) 1), .int .u64 (wd (full) 2), .int .u64 (wd (full) 3)] _ (fun w' ⟨n, e⟩ => e ▸ s71 n) Try.underlying34 rfl (by kernel_rfl) ?_; refine hK _ ?_; clear hK K; simp only [Act.put, List.setIfInBounds_toArray, List.set_cons_zero, List.set_cons_succ])
            | (go_big_quiet_step (fail)))
          refine wpQuiet_nil ?_
          clear f5 f6 f7 s50 s51 s60 s70 s71 hF hι F
          refine mix_eff (fun K hK => ?_)
          go_wp2_with (go_at_call 9; refine (HAl.out _).mono ?_; rintro e v3 ⟨rfl, hb⟩)
          have hB4 := hB3.trans (hb.mono hB3.size)
          clear hb
          refine mix_on hK hB4 ?_
          clear hK K
          refine mix_seg (seg := [_, _, _]) rfl hB4 ?_
          intro ι hι F hF
          repeat (first
            | (refine BigFrame.wpQuiet_want rfl (fun K hK => ?_); refine Kn.quiet_eql 34 _ _ _ rfl _ _ rfl rfl (by kernel_rfl) true (fun w' => Kn.set_eq (full) (by decide +kernel) w') ?_; refine hK _ ?_; clear hK K; simp only [Act.put, List.setIfInBounds_toArray, List.set_cons_zero, List.set_cons_succ])
            | (go_big_quiet_step (fail)))
          refine wpQuiet_nil ?_
          clear hF hι F
          refine mix_eff (fun K hK => ?_)
          go_wp2_with (go_at_call 10; refine (HAw.out _).mono ?_; rintro e v4 ⟨rfl, hb⟩)
          have hB5 := hB4.trans (hb.mono hB4.size)
          clear hb
          refine mix_on hK hB5 ?_
          clear hK K
          refine mix_seg (seg := [_]) (rest := []) rfl hB5 ?_
          intro ι hι F hF
          repeat (go_big_quiet_step (fail))
          refine wpQuiet_nil ?_
          clear hF hι F
          show wpList _ _ _ _ _ _
          go_wp2
          refine NoPanic.normal ?_
          go_wp2
          go_ret
          exact ⟨rfl, HB3.out.trans (hB5.mono HB3.out.size)⟩
end Go.Proofs.Ytbmoanhdpnaocaa
