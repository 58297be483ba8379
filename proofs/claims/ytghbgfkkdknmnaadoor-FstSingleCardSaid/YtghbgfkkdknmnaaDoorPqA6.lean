/- Several texts in one. -/
import Derived.Test.YtghbgfkkdknmnaaDoorPqA3
import Derived.Deep.Cut
import Derived.Deep.CutRange
import Derived.Test.YtghbgfkkdknmnaaDoorPqA5
namespace Go.Proofs.YtghbgfkkdknmnaaDoor
open Go.RowKit Sets Nf
namespace Nf
theorem meas8 {j n : Nat} (h : j < n) : ((n : Int) - ((j + 1 : Nat) : Int)).toNat < ((n : Int) - (j : Int)).toNat := by omega
theorem nat_wrap {j : Nat} (h : j ≤ 100000) : wrap64 ((j : Int) + 1) = ((j + 1 : Nat) : Int) := by unfold wrap64; omega
theorem int_wrap {j : Int} (h0 : 0 ≤ j) (h : j ≤ 100000) : wrap64 (j + 1) = j + 1 := by unfold wrap64; omega
set_option maxHeartbeats 3200000 in
set_option maxRecDepth 100000 in
theorem rising_any (a : Option Addr) (cap n : Nat) (l : List Int) (w : World) (h : NumsIn w a l) (hl : l.length ≤ 1000) (hn : n ≤ 1000) :
    Calls Tryd.prog 49 #[.slice a l.length cap, .int .i64 n] w fun e w' => e = .returned (.bool (rise n l)) ∧ w = w' := by
  have HX : Hid (rise n l = riseF n 0 (l.drop 0)) := Lib.hid rfl
  have HN := Lib.hid h
  have HL := Lib.hid hl
  have HB := Lib.hid hn
  clear h hl hn
  go_enter Tryd.func49, Tryd.ntmps49
  go_wp2_with fail
  go_loopw [5, 10] (fun x i wr => ∃ (j : Nat) (low : Int), i = .int .i64 j ∧ x = .int .i64 low ∧ j ≤ l.length ∧ wr = w ∧ Hid (0 ≤ low ∧ low ≤ 1000 ∧ rise n l = riseF n low (l.drop j))) (fun _ i _ => ((l.length : Int) - intOf i).toNat)
  case atStart => exact ⟨0, 0, rfl, rfl, Nat.zero_le _, rfl, Lib.hid ⟨by decide, by decide, HX.out⟩⟩
  case round =>
    obtain ⟨j, low, rfl, rfl, hj, rfl, HI⟩ := hrel
    by_cases hlt : j < l.length
    · have hdd : decide ((j : Int) < (l.length : Int)) = true := decide_eq_true (by omega)
      have hd2 : decide (j < l.length) = true := decide_eq_true hlt
      obtain ⟨b, o, rfl, hc⟩ := HN.out j hlt
      have HS := Lib.hid (riseF_drop n low l j hlt)
      have HW1 : Hid (wrap64 ((j : Int) + 1) = ((j + 1 : Nat) : Int)) := Lib.hid (nat_wrap (by have := HL.out; omega))
      generalize l.getD j 0 = k at *
      by_cases h1 : k < low
      · have hd3 : decide (k < low) = true := decide_eq_true h1
        have HR : Hid (rise n l = false) := Lib.hid (by rw [HI.out.2.2, HS.out, decide_eq_false (by omega), Bool.false_and])
        clear h1
        go_wp2_with fail
        go_ret
        exact ⟨by rw [HR.out]; rfl, rfl⟩
      · have hd3 : decide (k < low) = false := decide_eq_false h1
        by_cases h2 : (n : Int) ≤ k
        · have hd4 : decide ((n : Int) ≤ k) = true := decide_eq_true h2
          have HR : Hid (rise n l = false) := Lib.hid (by rw [HI.out.2.2, HS.out, decide_eq_false (p := k < (n : Int)) (by omega), Bool.false_and, Bool.and_false])
          clear h1 h2
          go_wp2_with fail
          go_ret
          exact ⟨by rw [HR.out]; rfl, rfl⟩
        · have hd4 : decide ((n : Int) ≤ k) = false := decide_eq_false h2
          have HW2 : Hid (wrap64 (k + 1) = k + 1) := Lib.hid (int_wrap (by have := HI.out; omega) (by have := HB.out; omega))
          have HR : Hid (0 ≤ k + 1 ∧ k + 1 ≤ 1000 ∧ rise n l = riseF n (k + 1) (l.drop (j + 1))) := Lib.hid ⟨by have := HI.out; omega, by have := HB.out; omega, by rw [HI.out.2.2, HS.out, decide_eq_true (p := low ≤ k) (by omega), decide_eq_true (p := k < (n : Int)) (by omega), Bool.true_and, Bool.true_and]⟩
          clear h1 h2
          go_wp2_with fail
          go_roundw
          case rel => exact ⟨j + 1, k + 1, by rw [HW1.out], by rw [HW2.out], hlt, by first | rfl | trivial, HR⟩
          case measure => rw [HW1.out]; exact meas8 hlt
    · have hje : j = l.length := by omega
      have hdd : decide ((j : Int) < (l.length : Int)) = false := decide_eq_false (by omega)
      have hd2 : decide (j < l.length) = false := decide_eq_false hlt
      have HR : Hid (rise n l = true) := Lib.hid (by rw [HI.out.2.2, riseF_end _ _ _ _ (by omega)])
      clear hje
      go_wp2_with fail
      go_ret
      exact ⟨by rw [HR.out]; rfl, rfl⟩
end Nf
end Go.Proofs.YtghbgfkkdknmnaaDoor
namespace Go.Proofs.YtghbgfkkdknmnaaDoor
open Go.RowKit Sets Nf
namespace Nf
theorem all_take {α : Type} (p : α → Bool) (l : List α) (j : Nat) (h : l.length ≤ j) : (l.take j).all p = l.all p := by rw [List.take_of_length_le h]
theorem all_snoc {α : Type} (p : α → Bool) (l : List α) (d : α) (j : Nat) (h : j < l.length) : (l.take (j + 1)).all p = ((l.take j).all p && p (l.getD j d)) := by
  rw [List.take_succ_eq_append_getElem h, List.all_append, List.getD_eq_getElem?_getD, List.getElem?_eq_getElem h]; simp
theorem all_stop {α : Type} {p : α → Bool} {l : List α} {d : α} {j : Nat} (h : j < l.length) (hp : p (l.getD j d) = false) : l.all p = false := by
  rw [List.all_eq_false]
  exact ⟨_, getD_mem h, by rw [hp]; decide⟩
set_option maxHeartbeats 3200000 in
set_option maxRecDepth 100000 in
theorem nright_any (x : Ma) (m : Mc) (w : World) (h : MAt w x m) (hf : Fine m) :
    Calls Tryd.prog 24 #[mv x m] w fun e w' => e = .returned (.bool (rightM m)) ∧ Below w.heap.size w w' := by
  have HM := Lib.hid h
  have HF := Lib.hid hf
  clear h hf
  have HP : Hid ((decide (m.sp.length ≤ 250) && (decide (m.fo.length = m.sp.length) && decide (m.la.length = m.sp.length))) = false → rightM m = false) := Lib.hid (fun h => by
    unfold rightM
    rw [← Bool.and_assoc, ← Bool.and_assoc]
    rw [← Bool.and_assoc] at h
    rw [h, Bool.false_and])
  rw [mv_eq]
  go_enter Tryd.func24, Tryd.ntmps24
  go_upto_region 1 with fail
  have HBX := Lib.hid (BoxM.new w x m)
  have HBl := Lib.hid ((Below.refl w.heap.size w).alloc (Nat.le_refl _) (.cells (mc x m) 27))
  have HSZ : Hid (w.heap.size + 1 ≤ (w.alloc (.cells (mc x m) 27)).heap.size) := Lib.hid (by simp)
  have c0 := HBX.out.c0
  have c1 := HBX.out.c1
  have c2 := HBX.out.c2
  have c3 := HBX.out.c3
  generalize w.alloc (.cells (mc x m) 27) = w1 at *
  generalize hB : w.heap.size = B at *
  have HBB := Lib.hid hB
  clear hB
  by_cases hsh : m.sp.length ≤ 250 ∧ m.fo.length = m.sp.length ∧ m.la.length = m.sp.length
  · obtain ⟨s1, s2, s3⟩ := hsh
    have d1 : decide ((250 : Int) < (m.sp.length : Int)) = false := decide_eq_false (by omega)
    have d1' : decide (250 < m.sp.length) = false := decide_eq_false (by omega)
    have HRR : Hid (rightM m = (m.sp.all (fun s => decide (s.2 ≤ 2)) && (m.fo.all (rise m.sp.length) && rise m.sp.length m.fi))) := Lib.hid (by
      unfold rightM; rw [decide_eq_true s1, decide_eq_true s2, decide_eq_true s3]; rfl)
    have d2 : (((m.fo.length : Nat) : Int) != ((m.sp.length : Nat) : Int)) = false := by rw [s2]; simp
    have d3 : (((m.la.length : Nat) : Int) != ((m.sp.length : Nat) : Int)) = false := by rw [s3]; simp
    have HS2 := Lib.hid s2
    have HS3 := Lib.hid s3
    have HS1 := Lib.hid s1
    clear s1 s2 s3
    go_upto_region 4 with fail
    go_wp2_with fail
    go_loopw [30] (fun i wr => ∃ j : Nat, i = .int .i64 j ∧ j ≤ m.sp.length ∧ Hid ((m.sp.take j).all (fun s => decide (s.2 ≤ 2)) = true) ∧ Hid (Below w1.heap.size w1 wr)) (fun i _ => ((m.sp.length : Int) - intOf i).toNat)
    case atStart => exact ⟨0, rfl, Nat.zero_le _, Lib.hid (by simp), Lib.hid (Below.refl _ _)⟩
    case round =>
      obtain ⟨j, rfl, hj, HA, HB1⟩ := hrel
      generalize hwr : wr = w2 at *
      clear hwr wr c0 c1 c2 c3
      have HBX2 := Lib.hid (HBX.out.kept HB1.out HBX.out.lt)
      have c1 := HBX2.out.c1
      have c2 := HBX2.out.c2
      have HM2 := Lib.hid ((HM.out.kept (HBB.out ▸ HBl.out)).kept HB1.out)
      by_cases hlt : j < m.sp.length
      · have hdd : decide ((j : Int) < (m.sp.length : Int)) = true := decide_eq_true (by omega)
        have hd2 : decide (j < m.sp.length) = true := decide_eq_true hlt
        obtain ⟨b, o, hsa, hc⟩ := HM2.out.sp j hlt
        rw [hsa]
        clear hsa
        have HS := Lib.hid (all_snoc (fun s => decide (s.2 ≤ 2)) m.sp (0, 0) j hlt)
        have HST := Lib.hid (@all_stop _ (fun s => decide (s.2 ≤ 2)) m.sp (0, 0) j hlt)
        have HK := Lib.hid (HF.out.set _ (getD_mem (d := (0, 0)) hlt))
        have HW1 : Hid (wrap64 ((j : Int) + 1) = ((j + 1 : Nat) : Int)) := Lib.hid (nat_wrap (by have := HF.out.sp; omega))
        generalize m.sp.getD j (0, 0) = S at *
        have HSZ2 := Lib.hid HB1.out.size
        by_cases hk : S.2 ≤ 2
        · have hk2 : decide ((2 : Int) < (S.2 : Int)) = false := decide_eq_false (by omega)
          have hk3 : decide (2 < S.2) = false := decide_eq_false (by omega)
          have HA3 : Hid ((m.sp.take (j + 1)).all (fun s => decide (s.2 ≤ 2)) = true) := Lib.hid (by rw [HS.out, HA.out, decide_eq_true hk]; rfl)
          clear hk
          go_wp2_with (first | (refine wpList_load_spot rfl (.tmp 32) rfl b (o + j * 5) S rfl hc ?_) | (refine wpList_store_spot rfl (.tmp 5) (.tmp 33) rfl S rfl rfl ?_; unfold row5))
          go_roundw
          case rel => exact ⟨j + 1, by rw [HW1.out], hlt, HA3, Lib.hid (HB1.out.alloc HSZ2.out _)⟩
          case measure => rw [HW1.out]; exact meas8 hlt
        · have hk2 : decide ((2 : Int) < (S.2 : Int)) = true := decide_eq_true (by omega)
          have hk3 : decide (2 < S.2) = true := decide_eq_true (by omega)
          have HR : Hid (rightM m = false) := Lib.hid (by rw [HRR.out, HST.out (decide_eq_false hk), Bool.false_and])
          clear hk
          go_wp2_with (first | (refine wpList_load_spot rfl (.tmp 32) rfl b (o + j * 5) S rfl hc ?_) | (refine wpList_store_spot rfl (.tmp 5) (.tmp 33) rfl S rfl rfl ?_; unfold row5))
          go_ret
          exact ⟨by rw [HR.out]; rfl, by rw [HBB.out]; exact HBl.out.trans ((HB1.out.alloc HSZ2.out _).mono (Nat.le_of_lt HBX.out.lt))⟩
      · have hdd : decide ((j : Int) < (m.sp.length : Int)) = false := decide_eq_false (by omega)
        have hd2 : decide (j < m.sp.length) = false := decide_eq_false hlt
        have HRR2 : Hid (rightM m = (m.fo.all (rise m.sp.length) && rise m.sp.length m.fi)) := Lib.hid (by rw [HRR.out, ← all_take _ m.sp j (by omega), HA.out, Bool.true_and])
        clear HRR hlt
        go_wp2_with fail
        go_loopw [41] (fun i wr => ∃ j : Nat, i = .int .i64 j ∧ j ≤ m.fo.length ∧ wr = w2 ∧ Hid ((m.fo.take j).all (rise m.sp.length) = true)) (fun i _ => ((m.fo.length : Int) - intOf i).toNat)
        case atStart => exact ⟨0, rfl, Nat.zero_le _, rfl, Lib.hid (by simp)⟩
        case round =>
          obtain ⟨i, rfl, hi, rfl, HA2⟩ := hrel
          by_cases hlt : i < m.fo.length
          · have hdd : decide ((i : Int) < (m.fo.length : Int)) = true := decide_eq_true (by omega)
            have hd2 : decide (i < m.fo.length) = true := decide_eq_true hlt
            obtain ⟨b, o, a, cap, hoa, hc, hn⟩ := HM2.out.fo i hlt
            rw [hoa] at c2 ⊢
            clear hoa
            have HS := Lib.hid (all_snoc (rise m.sp.length) m.fo [] i hlt)
            have HST := Lib.hid (@all_stop _ (rise m.sp.length) m.fo [] i hlt)
            have HK := Lib.hid (HF.out.each _ (getD_mem (d := []) hlt))
            have HW1 : Hid (wrap64 ((i : Int) + 1) = ((i + 1 : Nat) : Int)) := Lib.hid (nat_wrap (by have := HF.out.fo; omega))
            generalize m.fo.getD i [] = L at *
            have HRI := Lib.hid (rising_any a cap m.sp.length L wr hn HK.out.1 HF.out.sp)
            clear hn
            cases hr : rise m.sp.length L
            · have HR : Hid (rightM m = false) := Lib.hid (by rw [HRR2.out, HST.out hr, Bool.false_and])
              rw [hr] at HRI
              clear hr
              go_wp2_with (go_at_call 49; refine HRI.out.mono ?_; rintro e w9 ⟨rfl, rfl⟩)
              go_ret
              exact ⟨by rw [HR.out]; rfl, by rw [HBB.out]; exact HBl.out.trans (HB1.out.mono (Nat.le_of_lt HBX.out.lt))⟩
            · have HA3 : Hid ((m.fo.take (i + 1)).all (rise m.sp.length) = true) := Lib.hid (by rw [HS.out, HA2.out, hr]; rfl)
              rw [hr] at HRI
              clear hr
              go_wp2_with (go_at_call 49; refine HRI.out.mono ?_; rintro e w9 ⟨rfl, rfl⟩)
              go_roundw
              case rel => exact ⟨i + 1, by rw [HW1.out], hlt, by first | rfl | trivial, HA3⟩
              case measure => rw [HW1.out]; exact meas8 hlt
          · have hdd : decide ((i : Int) < (m.fo.length : Int)) = false := decide_eq_false (by omega)
            have hd2 : decide (i < m.fo.length) = false := decide_eq_false hlt
            have HRR3 : Hid (rightM m = rise m.sp.length m.fi) := Lib.hid (by rw [HRR2.out, ← all_take _ m.fo i (by omega), HA2.out, Bool.true_and])
            have HRI := Lib.hid (rising_any x.fa x.fc m.sp.length m.fi wr HM2.out.fi HF.out.fi HF.out.sp)
            clear hlt
            go_wp2_with (go_at_call 49; refine HRI.out.mono ?_; rintro e w9 ⟨rfl, rfl⟩)
            go_ret
            exact ⟨by rw [HRR3.out]; rfl, by rw [HBB.out]; exact HBl.out.trans (HB1.out.mono (Nat.le_of_lt HBX.out.lt))⟩
  · have HR : Hid (rightM m = false) := Lib.hid (HP.out (by
      rw [Bool.eq_false_iff]
      intro h
      simp only [Bool.and_eq_true, decide_eq_true_iff] at h
      exact hsh h))
    by_cases s1 : m.sp.length ≤ 250
    · have d1 : decide ((250 : Int) < (m.sp.length : Int)) = false := decide_eq_false (by omega)
      have d1' : decide (250 < m.sp.length) = false := decide_eq_false (by omega)
      by_cases s2 : m.fo.length = m.sp.length
      · have s3 : ¬ m.la.length = m.sp.length := fun e => hsh ⟨s1, s2, e⟩
        have d2 : (((m.fo.length : Nat) : Int) != ((m.sp.length : Nat) : Int)) = false := by rw [s2]; simp
        have d3 : (((m.la.length : Nat) : Int) != ((m.sp.length : Nat) : Int)) = true := by rw [bne_iff_ne]; omega
        clear s1 s2 s3 hsh
        go_wp2_with fail
        go_ret
        exact ⟨by rw [HR.out]; rfl, by rw [HBB.out]; exact HBl.out⟩
      · have d2 : (((m.fo.length : Nat) : Int) != ((m.sp.length : Nat) : Int)) = true := by rw [bne_iff_ne]; omega
        clear s1 s2 hsh
        go_wp2_with fail
        go_ret
        exact ⟨by rw [HR.out]; rfl, by rw [HBB.out]; exact HBl.out⟩
    · have d1 : decide ((250 : Int) < (m.sp.length : Int)) = true := decide_eq_true (by omega)
      have d1' : decide (250 < m.sp.length) = true := decide_eq_true (by omega)
      clear s1 hsh
      go_wp2_with fail
      go_ret
      exact ⟨by rw [HR.out]; rfl, by rw [HBB.out]; exact HBl.out⟩
end Nf
end Go.Proofs.YtghbgfkkdknmnaaDoor
namespace Go.Proofs.YtghbgfkkdknmnaaDoor
open Go.RowKit Sets Nf
namespace Nf
def bs (s : ByteArray) : List Nat := s.data.toList.map UInt8.toNat
theorem bs_lt (s : ByteArray) : ∀ x ∈ bs s, x < 256 := by
  intro x hx
  obtain ⟨u, -, rfl⟩ := List.mem_map.1 hx
  exact u.toNat_lt
theorem bs_len (s : ByteArray) : (bs s).length = s.size := by
  unfold bs
  rw [List.length_map, Array.length_toList]; rfl
theorem index_bs (s : ByteArray) (k : Nat) (i : Int) (hi : i = k) (h : k < s.size) (w : World) : (Instr.index 9 (.string s) (.int .i64 i)).run Tryd.prog w = .ok (.int .u8 ((bs s).getD k 0 : Nat)) w := by
  subst hi
  rw [run_index_string w _ _ _ _ Tryd.underlying9, dif_pos ⟨by omega, by omega⟩]
  simp only [Int.toNat_natCast]
  congr 2
  unfold bs
  have h' : k < s.data.size := h
  rw [List.getD_eq_getElem?_getD, List.getElem?_map, Array.getElem?_toList, Array.getElem?_eq_getElem h']
  rfl
theorem last_snoc (m : Mc) (j : Nat) : ofN ((List.range (j + 1)).filter fun k => m.la.getD k false) = if m.la.getD j false then ofN ((List.range j).filter fun k => m.la.getD k false) ||| 2 ^ j else ofN ((List.range j).filter fun k => m.la.getD k false) := by
  rw [List.range_succ, List.filter_append, List.filter_cons]
  cases m.la.getD j false
  · simp
  · simp [ofN_snoc]
set_option maxHeartbeats 3200000 in
set_option maxRecDepth 100000 in
theorem last_any (x : Ma) (m : Mc) (w : World) (h : MAt w x m) (hl : m.la.length ≤ 250) :
    Calls Tryd.prog 42 #[.agg (mc x m)] w fun e w' => e = .returned (.agg (setC (lastN m))) ∧ Below w.heap.size w w' := by
  have HM := Lib.hid h.la
  have HL := Lib.hid hl
  clear h hl
  go_enter Tryd.func42, Tryd.ntmps42
  go_upto_region 2 with fail
  rw [zeroC]
  obtain ⟨w5, hw5⟩ : ∃ w5, w5 = ((w.alloc (.cells (mc x m) 27)).alloc (.cells (setC 0) 41)).alloc (.cells (setC 0) 41) := ⟨_, rfl⟩
  rw [← hw5]
  have b5 : Below w.heap.size w w5 := by
    rw [hw5]
    exact (((Below.refl _ _).alloc (Nat.le_refl _) _).alloc (by simp) _).alloc (by simp <;> omega) _
  have m5 : BoxM w5 w.heap.size x m := by
    rw [hw5]
    exact ((BoxM.new w x m).kept ((Below.refl (w.heap.size + 1) _).alloc (by simp) _) (by omega)).kept ((Below.refl (w.heap.size + 1) _).alloc (by simp) _) (by omega)
  have t5 : SetB w5 (w.heap.size + 1) 0 := by
    rw [hw5]
    have := SetB.new (w.alloc (.cells (mc x m) 27)) 0
    simp only [World.size_alloc] at this
    exact this.stay ((Below.refl _ _).alloc (by simp) _)
  have u5 : SetB w5 (w.heap.size + 1 + 1) 0 := by
    rw [hw5]
    have := SetB.new ((w.alloc (.cells (mc x m) 27)).alloc (.cells (setC 0) 41)) 0
    simp only [World.size_alloc] at this
    exact this
  clear hw5
  have HB := Lib.hid b5
  have HT := Lib.hid t5
  have HU := Lib.hid u5
  have c3 := m5.c3
  clear b5 t5 u5 m5
  go_wp2_with fail
  go_loopw [9] (fun i wr => ∃ j : Nat, i = .int .i64 j ∧ j ≤ m.la.length ∧ Hid (SetB wr (w.heap.size + 1 + 1) (ofN ((List.range j).filter fun k => m.la.getD k false))) ∧ Hid (SetB wr (w.heap.size + 1) 0) ∧ Hid (Below w.heap.size w wr)) (fun i _ => ((m.la.length : Int) - intOf i).toNat)
  case atStart => exact ⟨0, rfl, Nat.zero_le _, HU, HT, HB⟩
  case round =>
    obtain ⟨j, rfl, hj, HS, HZ, HB2⟩ := hrel
    generalize hwr : wr = w2 at *
    clear hwr wr HB HT HU c3
    by_cases hlt : j < m.la.length
    · have hdd : decide ((j : Int) < (m.la.length : Int)) = true := decide_eq_true (by omega)
      have hd2 : decide (j < m.la.length) = true := decide_eq_true hlt
      obtain ⟨b, o, hla, hc0⟩ := HM.out j hlt
      have hc := (HB2.out.cell (World.block_lt_of_cell? _ _ hc0)).trans hc0
      rw [hla]
      have HLS := Lib.hid (last_snoc m j)
      have HW1 : Hid (wrap64 ((j : Int) + 1) = ((j + 1 : Nat) : Int)) := Lib.hid (nat_wrap (by have := HL.out; omega))
      clear hc0 hla
      have HA := Lib.hid (add_any (w.heap.size + 1 + 1) _ j w2 HS.out (by have := HL.out; omega))
      cases hv : m.la.getD j false
      · rw [hv] at hc HLS
        clear hv
        go_wp2_with fail
        go_roundw
        case rel => exact ⟨j + 1, by rw [HW1.out], hlt, Lib.hid (by rw [HLS.out]; exact HS.out), HZ, HB2⟩
        case measure => rw [HW1.out]; exact meas8 hlt
      · rw [hv] at hc HLS
        clear hv
        go_wp2_with (go_at_call 60; refine HA.out.mono ?_; rintro e w3 ⟨⟨v, rfl⟩, hs3, hb3⟩; have HS3 := Lib.hid hs3; have HB3 := Lib.hid hb3; clear hs3 hb3)
        go_roundw
        case rel => exact ⟨j + 1, by rw [HW1.out], hlt, Lib.hid (by rw [HLS.out]; exact HS3.out), Lib.hid (HZ.out.but HB3.out (by omega)), Lib.hid (But.below HB2.out HB3.out (by omega) HB2.out.size)⟩
        case measure => rw [HW1.out]; exact meas8 hlt
    · have hdd : decide ((j : Int) < (m.la.length : Int)) = false := decide_eq_false (by omega)
      have hd2 : decide (j < m.la.length) = false := decide_eq_false hlt
      have hje : j = m.la.length := by omega
      have HE : Hid (ofN ((List.range j).filter fun k => m.la.getD k false) = lastN m) := Lib.hid (by rw [hje]; rfl)
      rw [HE.out] at HS
      clear hje
      go_wp2_with (first
        | (refine wpList_load_set rfl (.tmp 3) rfl (w.heap.size + 1 + 1) (lastN m) rfl HS.out ?_)
        | (refine wpList_store_set rfl (.tmp 2) (.tmp 18) rfl (w.heap.size + 1) 0 (lastN m) rfl rfl HZ.out ?_))
      refine bodyPost_ret (v := .agg (setC (lastN m))) (results_cell_row (p := 2) Tryd.results42 _ _ (w.heap.size + 1) 41 _ (0, 0) _ rfl (HZ.out.put (lastN m)).row Tryd.underlying41 rfl (sizeSet _)) rfl ⟨rfl, But.below HB2.out (But.setRow _ _ _) (by omega) HB2.out.size⟩
end Nf
end Go.Proofs.YtghbgfkkdknmnaaDoor
