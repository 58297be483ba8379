/- Right. -/
import Derived.Test.YtlbaecjmfgahgaaDoorNf1
import Derived.Deep.Cut
import Derived.Deep.CutRange
namespace Go.Proofs.YtlbaecjmfgahgaaDoor
open Go.RowKit Sets Nf
namespace Nf
theorem all_take {α : Type} (p : α → Bool) (l : List α) (j : Nat) (h : l.length ≤ j) : (l.take j).all p = l.all p := by rw [List.take_of_length_le h]
theorem all_snoc {α : Type} (p : α → Bool) (l : List α) (d : α) (j : Nat) (h : j < l.length) : (l.take (j + 1)).all p = ((l.take j).all p && p (l.getD j d)) := by
  rw [List.take_succ_eq_append_getElem h, List.all_append, List.getD_eq_getElem?_getD, List.getElem?_eq_getElem h]; simp
theorem all_stop {α : Type} {p : α → Bool} {l : List α} {d : α} {j : Nat} (h : j < l.length) (hp : p (l.getD j d) = false) : l.all p = false := by
  rw [List.all_eq_false]
  exact ⟨_, getD_mem h, by rw [hp]; decide⟩
set_option maxHeartbeats 3200000 in
set_option maxRecDepth 100000 in
theorem nright_any (x : Ma) (m : Mc) (w : World) (h : MAt w x m) (hf : Fine m) :
    Calls Tryd.prog 15 #[mv x m] w fun e w' => e = .returned (.bool (rightM m)) ∧ Below w.heap.size w w' := by
  have HM := Lib.hid h
  have HF := Lib.hid hf
  clear h hf
  have HP : Hid ((decide (m.sp.length ≤ 250) && (decide (m.fo.length = m.sp.length) && decide (m.la.length = m.sp.length))) = false → rightM m = false) := Lib.hid (fun h => by
    unfold rightM
    rw [← Bool.and_assoc, ← Bool.and_assoc]
    rw [← Bool.and_assoc] at h
    rw [h, Bool.false_and])
  rw [mv_eq]
  go_enter Tryd.func15, Tryd.ntmps15
  go_upto_region 1 with fail
  have HBX := Lib.hid (BoxM.new w x m)
  have HBl := Lib.hid ((Below.refl w.heap.size w).alloc (Nat.le_refl _) (.cells (mc x m) 27))
  have HSZ : Hid (w.heap.size + 1 ≤ (w.alloc (.cells (mc x m) 27)).heap.size) := Lib.hid (by simp)
  have c0 := HBX.out.c0
  have c1 := HBX.out.c1
  have c2 := HBX.out.c2
  have c3 := HBX.out.c3
  generalize w.alloc (.cells (mc x m) 27) = w1 at *
  generalize hB : w.heap.size = B at *
  have HBB := Lib.hid hB
  clear hB
  by_cases hsh : m.sp.length ≤ 250 ∧ m.fo.length = m.sp.length ∧ m.la.length = m.sp.length
  · obtain ⟨s1, s2, s3⟩ := hsh
    have d1 : decide ((250 : Int) < (m.sp.length : Int)) = false := decide_eq_false (by omega)
    have d1' : decide (250 < m.sp.length) = false := decide_eq_false (by omega)
    have HRR : Hid (rightM m = (m.sp.all (fun s => decide (s.2 ≤ 2)) && (m.fo.all (rise m.sp.length) && rise m.sp.length m.fi))) := Lib.hid (by
      unfold rightM; rw [decide_eq_true s1, decide_eq_true s2, decide_eq_true s3]; rfl)
    have d2 : (((m.fo.length : Nat) : Int) != ((m.sp.length : Nat) : Int)) = false := by rw [s2]; simp
    have d3 : (((m.la.length : Nat) : Int) != ((m.sp.length : Nat) : Int)) = false := by rw [s3]; simp
    have HS2 := Lib.hid s2
    have HS3 := Lib.hid s3
    have HS1 := Lib.hid s1
    clear s1 s2 s3
    go_upto_region 4 with fail
    go_wp2_with fail
    go_loopw [30] (fun i wr => ∃ j : Nat, i = .int .i64 j ∧ j ≤ m.sp.length ∧ Hid ((m.sp.take j).all (fun s => decide (s.2 ≤ 2)) = true) ∧ Hid (Below w1.heap.size w1 wr)) (fun i _ => ((m.sp.length : Int) - intOf i).toNat)
    case atStart => exact ⟨0, rfl, Nat.zero_le _, Lib.hid (by simp), Lib.hid (Below.refl _ _)⟩
    case round =>
      obtain ⟨j, rfl, hj, HA, HB1⟩ := hrel
      generalize hwr : wr = w2 at *
      clear hwr wr c0 c1 c2 c3
      have HBX2 := Lib.hid (HBX.out.kept HB1.out HBX.out.lt)
      have c1 := HBX2.out.c1
      have c2 := HBX2.out.c2
      have HM2 := Lib.hid ((HM.out.kept (HBB.out ▸ HBl.out)).kept HB1.out)
      by_cases hlt : j < m.sp.length
      · have hdd : decide ((j : Int) < (m.sp.length : Int)) = true := decide_eq_true (by omega)
        have hd2 : decide (j < m.sp.length) = true := decide_eq_true hlt
        obtain ⟨b, o, hsa, hc⟩ := HM2.out.sp j hlt
        rw [hsa]
        clear hsa
        have HS := Lib.hid (all_snoc (fun s => decide (s.2 ≤ 2)) m.sp (0, 0) j hlt)
        have HST := Lib.hid (@all_stop _ (fun s => decide (s.2 ≤ 2)) m.sp (0, 0) j hlt)
        have HK := Lib.hid (HF.out.set _ (getD_mem (d := (0, 0)) hlt))
        have HW1 : Hid (wrap64 ((j : Int) + 1) = ((j + 1 : Nat) : Int)) := Lib.hid (nat_wrap (by have := HF.out.sp; omega))
        generalize m.sp.getD j (0, 0) = S at *
        have HSZ2 := Lib.hid HB1.out.size
        by_cases hk : S.2 ≤ 2
        · have hk2 : decide ((2 : Int) < (S.2 : Int)) = false := decide_eq_false (by omega)
          have hk3 : decide (2 < S.2) = false := decide_eq_false (by omega)
          have HA3 : Hid ((m.sp.take (j + 1)).all (fun s => decide (s.2 ≤ 2)) = true) := Lib.hid (by rw [HS.out, HA.out, decide_eq_true hk]; rfl)
          clear hk
          go_wp2_with (first | (refine wpList_load_spot rfl (.tmp 32) rfl b (o + j * 5) S rfl hc ?_) | (refine wpList_store_spot rfl (.tmp 5) (.tmp 33) rfl S rfl rfl ?_; unfold row5))
          go_roundw
          case rel => exact ⟨j + 1, by rw [HW1.out], hlt, HA3, Lib.hid (HB1.out.alloc HSZ2.out _)⟩
          case measure => rw [HW1.out]; exact meas8 hlt
        · have hk2 : decide ((2 : Int) < (S.2 : Int)) = true := decide_eq_true (by omega)
          have hk3 : decide (2 < S.2) = true := decide_eq_true (by omega)
          have HR : Hid (rightM m = false) := Lib.hid (by rw [HRR.out, HST.out (decide_eq_false hk), Bool.false_and])
          clear hk
          go_wp2_with (first | (refine wpList_load_spot rfl (.tmp 32) rfl b (o + j * 5) S rfl hc ?_) | (refine wpList_store_spot rfl (.tmp 5) (.tmp 33) rfl S rfl rfl ?_; unfold row5))
          go_ret
          exact ⟨by rw [HR.out]; rfl, by rw [HBB.out]; exact HBl.out.trans ((HB1.out.alloc HSZ2.out _).mono (Nat.le_of_lt HBX.out.lt))⟩
      · have hdd : decide ((j : Int) < (m.sp.length : Int)) = false := decide_eq_false (by omega)
        have hd2 : decide (j < m.sp.length) = false := decide_eq_false hlt
        have HRR2 : Hid (rightM m = (m.fo.all (rise m.sp.length) && rise m.sp.length m.fi)) := Lib.hid (by rw [HRR.out, ← all_take _ m.sp j (by omega), HA.out, Bool.true_and])
        clear HRR hlt
        go_wp2_with fail
        go_loopw [41] (fun i wr => ∃ j : Nat, i = .int .i64 j ∧ j ≤ m.fo.length ∧ wr = w2 ∧ Hid ((m.fo.take j).all (rise m.sp.length) = true)) (fun i _ => ((m.fo.length : Int) - intOf i).toNat)
        case atStart => exact ⟨0, rfl, Nat.zero_le _, rfl, Lib.hid (by simp)⟩
        case round =>
          obtain ⟨i, rfl, hi, rfl, HA2⟩ := hrel
          by_cases hlt : i < m.fo.length
          · have hdd : decide ((i : Int) < (m.fo.length : Int)) = true := decide_eq_true (by omega)
            have hd2 : decide (i < m.fo.length) = true := decide_eq_true hlt
            obtain ⟨b, o, a, cap, hoa, hc, hn⟩ := HM2.out.fo i hlt
            rw [hoa] at c2 ⊢
            clear hoa
            have HS := Lib.hid (all_snoc (rise m.sp.length) m.fo [] i hlt)
            have HST := Lib.hid (@all_stop _ (rise m.sp.length) m.fo [] i hlt)
            have HK := Lib.hid (HF.out.each _ (getD_mem (d := []) hlt))
            have HW1 : Hid (wrap64 ((i : Int) + 1) = ((i + 1 : Nat) : Int)) := Lib.hid (nat_wrap (by have := HF.out.fo; omega))
            generalize m.fo.getD i [] = L at *
            have HRI := Lib.hid (rising_any a cap m.sp.length L wr hn HK.out.1 HF.out.sp)
            clear hn
            cases hr : rise m.sp.length L
            · have HR : Hid (rightM m = false) := Lib.hid (by rw [HRR2.out, HST.out hr, Bool.false_and])
              rw [hr] at HRI
              clear hr
              go_wp2_with (go_at_call 38; refine HRI.out.mono ?_; rintro e w9 ⟨rfl, rfl⟩)
              go_ret
              exact ⟨by rw [HR.out]; rfl, by rw [HBB.out]; exact HBl.out.trans (HB1.out.mono (Nat.le_of_lt HBX.out.lt))⟩
            · have HA3 : Hid ((m.fo.take (i + 1)).all (rise m.sp.length) = true) := Lib.hid (by rw [HS.out, HA2.out, hr]; rfl)
              rw [hr] at HRI
              clear hr
              go_wp2_with (go_at_call 38; refine HRI.out.mono ?_; rintro e w9 ⟨rfl, rfl⟩)
              go_roundw
              case rel => exact ⟨i + 1, by rw [HW1.out], hlt, by first | rfl | trivial, HA3⟩
              case measure => rw [HW1.out]; exact meas8 hlt
          · have hdd : decide ((i : Int) < (m.fo.length : Int)) = false := decide_eq_false (by omega)
            have hd2 : decide (i < m.fo.length) = false := decide_eq_false hlt
            have HRR3 : Hid (rightM m = rise m.sp.length m.fi) := Lib.hid (by rw [HRR2.out, ← all_take _ m.fo i (by omega), HA2.out, Bool.true_and])
            have HRI := Lib.hid (rising_any x.fa x.fc m.sp.length m.fi wr HM2.out.fi HF.out.fi HF.out.sp)
            clear hlt
            go_wp2_with (go_at_call 38; refine HRI.out.mono ?_; rintro e w9 ⟨rfl, rfl⟩)
            go_ret
            exact ⟨by rw [HRR3.out]; rfl, by rw [HBB.out]; exact HBl.out.trans (HB1.out.mono (Nat.le_of_lt HBX.out.lt))⟩
  · have HR : Hid (rightM m = false) := Lib.hid (HP.out (by
      rw [Bool.eq_false_iff]
      intro h
      simp only [Bool.and_eq_true, decide_eq_true_iff] at h
      exact hsh h))
    by_cases s1 : m.sp.length ≤ 250
    · have d1 : decide ((250 : Int) < (m.sp.length : Int)) = false := decide_eq_false (by omega)
      have d1' : decide (250 < m.sp.length) = false := decide_eq_false (by omega)
      by_cases s2 : m.fo.length = m.sp.length
      · have s3 : ¬ m.la.length = m.sp.length := fun e => hsh ⟨s1, s2, e⟩
        have d2 : (((m.fo.length : Nat) : Int) != ((m.sp.length : Nat) : Int)) = false := by rw [s2]; simp
        have d3 : (((m.la.length : Nat) : Int) != ((m.sp.length : Nat) : Int)) = true := by rw [bne_iff_ne]; omega
        clear s1 s2 s3 hsh
        go_wp2_with fail
        go_ret
        exact ⟨by rw [HR.out]; rfl, by rw [HBB.out]; exact HBl.out⟩
      · have d2 : (((m.fo.length : Nat) : Int) != ((m.sp.length : Nat) : Int)) = true := by rw [bne_iff_ne]; omega
        clear s1 s2 hsh
        go_wp2_with fail
        go_ret
        exact ⟨by rw [HR.out]; rfl, by rw [HBB.out]; exact HBl.out⟩
    · have d1 : decide ((250 : Int) < (m.sp.length : Int)) = true := decide_eq_true (by omega)
      have d1' : decide (250 < m.sp.length) = true := decide_eq_true (by omega)
      clear s1 hsh
      go_wp2_with fail
      go_ret
      exact ⟨by rw [HR.out]; rfl, by rw [HBB.out]; exact HBl.out⟩
end Nf
end Go.Proofs.YtlbaecjmfgahgaaDoor
