/- last; a text's bytes. -/
import Derived.Test.YtlbaecjmfgahgaaDoorNf7
import Derived.Test.YtlbaecjmfgahgaaDoorNf2
namespace Go.Proofs.YtlbaecjmfgahgaaDoor
open Go.RowKit Sets Nf
namespace Nf
def bs (s : ByteArray) : List Nat := s.data.toList.map UInt8.toNat
theorem bs_lt (s : ByteArray) : ∀ x ∈ bs s, x < 256 := by
  intro x hx
  obtain ⟨u, -, rfl⟩ := List.mem_map.1 hx
  exact u.toNat_lt
theorem bs_len (s : ByteArray) : (bs s).length = s.size := by
  unfold bs
  rw [List.length_map, Array.length_toList]; rfl
theorem index_bs (s : ByteArray) (k : Nat) (i : Int) (hi : i = k) (h : k < s.size) (w : World) : (Instr.index 9 (.string s) (.int .i64 i)).run Tryd.prog w = .ok (.int .u8 ((bs s).getD k 0 : Nat)) w := by
  subst hi
  rw [run_index_string w _ _ _ _ Tryd.underlying9, dif_pos ⟨by omega, by omega⟩]
  simp only [Int.toNat_natCast]
  congr 2
  unfold bs
  have h' : k < s.data.size := h
  rw [List.getD_eq_getElem?_getD, List.getElem?_map, Array.getElem?_toList, Array.getElem?_eq_getElem h']
  rfl
theorem last_snoc (m : Mc) (j : Nat) : ofN ((List.range (j + 1)).filter fun k => m.la.getD k false) = if m.la.getD j false then ofN ((List.range j).filter fun k => m.la.getD k false) ||| 2 ^ j else ofN ((List.range j).filter fun k => m.la.getD k false) := by
  rw [List.range_succ, List.filter_append, List.filter_cons]
  cases m.la.getD j false
  · simp
  · simp [ofN_snoc]
set_option maxHeartbeats 3200000 in
set_option maxRecDepth 100000 in
theorem last_any (x : Ma) (m : Mc) (w : World) (h : MAt w x m) (hl : m.la.length ≤ 250) :
    Calls Tryd.prog 37 #[.agg (mc x m)] w fun e w' => e = .returned (.agg (setC (lastN m))) ∧ Below w.heap.size w w' := by
  have HM := Lib.hid h.la
  have HL := Lib.hid hl
  clear h hl
  go_enter Tryd.func37, Tryd.ntmps37
  go_upto_region 2 with fail
  rw [zeroC]
  obtain ⟨w5, hw5⟩ : ∃ w5, w5 = ((w.alloc (.cells (mc x m) 27)).alloc (.cells (setC 0) 39)).alloc (.cells (setC 0) 39) := ⟨_, rfl⟩
  rw [← hw5]
  have b5 : Below w.heap.size w w5 := by
    rw [hw5]
    exact (((Below.refl _ _).alloc (Nat.le_refl _) _).alloc (by simp) _).alloc (by simp <;> omega) _
  have m5 : BoxM w5 w.heap.size x m := by
    rw [hw5]
    exact ((BoxM.new w x m).kept ((Below.refl (w.heap.size + 1) _).alloc (by simp) _) (by omega)).kept ((Below.refl (w.heap.size + 1) _).alloc (by simp) _) (by omega)
  have t5 : SetB w5 (w.heap.size + 1) 0 := by
    rw [hw5]
    have := SetB.new (w.alloc (.cells (mc x m) 27)) 0
    simp only [World.size_alloc] at this
    exact this.stay ((Below.refl _ _).alloc (by simp) _)
  have u5 : SetB w5 (w.heap.size + 1 + 1) 0 := by
    rw [hw5]
    have := SetB.new ((w.alloc (.cells (mc x m) 27)).alloc (.cells (setC 0) 39)) 0
    simp only [World.size_alloc] at this
    exact this
  clear hw5
  have HB := Lib.hid b5
  have HT := Lib.hid t5
  have HU := Lib.hid u5
  have c3 := m5.c3
  clear b5 t5 u5 m5
  go_wp2_with fail
  go_loopw [9] (fun i wr => ∃ j : Nat, i = .int .i64 j ∧ j ≤ m.la.length ∧ Hid (SetB wr (w.heap.size + 1 + 1) (ofN ((List.range j).filter fun k => m.la.getD k false))) ∧ Hid (SetB wr (w.heap.size + 1) 0) ∧ Hid (Below w.heap.size w wr)) (fun i _ => ((m.la.length : Int) - intOf i).toNat)
  case atStart => exact ⟨0, rfl, Nat.zero_le _, HU, HT, HB⟩
  case round =>
    obtain ⟨j, rfl, hj, HS, HZ, HB2⟩ := hrel
    generalize hwr : wr = w2 at *
    clear hwr wr HB HT HU c3
    by_cases hlt : j < m.la.length
    · have hdd : decide ((j : Int) < (m.la.length : Int)) = true := decide_eq_true (by omega)
      have hd2 : decide (j < m.la.length) = true := decide_eq_true hlt
      obtain ⟨b, o, hla, hc0⟩ := HM.out j hlt
      have hc := (HB2.out.cell (World.block_lt_of_cell? _ _ hc0)).trans hc0
      rw [hla]
      have HLS := Lib.hid (last_snoc m j)
      have HW1 : Hid (wrap64 ((j : Int) + 1) = ((j + 1 : Nat) : Int)) := Lib.hid (nat_wrap (by have := HL.out; omega))
      clear hc0 hla
      have HA := Lib.hid (add_any (w.heap.size + 1 + 1) _ j w2 HS.out (by have := HL.out; omega))
      cases hv : m.la.getD j false
      · rw [hv] at hc HLS
        clear hv
        go_wp2_with fail
        go_roundw
        case rel => exact ⟨j + 1, by rw [HW1.out], hlt, Lib.hid (by rw [HLS.out]; exact HS.out), HZ, HB2⟩
        case measure => rw [HW1.out]; exact meas8 hlt
      · rw [hv] at hc HLS
        clear hv
        go_wp2_with (go_at_call 40; refine HA.out.mono ?_; rintro e w3 ⟨⟨v, rfl⟩, hs3, hb3⟩; have HS3 := Lib.hid hs3; have HB3 := Lib.hid hb3; clear hs3 hb3)
        go_roundw
        case rel => exact ⟨j + 1, by rw [HW1.out], hlt, Lib.hid (by rw [HLS.out]; exact HS3.out), Lib.hid (HZ.out.but HB3.out (by omega)), Lib.hid (But.below HB2.out HB3.out (by omega) HB2.out.size)⟩
        case measure => rw [HW1.out]; exact meas8 hlt
    · have hdd : decide ((j : Int) < (m.la.length : Int)) = false := decide_eq_false (by omega)
      have hd2 : decide (j < m.la.length) = false := decide_eq_false hlt
      have hje : j = m.la.length := by omega
      have HE : Hid (ofN ((List.range j).filter fun k => m.la.getD k false) = lastN m) := Lib.hid (by rw [hje]; rfl)
      rw [HE.out] at HS
      clear hje
      go_wp2_with (first
        | (refine wpList_load_set rfl (.tmp 3) rfl (w.heap.size + 1 + 1) (lastN m) rfl HS.out ?_)
        | (refine wpList_store_set rfl (.tmp 2) (.tmp 18) rfl (w.heap.size + 1) 0 (lastN m) rfl rfl HZ.out ?_))
      refine bodyPost_ret (v := .agg (setC (lastN m))) (results_cell_row (p := 2) Tryd.results37 _ _ (w.heap.size + 1) 39 _ (0, 0) _ rfl (HZ.out.put (lastN m)).row Tryd.underlying39 rfl (sizeSet _)) rfl ⟨rfl, But.below HB2.out (But.setRow _ _ _) (by omega) HB2.out.size⟩
end Nf
end Go.Proofs.YtlbaecjmfgahgaaDoor
