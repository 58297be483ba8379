/- Several texts in one. -/
import Derived.Test.YtghbgfkkdknmnaaDoorPqA7
import Derived.Test.YtghbgfkkdknmnaaDoorPqA1
import Derived.Test.YtghbgfkkdknmnaaDoorPqB6
namespace Go.Proofs.YtghbgfkkdknmnaaDoor
open Go.RowKit Sets Nf
namespace Ft
theorem bytes_one (w : World) (c : Nat) (hc : c < 256) : BytesAt (w.alloc (.cells #[.int .u8 c] 5)) (.slice (some ⟨w.heap.size, 0, none⟩) 1 1) [c] := by
  refine ⟨by simp [hc], by simp [maxLen], _, 1, rfl, fun i hi => ?_⟩
  have : i = 0 := by simpa using hi
  subst this
  exact ⟨w.heap.size, 0, rfl, by simp⟩
theorem u8_wrap (k : Nat) (h : k < 256) : IntKind.u8.wrap (k : Int) = k := by
  have : (k : Int) < 256 := by omega
  simp [IntKind.wrap, IntKind.bits, IntKind.signed]
  omega
theorem ofN_one (k : Nat) : ofN [k] = 2 ^ k := by simp [ofN]
theorem there_kept {w w' : World} {A b o n : Nat} (h : w.there b o n) (hb : Below A w w') (hA : b < A) : w'.there b o n := by
  intro j hj
  obtain ⟨h1, h2⟩ := h j hj
  refine ⟨by rw [hb.cell (p := ⟨b, o + j, none⟩) hA]; exact h1, ?_⟩
  unfold World.frozen? at h2 ⊢
  rw [hb.block b hA]
  exact h2
theorem range_kept {w w' : World} {A b o : Nat} {l : List Value} (h : w.rangeAt b o l) (hb : Below A w w') (hA : b < A) : w'.rangeAt b o l := fun j v hv => (hb.cell (p := ⟨b, o + j, none⟩) hA).trans (h j v hv)
set_option maxHeartbeats 3200000 in
set_option maxRecDepth 100000 in
theorem fadd_gen (B o S k : Nat) (w : World) (h : w.rangeAt B o (setC S).toList) (ht : w.there B o 4) (hB : B < w.heap.size) (hk : k < 256) :
    Calls Tryd.prog 66 #[.pointer (some ⟨B, o, none⟩), .int .i64 k] w fun e w' => (∃ v, e = .returned v) ∧ ∃ w2, Below w.heap.size w w2 ∧ w' = w2.setCells B o (setC (S ||| 2 ^ k)).toList := by
  have HK := Lib.hid hk
  have HR := Lib.hid h
  have HT := Lib.hid ht
  have HB := Lib.hid hB
  have hwr := u8_wrap k hk
  clear hk h ht hB
  go_enter Tryd.func66, Tryd.ntmps66
  refine region_mix [(false, 0), (false, 1), (false, 2), (false, 3), (false, 4), (false, 5), (true, 6), (true, 7), (true, 8), (false, 9)] (fun w' => Below w.heap.size w w') (by kernel_rfl) (by kernel_rfl) ((Below.refl _ _).drew) ?_
  simp only [planOps, List.map_cons, List.map_nil, List.getD_cons_zero, List.getD_cons_succ, List.length_cons, List.length_nil, List.drop_succ_cons, List.drop_zero]
  refine mix_seg (seg := [_, _, _, _, _, _]) rfl ((Below.refl _ _).drew) ?_
  intro ι hι F hF
  have f1 := Lib.hid (fun n => range_kept HR.out (hF n) HB.out)
  iterate 3 (go_big_quiet_step (fail))
  refine BigFrame.wpQuiet_want rfl (fun K hK => ?_); refine quiet_load_mid 41 _ rfl B o rfl (setC S).toList _ (fun w' ⟨n, e⟩ => e ▸ f1.out n) Tryd.underlying41 rfl (sizeSetL _) ?_; refine hK _ ?_; clear hK K; simp only [Act.put, List.setIfInBounds_toArray, List.set_cons_zero, List.set_cons_succ]
  rw [show (setC S).toList.toArray = setC S from rfl]
  iterate 2 (go_big_quiet_step (fail))
  refine wpQuiet_nil ?_
  clear f1 hF hι F
  have HBD : Hid (Below w.heap.size w w.drew) := Lib.hid ((Below.refl _ _).drew)
  refine mix_eff (fun K hK => ?_)
  go_wp2_with fail
  have HB2 := Lib.hid (HBD.out.alloc (Nat.le_refl _) (.cells #[.int .u8 k] 5))
  refine mix_on hK HB2.out ?_
  clear hK K
  have HO := Lib.hid (of_any _ [k] _ (bytes_one w.drew k HK.out))
  rw [ofN_one] at HO
  refine mix_eff (fun K hK => ?_)
  go_wp2_with (go_at_call 36; refine HO.out.mono ?_; rintro e w8 ⟨rfl, hb8⟩; have HB8 := Lib.hid (HB2.out.trans (hb8.mono HB2.out.size)); clear hb8)
  refine mix_on hK HB8.out ?_
  clear hK K
  have HA1 := Lib.hid (or_any S (2 ^ k) w8)
  refine mix_eff (fun K hK => ?_)
  go_wp2_with (go_at_call 68; refine HA1.out.mono ?_; rintro e w9 ⟨rfl, hb9⟩; have HB9 := Lib.hid (HB8.out.trans (hb9.mono HB8.out.size)); clear hb9)
  refine mix_on hK HB9.out ?_
  clear hK K
  refine mix_seg (seg := [_]) (rest := []) rfl HB9.out ?_
  intro ι hι F hF
  iterate 1 (go_big_quiet_step (fail))
  refine wpQuiet_nil ?_
  clear hF hι F
  show wpList _ _ _ _ _ _
  have HT9 := Lib.hid (there_kept HT.out HB9.out HB.out)
  go_wp2_with (refine wpList_store_at rfl (.tmp 13) (.tmp 12) rfl B o (S ||| 2 ^ k) rfl rfl HT9.out ?_)
  refine NoPanic.normal ?_
  go_wp2_with fail
  go_end0
  exact ⟨⟨_, rfl⟩, w9, HB9.out, rfl⟩
theorem SetB.range {w : World} {B S : Nat} (h : SetB w B S) : w.rangeAt B 0 (setC S).toList := by
  intro j v hv
  rw [cell_of_row w B (0 + j) _ _ _ h.row, Nat.zero_add, ← Array.getElem?_toList]
  exact hv
theorem SetB.there {w : World} {B S : Nat} (h : SetB w B S) : w.there B 0 4 := fun j hj => by
  rw [Nat.zero_add]
  exact ⟨by rw [h.cell hj]; rfl, h.frozen j⟩
theorem SetB.cells {w : World} {B S : Nat} (h : SetB w B S) (T : Nat) : SetB (w.setCells B 0 (setC T).toList) B T :=
  ⟨(heap_setCell_same _ _ _ _ _ _ (heap_setCell_same _ _ _ _ _ _ (heap_setCell_same _ _ _ _ _ _ (heap_setCell_same _ _ _ _ _ _ h.row)))).trans rfl⟩
theorem But.of_belowL {A : Nat} {w w' : World} (h : Below w.heap.size w w') : But A w w' := ⟨h.os, h.tape, h.output, h.size, fun k hk _ => h.block k hk⟩
theorem fadd_any (B S k : Nat) (w : World) (h : SetB w B S) (hk : k < 256) :
    Calls Tryd.prog 66 #[.pointer (some ⟨B, 0, none⟩), .int .i64 k] w fun e w' => (∃ v, e = .returned v) ∧ SetB w' B (S ||| 2 ^ k) ∧ But B w w' := by
  refine (fadd_gen B 0 S k w (SetB.range h) (SetB.there h) h.lt hk).mono ?_
  rintro e w' ⟨hv, w2, hb, rfl⟩
  exact ⟨hv, SetB.cells (h.stay hb) _, (But.of_belowL hb).trans (But.cells4 _ _ _ _)⟩
theorem fadd_at (g i k : Nat) (G : List Nat) (w : World) (h : GsB w g G) (hi : i < G.length) (hk : k < 256) :
    Calls Tryd.prog 66 #[.pointer (some ⟨g, i * 4, none⟩), .int .i64 k] w fun e w' => (∃ v, e = .returned v) ∧ GsB w' g (G.set i (G.getD i 0 ||| 2 ^ k)) ∧ But g w w' := by
  refine (fadd_gen g (i * 4) (G.getD i 0) k w (h.range hi) (h.there hi (G.getD i 0)) h.lt hk).mono ?_
  rintro e w' ⟨hv, w2, hb, rfl⟩
  exact ⟨hv, (h.stay hb).set hi _, (But.of_belowL hb).trans (But.cells4 _ _ _ _)⟩
set_option maxHeartbeats 3200000 in
set_option maxRecDepth 100000 in
theorem fgroup_any (a : Option Addr) (cap : Nat) (l : List Int) (w : World) (h : NumsIn w a l) (hl : l.length ≤ 1000) (hn : ∀ k ∈ l, 0 ≤ k ∧ k < 256) :
    Calls Tryd.prog 56 #[.slice a l.length cap] w fun e w' => e = .returned (.agg (setC (grp l))) ∧ Below w.heap.size w w' := by
  have HN := Lib.hid h
  have HL := Lib.hid hl
  have HK := Lib.hid hn
  clear h hl hn
  go_enter Tryd.func56, Tryd.ntmps56
  go_upto_region 2 with fail
  rw [zeroC]
  have hB0 : SetB ((w.alloc (.cells (setC 0) 41)).alloc (.cells (setC 0) 41)) w.heap.size 0 := (SetB.new w 0).stay ((Below.refl _ _).alloc (Nat.le_refl _) _)
  have hB1 : SetB ((w.alloc (.cells (setC 0) 41)).alloc (.cells (setC 0) 41)) (w.heap.size + 1) 0 := by have := SetB.new (w.alloc (.cells (setC 0) 41)) 0; simpa using this
  have hbl : Below w.heap.size w ((w.alloc (.cells (setC 0) 41)).alloc (.cells (setC 0) 41)) := ((Below.refl _ _).alloc (Nat.le_refl _) _).alloc (by simp) _
  have HB0 := Lib.hid hB0
  have HB1 := Lib.hid hB1
  have HBL := Lib.hid hbl
  clear hB0 hB1 hbl
  generalize (w.alloc (.cells (setC 0) 41)).alloc (.cells (setC 0) 41) = w1 at *
  go_wp2_with fail
  go_loopw [8] (fun i wr => ∃ j : Nat, i = .int .i64 j ∧ j ≤ l.length ∧ Hid (SetB wr (w.heap.size + 1) (grp (l.take j))) ∧ Hid (SetB wr w.heap.size 0) ∧ Hid (Below w.heap.size w wr)) (fun i _ => ((l.length : Int) - intOf i).toNat)
  case atStart => exact ⟨0, rfl, Nat.zero_le _, HB1, HB0, HBL⟩
  case round =>
    obtain ⟨j, rfl, hj, HS, HZ, HB⟩ := hrel
    generalize hwr : wr = w2 at *
    clear hwr wr HB0 HB1 HBL w1
    have HN2 := Lib.hid (HN.out.kept HB.out)
    by_cases hlt : j < l.length
    · have hdd : decide ((j : Int) < (l.length : Int)) = true := decide_eq_true (by omega)
      have hd2 : decide (j < l.length) = true := decide_eq_true hlt
      obtain ⟨b, o, rfl, hc⟩ := HN2.out j hlt
      have HX := Lib.hid (HK.out _ (getD_mem (d := 0) hlt))
      have HT : Hid (grp (l.take (j + 1)) = grp (l.take j) ||| 2 ^ (l.getD j 0).toNat) := Lib.hid (by
        unfold grp
        rw [List.take_succ_eq_append_getElem hlt, List.map_append, List.map_cons, List.map_nil, ofN_snoc, List.getD_eq_getElem?_getD, List.getElem?_eq_getElem hlt]; rfl)
      have HW1 : Hid (wrap64 ((j : Int) + 1) = ((j + 1 : Nat) : Int)) := Lib.hid (by have := HL.out; unfold wrap64; omega)
      generalize l.getD j 0 = k at *
      obtain ⟨n, rfl⟩ := Int.eq_ofNat_of_zero_le HX.out.1
      have HA := Lib.hid (fadd_any (w.heap.size + 1) (grp (l.take j)) n w2 HS.out (by have := HX.out; omega))
      rw [show ((n : Int)).toNat = n from by omega] at HT
      go_wp2_with (go_at_call 66; refine HA.out.mono ?_; rintro e w3 ⟨⟨v, rfl⟩, hs3, hb3⟩; have HS3 := Lib.hid hs3; have HB3 := Lib.hid hb3; clear hs3 hb3)
      go_roundw
      case rel => exact ⟨j + 1, by rw [HW1.out], hlt, Lib.hid (by rw [HT.out]; exact HS3.out), Lib.hid (HZ.out.but HB3.out (by omega)), Lib.hid (But.below HB.out HB3.out (by omega) HB.out.size)⟩
      case measure => rw [HW1.out]; exact meas9 hlt
    · have hdd : decide ((j : Int) < (l.length : Int)) = false := decide_eq_false (by omega)
      have hd2 : decide (j < l.length) = false := decide_eq_false hlt
      have HT : Hid (l.take j = l) := Lib.hid (List.take_of_length_le (by omega))
      rw [HT.out] at HS
      go_wp2_with (first
        | (refine wpList_load_set rfl (.tmp 3) rfl (w.heap.size + 1) (grp l) rfl HS.out ?_)
        | (refine wpList_store_set rfl (.tmp 2) (.tmp 15) rfl w.heap.size 0 (grp l) rfl rfl HZ.out ?_))
      refine bodyPost_ret (v := .agg (setC (grp l))) (results_cell_row (p := 2) Tryd.results56 _ _ w.heap.size 41 _ (0, 0) _ rfl (HZ.out.put (grp l)).row Tryd.underlying41 rfl (sizeSet _)) rfl ⟨rfl, But.below HB.out (But.setRow _ _ _) (Nat.le_refl _) HB.out.size⟩
set_option maxHeartbeats 3200000 in
set_option maxRecDepth 100000 in
theorem flast_any (x : Ma) (m : Mc) (w : World) (h : MAt w x m) (hl : m.la.length ≤ 250) :
    Calls Tryd.prog 51 #[.agg (mc x m)] w fun e w' => e = .returned (.agg (setC (lastN m))) ∧ Below w.heap.size w w' := by
  have HM := Lib.hid h.la
  have HL := Lib.hid hl
  clear h hl
  go_enter Tryd.func51, Tryd.ntmps51
  go_upto_region 2 with fail
  rw [zeroC]
  obtain ⟨w5, hw5⟩ : ∃ w5, w5 = ((w.alloc (.cells (mc x m) 27)).alloc (.cells (setC 0) 41)).alloc (.cells (setC 0) 41) := ⟨_, rfl⟩
  rw [← hw5]
  have b5 : Below w.heap.size w w5 := by
    rw [hw5]
    exact (((Below.refl _ _).alloc (Nat.le_refl _) _).alloc (by simp) _).alloc (by simp <;> omega) _
  have m5 : BoxM w5 w.heap.size x m := by
    rw [hw5]
    exact ((BoxM.new w x m).kept ((Below.refl (w.heap.size + 1) _).alloc (by simp) _) (by omega)).kept ((Below.refl (w.heap.size + 1) _).alloc (by simp) _) (by omega)
  have t5 : SetB w5 (w.heap.size + 1) 0 := by
    rw [hw5]
    have := SetB.new (w.alloc (.cells (mc x m) 27)) 0
    simp only [World.size_alloc] at this
    exact this.stay ((Below.refl _ _).alloc (by simp) _)
  have u5 : SetB w5 (w.heap.size + 1 + 1) 0 := by
    rw [hw5]
    have := SetB.new ((w.alloc (.cells (mc x m) 27)).alloc (.cells (setC 0) 41)) 0
    simp only [World.size_alloc] at this
    exact this
  clear hw5
  have HB := Lib.hid b5
  have HT := Lib.hid t5
  have HU := Lib.hid u5
  have c3 := m5.c3
  clear b5 t5 u5 m5
  go_wp2_with fail
  go_loopw [9] (fun i wr => ∃ j : Nat, i = .int .i64 j ∧ j ≤ m.la.length ∧ Hid (SetB wr (w.heap.size + 1 + 1) (ofN ((List.range j).filter fun k => m.la.getD k false))) ∧ Hid (SetB wr (w.heap.size + 1) 0) ∧ Hid (Below w.heap.size w wr)) (fun i _ => ((m.la.length : Int) - intOf i).toNat)
  case atStart => exact ⟨0, rfl, Nat.zero_le _, HU, HT, HB⟩
  case round =>
    obtain ⟨j, rfl, hj, HS, HZ, HB2⟩ := hrel
    generalize hwr : wr = w2 at *
    clear hwr wr HB HT HU c3
    by_cases hlt : j < m.la.length
    · have hdd : decide ((j : Int) < (m.la.length : Int)) = true := decide_eq_true (by omega)
      have hd2 : decide (j < m.la.length) = true := decide_eq_true hlt
      obtain ⟨b, o, hla, hc0⟩ := HM.out j hlt
      have hc := (HB2.out.cell (World.block_lt_of_cell? _ _ hc0)).trans hc0
      rw [hla]
      have HLS := Lib.hid (last_snoc m j)
      have HW1 : Hid (wrap64 ((j : Int) + 1) = ((j + 1 : Nat) : Int)) := Lib.hid (nat_wrap (by have := HL.out; omega))
      clear hc0 hla
      have HA := Lib.hid (fadd_any (w.heap.size + 1 + 1) _ j w2 HS.out (by have := HL.out; omega))
      cases hv : m.la.getD j false
      · rw [hv] at hc HLS
        clear hv
        go_wp2_with fail
        go_roundw
        case rel => exact ⟨j + 1, by rw [HW1.out], hlt, Lib.hid (by rw [HLS.out]; exact HS.out), HZ, HB2⟩
        case measure => rw [HW1.out]; exact meas8 hlt
      · rw [hv] at hc HLS
        clear hv
        go_wp2_with (go_at_call 66; refine HA.out.mono ?_; rintro e w3 ⟨⟨v, rfl⟩, hs3, hb3⟩; have HS3 := Lib.hid hs3; have HB3 := Lib.hid hb3; clear hs3 hb3)
        go_roundw
        case rel => exact ⟨j + 1, by rw [HW1.out], hlt, Lib.hid (by rw [HLS.out]; exact HS3.out), Lib.hid (HZ.out.but HB3.out (by omega)), Lib.hid (But.below HB2.out HB3.out (by omega) HB2.out.size)⟩
        case measure => rw [HW1.out]; exact meas8 hlt
    · have hdd : decide ((j : Int) < (m.la.length : Int)) = false := decide_eq_false (by omega)
      have hd2 : decide (j < m.la.length) = false := decide_eq_false hlt
      have hje : j = m.la.length := by omega
      have HE : Hid (ofN ((List.range j).filter fun k => m.la.getD k false) = lastN m) := Lib.hid (by rw [hje]; rfl)
      rw [HE.out] at HS
      clear hje
      go_wp2_with (first
        | (refine wpList_load_set rfl (.tmp 3) rfl (w.heap.size + 1 + 1) (lastN m) rfl HS.out ?_)
        | (refine wpList_store_set rfl (.tmp 2) (.tmp 18) rfl (w.heap.size + 1) 0 (lastN m) rfl rfl HZ.out ?_))
      refine bodyPost_ret (v := .agg (setC (lastN m))) (results_cell_row (p := 2) Tryd.results51 _ _ (w.heap.size + 1) 41 _ (0, 0) _ rfl (HZ.out.put (lastN m)).row Tryd.underlying41 rfl (sizeSet _)) rfl ⟨rfl, But.below HB2.out (But.setRow _ _ _) (by omega) HB2.out.size⟩
end Ft
end Go.Proofs.YtghbgfkkdknmnaaDoor
namespace Go.Proofs.YtghbgfkkdknmnaaDoor
open Go.RowKit Sets Nf
namespace Ft
/-- The bytes L lie behind a, in a block from A on. -/
def LsAt (A : Nat) (w : World) (a : Option Addr) (L : List Nat) : Prop := ∀ i, i < L.length → ∃ b o, a = some ⟨b, o, none⟩ ∧ A ≤ b ∧ b < w.heap.size ∧ w.cell? ⟨b, o + i, none⟩ = some (.int .u8 (L.getD i 0 : Nat))
theorem LsAt.stay {A : Nat} {w w' : World} {a : Option Addr} {L : List Nat} (h : LsAt A w a L) (hb : Below w.heap.size w w') : LsAt A w' a L := fun i hi => by
  obtain ⟨b, o, h1, h2, h3, h4⟩ := h i hi
  exact ⟨b, o, h1, h2, Nat.lt_of_lt_of_le h3 hb.size, (hb.cell (p := ⟨b, o + i, none⟩) h3).trans h4⟩
theorem LsAt.but {A B : Nat} {w w' : World} {a : Option Addr} {L : List Nat} (h : LsAt A w a L) (hb : But B w w') (hB : B < A) : LsAt A w' a L := fun i hi => by
  obtain ⟨b, o, h1, h2, h3, h4⟩ := h i hi
  exact ⟨b, o, h1, h2, Nat.lt_of_lt_of_le h3 hb.size, hb.cell h4 (by show b ≠ B; omega)⟩
theorem flist_any (S : Nat) (w : World) (hT : Tab w) : Calls Tryd.prog 67 #[.agg (setC S)] w fun e w' => ∃ a c, e = .returned (.slice a (listN S).length c) ∧ LsAt w.heap.size w' a (listN S) ∧ Below w.heap.size w w' := by
  refine (list_any S w hT (World.block_lt_of_cell? _ _ (hT 0 (by decide)))).mono ?_
  rintro e w' ⟨v, rfl, ho, hb⟩
  obtain ⟨-, -, a, c, rfl, hcl⟩ := owns_bytes ho (fun x hx => ((mem_listN _ _).1 hx).1) (by rw [listN_length]; exact Nat.le_trans (cnt_le S) (by decide))
  refine ⟨a, c, rfl, fun i hi => ?_, hb⟩
  obtain ⟨b, o, rfl, hc⟩ := hcl i hi
  have hl := ho.lt b rfl
  exact ⟨b, o, rfl, hl.1, hl.2, hc⟩
theorem i64_byte (k : Nat) (h : k < 256) : IntKind.i64.wrap (k : Int) = k := by
  simp [IntKind.wrap, IntKind.bits, IntKind.signed]
  omega
theorem take_snoc {L : List Nat} {j : Nat} (h : j < L.length) : L.take (j + 1) = L.take j ++ [L.getD j 0] := by
  rw [List.take_succ_eq_append_getElem h, List.getD_eq_getElem?_getD, List.getElem?_eq_getElem h]; rfl
theorem len_list (S : Nat) : (listN S).length ≤ 256 := by rw [listN_length]; exact cnt_le S
theorem get_list {S j : Nat} (h : j < (listN S).length) : (listN S).getD j 0 < 256 ∧ S.testBit ((listN S).getD j 0) = true := by
  have : (listN S).getD j 0 ∈ listN S := by rw [List.getD_eq_getElem?_getD, List.getElem?_eq_getElem h]; exact List.getElem_mem h
  exact (mem_listN _ _).1 this
set_option maxHeartbeats 6400000 in
set_option maxRecDepth 100000 in
theorem freading_any (sa : Option Addr) (sc : Nat) (L : List (Nat × Nat)) (g c : Nat) (w : World) (h : SpotsIn w sa L) (hgl : ∀ k, g.testBit k = true → k < L.length) (hc : c < 256) (hT : Tab w) :
    Calls Tryd.prog 52 #[.slice sa L.length sc, .agg (setC g), .int .u8 c] w fun e w' => e = .returned (.agg (setC (rdL L g c))) ∧ Below w.heap.size w w' := by
  have HM := Lib.hid h
  have HGL := Lib.hid hgl
  have HC := Lib.hid hc
  have HT := Lib.hid hT
  have HTG : Hid (0 < w.heap.size) := Lib.hid (World.block_lt_of_cell? _ _ (hT 0 (by decide)))
  clear h hgl hc hT
  go_enter Tryd.func52, Tryd.ntmps52
  go_upto_region 2 with fail
  rw [zeroC]
  obtain ⟨w5, hw5⟩ : ∃ w5, w5 = ((w.alloc (.cells (setC g) 41)).alloc (.cells (setC 0) 41)).alloc (.cells (setC 0) 41) := ⟨_, rfl⟩
  rw [← hw5]
  have b5 : Below w.heap.size w w5 := by
    rw [hw5]
    exact (((Below.refl _ _).alloc (Nat.le_refl _) _).alloc (by simp) _).alloc (by simp <;> omega) _
  have z5 : w5.heap.size = w.heap.size + 1 + 1 + 1 := by rw [hw5]; simp
  have s5 : SetB w5 w.heap.size g := by
    rw [hw5]
    exact ((SetB.new w g).kept ((Below.refl (w.heap.size + 1) _).alloc (by simp) _) (by omega)).kept ((Below.refl (w.heap.size + 1) _).alloc (by simp) _) (by omega)
  have t5 : SetB w5 (w.heap.size + 1) 0 := by
    rw [hw5]
    have := SetB.new (w.alloc (.cells (setC g) 41)) 0
    simp only [World.size_alloc] at this
    exact this.stay ((Below.refl _ _).alloc (by simp) _)
  have u5 : SetB w5 (w.heap.size + 1 + 1) 0 := by
    rw [hw5]
    have := SetB.new ((w.alloc (.cells (setC g) 41)).alloc (.cells (setC 0) 41)) 0
    simp only [World.size_alloc] at this
    exact this
  clear hw5
  obtain ⟨s, hs⟩ : ∃ s, Hid (w.heap.size = s) := ⟨_, Lib.hid rfl⟩
  have HLI := Lib.hid (flist_any g w5 (HT.out.below b5 HTG.out))
  rw [hs.out] at z5 s5 t5 u5 ⊢
  have HZ5 := Lib.hid z5
  have HB5 := Lib.hid b5
  have HT5 := Lib.hid t5
  have HU5 := Lib.hid u5
  clear z5 b5 t5 u5
  go_upto_region 3 with (first
    | (refine wpList_load_set rfl (.tmp 4) rfl s g rfl s5 ?_)
    | (go_at_call 67; refine HLI.out.mono ?_; rintro e w6 ⟨a, cc, rfl, hls, hb6⟩; have HLS := Lib.hid hls; have HB6 := Lib.hid hb6; clear hls hb6))
  have HT6 := Lib.hid (HT5.out.stay HB6.out)
  have HU6 := Lib.hid (HU5.out.stay HB6.out)
  have HBW := Lib.hid (HB5.out.trans (HB6.out.mono HB5.out.size))
  have HSW : Hid (s + 1 + 1 < w5.heap.size) := Lib.hid (by rw [HZ5.out]; omega)
  have HLL := Lib.hid (len_list g)
  obtain ⟨N, hN⟩ : ∃ N, Hid ((listN g).length = N) := ⟨_, Lib.hid rfl⟩
  rw [hN.out] at HLL ⊢
  clear HT5 HU5 HB5 HB6 HLI s5 HZ5
  go_loopw [13] (fun i wr => ∃ j : Nat, i = .int .i64 j ∧ j ≤ N ∧ Hid (SetB wr (s + 1 + 1) (ofN (((listN g).take j).filter (hasS L c)))) ∧ Hid (SetB wr (s + 1) 0) ∧ Hid (LsAt w5.heap.size wr a (listN g)) ∧ Hid (Below w.heap.size w wr)) (fun i _ => ((N : Int) - intOf i).toNat)
  case atStart => exact ⟨0, rfl, Nat.zero_le _, HU6, HT6, HLS, HBW⟩
  case round =>
    obtain ⟨j, rfl, hj, HS, HZ, HLT, HB⟩ := hrel
    generalize hwr : wr = w2 at *
    clear hwr wr HU6 HT6 HLS HBW w6
    by_cases hlt : j < N
    · have hdd : decide ((j : Int) < (N : Int)) = true := decide_eq_true (by omega)
      have hd2 : decide (j < N) = true := decide_eq_true hlt
      have hji : (j : Int) < (N : Int) := by omega
      have hjl : j < (listN g).length := by rw [hN.out]; exact hlt
      obtain ⟨b, o, rfl, -, -, hcl⟩ := HLT.out j hjl
      have hgt := get_list hjl
      have HTK := Lib.hid (take_snoc hjl)
      have HW1 : Hid (wrap64 ((j : Int) + 1) = ((j + 1 : Nat) : Int)) := Lib.hid (nat_wrap (by have := HLL.out; omega))
      have HLT' := Lib.hid hlt
      generalize (listN g).getD j 0 = k at *
      have HK := Lib.hid hgt.1
      have hkL := HGL.out k hgt.2
      have hwi := i64_byte k HK.out
      obtain ⟨b2, o2, hsa, hr⟩ := HM.out.kept HB.out k hkL
      have hix : ((k : Nat) : Int) < (L.length : Int) := by omega
      have HR := Lib.hid hr
      have HX : Hid (hasS L c k = (L.getD k (0, 0)).1.testBit c) := Lib.hid rfl
      generalize L.getD k (0, 0) = X at *
      have HH := Lib.hid (has_any X.1 (c : Int) w2 (by omega) (by have := HC.out; omega))
      rw [show ((c : Int)).toNat = c from by omega, ← HX.out] at HH
      have HOF : Hid (hasS L c k = true → ofN (((listN g).take (j + 1)).filter (hasS L c)) = ofN (((listN g).take j).filter (hasS L c)) ||| 2 ^ k) := Lib.hid (fun h => by
        rw [HTK.out, List.filter_append, List.filter_cons, if_pos h, List.filter_nil, ofN_snoc])
      have HOG : Hid (hasS L c k = false → ofN (((listN g).take (j + 1)).filter (hasS L c)) = ofN (((listN g).take j).filter (hasS L c))) := Lib.hid (fun h => by
        rw [HTK.out, List.filter_append, List.filter_cons, if_neg (by rw [h]; decide), List.filter_nil, List.append_nil])
      clear hr hgt HM HGL hkL hlt hjl
      rw [hsa]
      generalize hasS L c k = hb at *
      have HMID := Lib.hid (spot_set HR.out)
      clear HX HR
      cases hb
      · go_wp2_with (first
          | (refine wpList_load_mid rfl 41 _ rfl b2 (o2 + k * 5) rfl (setC X.1).toList _ HMID.out Tryd.underlying41 rfl (sizeSetL _) ?_; rw [show (setC X.1).toList.toArray = setC X.1 from rfl])
          | (go_at_call 54; refine HH.out.mono ?_; rintro e w3 ⟨rfl, hb3⟩; have HB3 := Lib.hid hb3; clear hb3))
        go_roundw
        case rel => exact ⟨j + 1, by rw [HW1.out], HLT'.out, Lib.hid (by rw [HOG.out (by first | rfl | trivial)]; exact HS.out.stay HB3.out), Lib.hid (HZ.out.stay HB3.out), Lib.hid (HLT.out.stay HB3.out), Lib.hid (HB.out.trans (HB3.out.mono HB.out.size))⟩
        case measure => rw [HW1.out]; exact meas9 HLT'.out
      · have HA : Hid (∀ w3, Below w2.heap.size w2 w3 → Calls Tryd.prog 66 #[.pointer (some ⟨s + 1 + 1, 0, none⟩), .int .i64 k] w3 fun e w' => (∃ v, e = .returned v) ∧ SetB w' (s + 1 + 1) (ofN (((listN g).take j).filter (hasS L c)) ||| 2 ^ k) ∧ But (s + 1 + 1) w3 w') := Lib.hid (fun w3 hb => fadd_any (s + 1 + 1) _ k w3 (HS.out.stay hb) HK.out)
        go_wp2_with (first
          | (refine wpList_load_mid rfl 41 _ rfl b2 (o2 + k * 5) rfl (setC X.1).toList _ HMID.out Tryd.underlying41 rfl (sizeSetL _) ?_; rw [show (setC X.1).toList.toArray = setC X.1 from rfl])
          | (go_at_call 54; refine HH.out.mono ?_; rintro e w3 ⟨rfl, hb3⟩; have HB3 := Lib.hid hb3; clear hb3)
          | (go_at_call 66; refine (HA.out _ HB3.out).mono ?_; rintro e w4 ⟨⟨v, rfl⟩, hs4, hb4⟩; have HS4 := Lib.hid hs4; have HB4 := Lib.hid hb4; clear hs4 hb4))
        go_roundw
        case rel =>
          have hz := hs.out
          have hw := HSW.out
          exact ⟨j + 1, by rw [HW1.out], HLT'.out, Lib.hid (by rw [HOF.out (by first | rfl | trivial)]; exact HS4.out), Lib.hid ((HZ.out.stay HB3.out).but HB4.out (by omega)), Lib.hid ((HLT.out.stay HB3.out).but HB4.out (by omega)), Lib.hid (But.below (HB.out.trans (HB3.out.mono HB.out.size)) HB4.out (by omega) (Nat.le_trans HB.out.size HB3.out.size))⟩
        case measure => rw [HW1.out]; exact meas9 HLT'.out
    · have hdd : decide ((j : Int) < (N : Int)) = false := decide_eq_false (by omega)
      have hd2 : decide (j < N) = false := decide_eq_false hlt
      have HE : Hid (ofN (((listN g).take j).filter (hasS L c)) = rdL L g c) := Lib.hid (by rw [List.take_of_length_le (by rw [hN.out]; omega)]; rfl)
      rw [HE.out] at HS
      go_wp2_with (first
        | (refine wpList_load_set rfl (.tmp 7) rfl (s + 1 + 1) (rdL L g c) rfl HS.out ?_)
        | (refine wpList_store_set rfl (.tmp 6) (.tmp 28) rfl (s + 1) 0 (rdL L g c) rfl rfl HZ.out ?_))
      refine bodyPost_ret (v := .agg (setC (rdL L g c))) (results_cell_row (p := 6) Tryd.results52 _ _ (s + 1) 41 _ (0, 0) _ rfl (HZ.out.put (rdL L g c)).row Tryd.underlying41 rfl (sizeSet _)) rfl ⟨rfl, But.below HB.out (But.setRow _ _ _) (by have := hs.out; omega) HB.out.size⟩
set_option maxHeartbeats 6400000 in
set_option maxRecDepth 100000 in
theorem fjoined_any (ga g : Nat) (G : List Nat) (w : World) (h : GsB w ga G) (hgl : ∀ k, g.testBit k = true → k < G.length) (hT : Tab w) :
    Calls Tryd.prog 53 #[.slice (some ⟨ga, 0, none⟩) G.length G.length, .agg (setC g)] w fun e w' => e = .returned (.agg (setC (bh G g))) ∧ Below w.heap.size w w' := by
  have HM := Lib.hid h
  have HGL := Lib.hid hgl
  have HT := Lib.hid hT
  have HTG : Hid (0 < w.heap.size) := Lib.hid (World.block_lt_of_cell? _ _ (hT 0 (by decide)))
  clear h hgl hT
  go_enter Tryd.func53, Tryd.ntmps53
  go_upto_region 2 with fail
  rw [zeroC]
  obtain ⟨w5, hw5⟩ : ∃ w5, w5 = ((w.alloc (.cells (setC g) 41)).alloc (.cells (setC 0) 41)).alloc (.cells (setC 0) 41) := ⟨_, rfl⟩
  rw [← hw5]
  have b5 : Below w.heap.size w w5 := by
    rw [hw5]
    exact (((Below.refl _ _).alloc (Nat.le_refl _) _).alloc (by simp) _).alloc (by simp <;> omega) _
  have z5 : w5.heap.size = w.heap.size + 1 + 1 + 1 := by rw [hw5]; simp
  have s5 : SetB w5 w.heap.size g := by
    rw [hw5]
    exact ((SetB.new w g).kept ((Below.refl (w.heap.size + 1) _).alloc (by simp) _) (by omega)).kept ((Below.refl (w.heap.size + 1) _).alloc (by simp) _) (by omega)
  have t5 : SetB w5 (w.heap.size + 1) 0 := by
    rw [hw5]
    have := SetB.new (w.alloc (.cells (setC g) 41)) 0
    simp only [World.size_alloc] at this
    exact this.stay ((Below.refl _ _).alloc (by simp) _)
  have u5 : SetB w5 (w.heap.size + 1 + 1) 0 := by
    rw [hw5]
    have := SetB.new ((w.alloc (.cells (setC g) 41)).alloc (.cells (setC 0) 41)) 0
    simp only [World.size_alloc] at this
    exact this
  clear hw5
  have HGA := Lib.hid HM.out.lt
  obtain ⟨s, hs⟩ : ∃ s, Hid (w.heap.size = s) := ⟨_, Lib.hid rfl⟩
  have HLI := Lib.hid (flist_any g w5 (HT.out.below b5 HTG.out))
  rw [hs.out] at z5 s5 t5 u5 ⊢
  have HZ5 := Lib.hid z5
  have HB5 := Lib.hid b5
  have HT5 := Lib.hid t5
  have HU5 := Lib.hid u5
  clear z5 b5 t5 u5
  go_upto_region 3 with (first
    | (refine wpList_load_set rfl (.tmp 3) rfl s g rfl s5 ?_)
    | (go_at_call 67; refine HLI.out.mono ?_; rintro e w6 ⟨a, cc, rfl, hls, hb6⟩; have HLS := Lib.hid hls; have HB6 := Lib.hid hb6; clear hls hb6))
  have HT6 := Lib.hid (HT5.out.stay HB6.out)
  have HU6 := Lib.hid (HU5.out.stay HB6.out)
  have HBW := Lib.hid (HB5.out.trans (HB6.out.mono HB5.out.size))
  have HSW : Hid (s + 1 + 1 < w5.heap.size) := Lib.hid (by rw [HZ5.out]; omega)
  have HLL := Lib.hid (len_list g)
  obtain ⟨N, hN⟩ : ∃ N, Hid ((listN g).length = N) := ⟨_, Lib.hid rfl⟩
  rw [hN.out] at HLL ⊢
  clear HT5 HU5 HB5 HB6 HLI s5 HZ5
  go_loopw [11] (fun i wr => ∃ j : Nat, i = .int .i64 j ∧ j ≤ N ∧ Hid (SetB wr (s + 1 + 1) (((listN g).take j).foldl (fun a k => a ||| G.getD k 0) 0)) ∧ Hid (SetB wr (s + 1) 0) ∧ Hid (LsAt w5.heap.size wr a (listN g)) ∧ Hid (Below w.heap.size w wr)) (fun i _ => ((N : Int) - intOf i).toNat)
  case atStart => exact ⟨0, rfl, Nat.zero_le _, HU6, HT6, HLS, HBW⟩
  case round =>
    obtain ⟨j, rfl, hj, HS, HZ, HLT, HB⟩ := hrel
    generalize hwr : wr = w2 at *
    clear hwr wr HU6 HT6 HLS HBW w6
    by_cases hlt : j < N
    · have hdd : decide ((j : Int) < (N : Int)) = true := decide_eq_true (by omega)
      have hd2 : decide (j < N) = true := decide_eq_true hlt
      have hji : (j : Int) < (N : Int) := by omega
      have hjl : j < (listN g).length := by rw [hN.out]; exact hlt
      obtain ⟨b, o, rfl, -, -, hcl⟩ := HLT.out j hjl
      have hgt := get_list hjl
      have HTK : Hid (((listN g).take (j + 1)).foldl (fun a k => a ||| G.getD k 0) 0 = ((listN g).take j).foldl (fun a k => a ||| G.getD k 0) 0 ||| G.getD ((listN g).getD j 0) 0) := Lib.hid (by rw [take_snoc hjl, List.foldl_append]; rfl)
      have HW1 : Hid (wrap64 ((j : Int) + 1) = ((j + 1 : Nat) : Int)) := Lib.hid (nat_wrap (by have := HLL.out; omega))
      have HLT' := Lib.hid hlt
      generalize (listN g).getD j 0 = k at *
      have hkL := HGL.out k hgt.2
      have HM2 := Lib.hid (HM.out.kept HB.out HGA.out)
      have HR := Lib.hid (HM2.out.range hkL)
      have hix : ((k : Nat) : Int) < (G.length : Int) := by omega
      have HJX := Lib.hid (World.block_lt_of_cell? _ _ hcl)
      clear HM2 hkL hlt hjl
      generalize G.getD k 0 = X at *
      generalize ((listN g).take j).foldl (fun a k => a ||| G.getD k 0) 0 = Y at *
      have HSL := Lib.hid HS.out.lt
      have HRB : Hid (ga < w2.heap.size) := Lib.hid (Nat.lt_of_lt_of_le HGA.out HB.out.size)
      go_upto_region 5 with fail
      refine region_mix [(false, 0), (false, 1), (false, 2), (false, 3), (false, 4), (true, 5)] (fun w' => Below w2.heap.size w2 w') (by kernel_rfl) (by kernel_rfl) ((Below.refl _ _).drew) ?_
      simp only [planOps, List.map_cons, List.map_nil, List.getD_cons_zero, List.getD_cons_succ, List.length_cons, List.length_nil, List.drop_succ_cons, List.drop_zero]
      refine mix_seg (seg := [_, _, _, _, _]) rfl ((Below.refl _ _).drew) ?_
      intro ι hι F hF
      have f1 := Lib.hid (fun n => HS.out.kept (hF n) HSL.out)
      have f2 := Lib.hid (fun n => range_kept HR.out (hF n) HRB.out)
      refine BigFrame.wpQuiet_want rfl (fun K hK => ?_); refine quiet_load_set _ rfl (s + 1 + 1) Y rfl (fun w' ⟨n, e⟩ => e ▸ f1.out n) ?_; refine hK _ ?_; clear hK K; simp only [Act.put, List.setIfInBounds_toArray, List.set_cons_zero, List.set_cons_succ]
      iterate 3 (go_big_quiet_step (fail))
      refine BigFrame.wpQuiet_want rfl (fun K hK => ?_); refine quiet_load_mid 41 _ rfl ga (k * 4) (by first | rfl | (simp; done)) (setC X).toList _ (fun w' ⟨n, e⟩ => e ▸ f2.out n) Tryd.underlying41 rfl (sizeSetL _) ?_; refine hK _ ?_; clear hK K; simp only [Act.put, List.setIfInBounds_toArray, List.set_cons_zero, List.set_cons_succ]
      rw [show (setC X).toList.toArray = setC X from rfl]
      refine wpQuiet_nil ?_
      clear f1 f2 hF hι F
      have HBD : Hid (Below w2.heap.size w2 w2.drew) := Lib.hid ((Below.refl _ _).drew)
      have HA1 := Lib.hid (or_any Y X w2.drew)
      refine mix_eff (fun K hK => ?_)
      go_wp2_with (go_at_call 68; refine HA1.out.mono ?_; rintro e w9 ⟨rfl, hb9⟩; have HB9 := Lib.hid (HBD.out.trans (hb9.mono HBD.out.size)); clear hb9)
      refine mix_on hK HB9.out ?_
      clear hK K
      show wpList _ _ _ _ _ _
      have HS9 := Lib.hid (HS.out.stay HB9.out)
      go_wp2_with (refine wpList_store_set rfl (.tmp 5) (.tmp 20) rfl (s + 1 + 1) Y (Y ||| X) rfl rfl HS9.out ?_)
      refine NoPanic.normal ?_
      go_wp2_with fail
      have HB10 : Hid (But (s + 1 + 1) w9 (w9.setRow (s + 1 + 1) (setC (Y ||| X)))) := Lib.hid (But.setRow _ _ _)
      have HS10 := Lib.hid (HS9.out.put (Y ||| X))
      generalize w9.setRow (s + 1 + 1) (setC (Y ||| X)) = w10 at *
      go_roundw
      case rel =>
        have hz := hs.out
        have hw := HSW.out
        exact ⟨j + 1, by rw [HW1.out], HLT'.out, Lib.hid (by rw [HTK.out]; exact HS10.out), Lib.hid ((HZ.out.stay HB9.out).but HB10.out (by omega)), Lib.hid ((HLT.out.stay HB9.out).but HB10.out (by omega)), Lib.hid (But.below (HB.out.trans (HB9.out.mono HB.out.size)) HB10.out (by omega) (Nat.le_trans HB.out.size HB9.out.size))⟩
      case measure => rw [HW1.out]; exact meas9 HLT'.out
    · have hdd : decide ((j : Int) < (N : Int)) = false := decide_eq_false (by omega)
      have hd2 : decide (j < N) = false := decide_eq_false hlt
      have HE : Hid (((listN g).take j).foldl (fun a k => a ||| G.getD k 0) 0 = bh G g) := Lib.hid (by rw [List.take_of_length_le (by rw [hN.out]; omega)]; rfl)
      rw [HE.out] at HS
      go_wp2_with (first
        | (refine wpList_load_set rfl (.tmp 5) rfl (s + 1 + 1) (bh G g) rfl HS.out ?_)
        | (refine wpList_store_set rfl (.tmp 4) (.tmp 22) rfl (s + 1) 0 (bh G g) rfl rfl HZ.out ?_))
      refine bodyPost_ret (v := .agg (setC (bh G g))) (results_cell_row (p := 4) Tryd.results53 _ _ (s + 1) 41 _ (0, 0) _ rfl (HZ.out.put (bh G g)).row Tryd.underlying41 rfl (sizeSet _)) rfl ⟨rfl, But.below HB.out (But.setRow _ _ _) (by have := hs.out; omega) HB.out.size⟩
end Ft
end Go.Proofs.YtghbgfkkdknmnaaDoor
