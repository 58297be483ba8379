/- Trees written out; awake. -/
import Derived.Test.YtbmoanhdpnaocaaDoorPkO
import Derived.Test.YtbmoanhdpnaocaaDoorPkN
namespace Go.Proofs.YtbmoanhdpnaocaaDoor
open Go.RowKit Sets Tr Rx
theorem World.rangeAt_row {w : World} {g : Nat} {cs : List Value} {t : TypeId} {fr : Nat × Nat} (h : w.heap[g]? = some (.cells cs.toArray t fr)) : w.rangeAt g 0 cs := by
  intro j v hv
  simp only [World.cell?, h, Nat.zero_add, List.getElem?_toArray]
  exact hv
namespace Lt
theorem flat_get {α : Type} (f : α → List Value) (k : Nat) (hf : ∀ x, (f x).length = k) (d : α) (N : List α) : ∀ (i j : Nat), i < N.length → j < k → (N.flatMap f)[i * k + j]? = (f (N.getD i d))[j]? := by
  induction N with
  | nil => intro i j hi; simp at hi
  | cons x N ih =>
    intro i j hi hj
    rw [List.flatMap_cons]
    cases i with
    | zero => rw [Nat.zero_mul, Nat.zero_add, List.getElem?_append_left (by rw [hf]; exact hj)]; rfl
    | succ i =>
      rw [List.getElem?_append_right (by rw [hf, Nat.succ_mul]; omega)]
      have e : (i + 1) * k + j - (f x).length = i * k + j := by rw [hf, Nat.succ_mul]; omega
      rw [e, ih i j (by simpa using hi) hj]
      simp
theorem nd9_len (x : Nd) : (nd9 x).length = 9 := rfl
theorem pt2_len (x : Int × Bool) : (pt2 x).length = 2 := rfl
theorem nodes_lit (w : World) (N : List Nd) (hN : ∀ x ∈ N, NdOk x) (hl : N.length ≤ 700) (cs : Array Value) (hcs : cs = (N.flatMap nd9).toArray) : NodesAt (w.alloc (.cells cs 41)) (.slice (some ⟨w.heap.size, 0, none⟩) N.length N.length) N := by
  subst hcs
  refine ⟨hN, hl, _, _, rfl, fun i hi => ⟨w.heap.size, 0, rfl, fun j v hv => ?_⟩⟩
  have hj : j < 9 := by have := (List.getElem?_eq_some_iff.1 hv).1; rwa [nd9_len] at this
  rw [World.cell?_alloc_new, List.getElem?_toArray, Nat.zero_add, flat_get nd9 9 nd9_len default N i j hi hj]
  exact hv
theorem parts_lit (w : World) (R : List (Int × Bool)) (hR : ∀ x ∈ R, I64 x.1) (hl : R.length ≤ 30) (cs : Array Value) (hcs : cs = (R.flatMap pt2).toArray) : PartsAt (w.alloc (.cells cs 43)) (.slice (some ⟨w.heap.size, 0, none⟩) R.length R.length) R := by
  subst hcs
  refine ⟨hR, hl, _, _, rfl, fun i hi => ⟨w.heap.size, 0, rfl, fun j v hv => ?_⟩⟩
  have hj : j < 2 := by have := (List.getElem?_eq_some_iff.1 hv).1; rwa [pt2_len] at this
  rw [World.cell?_alloc_new, List.getElem?_toArray, Nat.zero_add, flat_get pt2 2 pt2_len default R i j hi hj]
  exact hv
instance (x : Int) : Decidable (I64 x) := inferInstanceAs (Decidable (_ ∧ _))
def okN (x : Nd) : Bool := decide (x.k < 256) && decide (x.s < 2 ^ 256) && decide (I64 x.a) && decide (I64 x.b) && decide (I64 x.mn) && decide (I64 x.mx)
theorem okN_all {N : List Nd} (h : N.all okN = true) : ∀ x ∈ N, NdOk x := by
  intro x hx
  have := List.all_eq_true.1 h x hx
  simp only [okN, Bool.and_eq_true, decide_eq_true_eq] at this
  obtain ⟨⟨⟨⟨⟨h1, h2⟩, h3⟩, h4⟩, h5⟩, h6⟩ := this
  exact ⟨h1, h2, h3, h4, h5, h6⟩
theorem bytes_lit (w : World) (E : List Nat) (hE : ∀ x ∈ E, x < 256) (cs : Array Value) (hcs : cs = (u8s E).toArray) (hl : E.length ≤ maxLen) : BytesAt (w.alloc (.cells cs 5)) (.slice (some ⟨w.heap.size, 0, none⟩) E.length E.length) E := by
  subst hcs
  refine ⟨hE, hl, _, _, rfl, fun i hi => ⟨w.heap.size, 0, rfl, ?_⟩⟩
  rw [Nat.zero_add, World.cell?_alloc_new, List.getElem?_toArray]
  unfold u8s
  rw [List.getElem?_map, List.getElem?_eq_getElem hi, List.getD_eq_getElem?_getD, List.getElem?_eq_getElem hi]
  rfl
end Lt
def awN : List Nd := [⟨2, ofN [97], 0, 0, 0, 0⟩, ⟨2, ofN [98], 0, 0, 0, 0⟩, ⟨5, 0, 1, 0, 0, -1⟩]
def awR : List (Int × Bool) := [(0, true), (2, false)]
theorem aw_cons : cons (by' ⟨#[33, 97, 38, 98, 42]⟩) = .ok 5 awN awR := by rw [cons_eq (by_lt _)]; kernel_rfl
theorem aw_bad : cons (by' ⟨#[97, 42, 42]⟩) = .bad false 2 := by rw [cons_eq (by_lt _)]; kernel_rfl
def awC : Array Value := #[.int .u8 2, .int .u64 (wd (ofN [97]) 0), .int .u64 (wd (ofN [97]) 1), .int .u64 (wd (ofN [97]) 2), .int .u64 (wd (ofN [97]) 3), .int .i64 0, .int .i64 0, .int .i64 0, .int .i64 0, .int .u8 2, .int .u64 (wd (ofN [98]) 0), .int .u64 (wd (ofN [98]) 1), .int .u64 (wd (ofN [98]) 2), .int .u64 (wd (ofN [98]) 3), .int .i64 0, .int .i64 0, .int .i64 0, .int .i64 0, .int .u8 5, .int .u64 0, .int .u64 0, .int .u64 0, .int .u64 0, .int .i64 1, .int .i64 0, .int .i64 0, .int .i64 (-1)]
theorem awC_eq : awC = (awN.flatMap nd9).toArray := by simp [awC, awN, nd9, wd_zero]
def awD : Array Value := #[.int .i64 0, .bool true, .int .i64 2, .bool false]
theorem awD_eq : awD = (awR.flatMap pt2).toArray := rfl
set_option maxHeartbeats 6400000 in
set_option maxRecDepth 100000 in
theorem rawake_any (w : World) : Calls Tryd.prog 5 #[] w fun e w' => e = .returned (.bool true) ∧ Below w.heap.size w w' := by
  have hz := zeroNode
  have HP1 := Lib.hid (parse_any ⟨#[33, 97, 38, 98, 42]⟩ w)
  go_enter Tryd.func5, Tryd.ntmps5
  go_wp2_with fail
  refine HP1.out.mono ?_
  clear HP1
  intro e w1 hP
  unfold PO at hP
  rw [aw_cons] at hP
  obtain ⟨⟨nv, pv, rfl, hN, hP⟩, hB⟩ := hP
  obtain ⟨na, nc, rfl⟩ : ∃ a c, nv = .slice a 3 c := by obtain ⟨-, -, a, c, e, -⟩ := hN; exact ⟨a, c, e⟩
  obtain ⟨pa, pc, rfl⟩ : ∃ a c, pv = .slice a 2 c := by obtain ⟨-, -, a, c, e, -⟩ := hP; exact ⟨a, c, e⟩
  have hsr := World.setRow_alloc_new w1 #[.slice none 0 0, .slice none 0 0] #[.slice na 3 nc, .slice pa 2 pc] 25
  have h0 : (w1.alloc (.cells #[.slice none 0 0, .slice none 0 0] 25)).heap[w1.heap.size]? = some (.cells #[.slice none 0 0, .slice none 0 0] 25 (0, 0)) := heap_alloc_new w1 _
  have H0 := Lib.hid h0
  have HSR := Lib.hid hsr
  have ha := (Below.refl w1.heap.size w1).alloc (Nat.le_refl _) (.cells #[.slice na 3 nc, .slice pa 2 pc] 25)
  have HN := Lib.hid (hN.kept ha)
  have HP := Lib.hid (hP.kept ha)
  have HB := Lib.hid (hB.trans (ha.mono hB.size))
  have hT : (w1.alloc (.cells #[.slice na 3 nc, .slice pa 2 pc] 25)).heap[w1.heap.size]? = some (.cells #[.slice na 3 nc, .slice pa 2 pc] 25 (0, 0)) := heap_alloc_new w1 _
  have HT := Lib.hid hT
  have HS : Hid ((w1.alloc (.cells #[.slice na 3 nc, .slice pa 2 pc] 25)).heap.size = w1.heap.size + 1) := Lib.hid (by simp)
  clear hN hP hB h0 hsr ha hT
  go_wp2_with (refine wpList_put_tree rfl _ _ rfl w1.heap.size _ _ _ _ _ _ rfl rfl (.slice none 0 0) (.slice none 0 0) H0.out ?_; rw [HSR.out])
  generalize w1.alloc (.cells #[.slice na 3 nc, .slice pa 2 pc] 25) = w2 at *
  clear H0 HSR
  have hb := Lt.bytes_lit w2 [97] (by decide) #[.int .u8 97] rfl (by decide)
  rw [HS.out] at hb
  refine (of_any _ [97] _ hb).mono ?_
  rintro e w3 ⟨rfl, hB3⟩
  have hE := ((Below.refl w2.heap.size w2).alloc (Nat.le_refl _) (.cells #[.int .u8 97] 5)).trans (hB3.mono (by simp))
  have HN3 := Lib.hid (HN.out.kept hE)
  have HP3 := Lib.hid (HP.out.kept hE)
  have HT3 : Hid (w3.heap[w1.heap.size]? = _) := Lib.hid ((hE.block _ (by rw [HS.out]; omega)).trans HT.out)
  have HB3 := Lib.hid (HB.out.trans (hE.mono HB.out.size))
  have hS3 : w1.heap.size < w3.heap.size := Nat.lt_of_lt_of_le (by rw [HS.out]; omega) hE.size
  have HS3 := Lib.hid hS3
  clear hb hB3 hE HN HP HT HB HS hS3
  go_wp2_with fail
  have hb := Lt.bytes_lit w3 [98] (by decide) #[.int .u8 98] rfl (by decide)
  refine (of_any _ [98] _ hb).mono ?_
  rintro e w4 ⟨rfl, hB4⟩
  have hE := ((Below.refl w3.heap.size w3).alloc (Nat.le_refl _) (.cells #[.int .u8 98] 5)).trans (hB4.mono (by simp))
  have HN4 := Lib.hid (HN3.out.kept hE)
  have HP4 := Lib.hid (HP3.out.kept hE)
  have HT4 : Hid (w4.heap[w1.heap.size]? = _) := Lib.hid ((hE.block _ HS3.out).trans HT3.out)
  have HB4 := Lib.hid (HB3.out.trans (hE.mono HB3.out.size))
  have HS4 : Hid (w1.heap.size < w4.heap.size) := Lib.hid (Nat.lt_of_lt_of_le HS3.out hE.size)
  clear hb hB4 hE HN3 HP3 HT3 HB3 HS3
  go_wp2_with fail
  have hE1 := (Below.refl w4.heap.size w4).alloc (Nat.le_refl _) (.cells awC 41)
  have hE2 := hE1.alloc hE1.size (.cells awD 43)
  have hE3 := hE2.alloc hE2.size (.cells #[.slice (some ⟨w4.heap.size, 0, none⟩) 3 3, .slice (some ⟨w4.heap.size + 1, 0, none⟩) 2 2] 25)
  have hNw := Lt.nodes_lit w4 awN (Lt.okN_all (by decide +kernel)) (by decide) awC awC_eq
  have hPw := Lt.parts_lit (w4.alloc (.cells awC 41)) awR (by decide) (by decide) awD awD_eq
  rw [show (w4.alloc (.cells awC 41)).heap.size = w4.heap.size + 1 from by simp] at hPw
  have hS1 : ((w4.alloc (.cells awC 41)).alloc (.cells awD 43)).heap.size = w4.heap.size + 1 + 1 := by simp
  have hTw := heap_alloc_new ((w4.alloc (.cells awC 41)).alloc (.cells awD 43)) (.cells #[.slice (some ⟨w4.heap.size, 0, none⟩) 3 3, .slice (some ⟨w4.heap.size + 1, 0, none⟩) 2 2] 25)
  rw [hS1] at hTw
  have HTw := Lib.hid hTw
  have HS5 : Hid ((((w4.alloc (.cells awC 41)).alloc (.cells awD 43)).alloc (.cells #[.slice (some ⟨w4.heap.size, 0, none⟩) 3 3, .slice (some ⟨w4.heap.size + 1, 0, none⟩) 2 2] 25)).heap.size = w4.heap.size + 1 + 1 + 1) := Lib.hid (by simp)
  have HNw := Lib.hid (((hNw.kept ((Below.refl _ _).alloc (Nat.le_refl _) (.cells awD 43)))).kept ((Below.refl _ _).alloc (Nat.le_refl _) (.cells #[.slice (some ⟨w4.heap.size, 0, none⟩) 3 3, .slice (some ⟨w4.heap.size + 1, 0, none⟩) 2 2] 25)))
  have HPw := Lib.hid (hPw.kept ((Below.refl _ _).alloc (Nat.le_refl _) (.cells #[.slice (some ⟨w4.heap.size, 0, none⟩) 3 3, .slice (some ⟨w4.heap.size + 1, 0, none⟩) 2 2] 25)))
  have HN5 := Lib.hid (HN4.out.kept hE3)
  have HP5 := Lib.hid (HP4.out.kept hE3)
  have HT5 := Lib.hid ((hE3.block _ HS4.out).trans HT4.out)
  have HB5 := Lib.hid (HB4.out.trans (hE3.mono HB4.out.size))
  clear hE1 hE2 hE3 hNw hPw hS1 hTw HN4 HP4 HT4 HB4
  unfold awC awD at *
  generalize (((w4.alloc _).alloc _).alloc _) = w5 at *
  have HP6 := Lib.hid (parse_any ⟨#[97, 42, 42]⟩ w5)
  refine HP6.out.mono ?_
  clear HP6
  intro e w6 hP
  unfold PO at hP
  rw [aw_bad] at hP
  obtain ⟨rfl, hB⟩ := hP
  have HTw6 := Lib.hid ((hB.block _ (by rw [HS5.out]; omega)).trans HTw.out)
  have HNw6 := Lib.hid (HNw.out.kept hB)
  have HPw6 := Lib.hid (HPw.out.kept hB)
  have HN6 := Lib.hid (HN5.out.kept hB)
  have HP6 := Lib.hid (HP5.out.kept hB)
  have HT6 := Lib.hid ((hB.block w1.heap.size (by rw [HS5.out]; have := HS4.out; omega)).trans HT5.out)
  have HB6 := Lib.hid (HB5.out.trans (hB.mono HB5.out.size))
  have HL6 := Lib.hid hB.size
  clear hB HTw HNw HPw HN5 HP5 HT5 HB5
  have ha := (Below.refl w6.heap.size w6).alloc (Nat.le_refl _) (.cells #[.slice none 0 0, .slice none 0 0] 25)
  have hC := same_any _ _ _ _ _ _ _ _ awN awR _ (HN6.out.kept ha) (HNw6.out.kept ha) (HP6.out.kept ha) (HPw6.out.kept ha)
  have hr1 : (w6.alloc (.cells #[.slice none 0 0, .slice none 0 0] 25)).rangeAt w1.heap.size 0 [.slice na 3 nc, .slice pa 2 pc] := by
    refine World.rangeAt_row ((ha.block _ ?_).trans HT6.out)
    have := HS5.out; have := HS4.out; have := HL6.out; omega
  have hr2 : (w6.alloc (.cells #[.slice none 0 0, .slice none 0 0] 25)).rangeAt (w4.heap.size + 1 + 1) 0 [.slice (some ⟨w4.heap.size, 0, none⟩) 3 3, .slice (some ⟨w4.heap.size + 1, 0, none⟩) 2 2] := by
    refine World.rangeAt_row ((ha.block _ ?_).trans HTw6.out)
    have := HS5.out; have := HL6.out; omega
  have HC := Lib.hid hC
  have HR1 := Lib.hid hr1
  have HR2 := Lib.hid hr2
  have HB7 := Lib.hid (HB6.out.trans (ha.mono HB6.out.size))
  clear ha hC hr1 hr2 HTw6 HNw6 HPw6 HN6 HP6 HT6 HB6
  go_wp2_with (first
    | (refine BigFrame.wpList_want rfl (fun K' hK' => ?_); refine wp_load_mid 25 _ rfl w1.heap.size 0 rfl _ _ HR1.out Tryd.underlying25 rfl sizeTree' ?_; refine hK' _ _ ?_; clear hK' K')
    | (refine BigFrame.wpList_want rfl (fun K' hK' => ?_); refine wp_load_mid 25 _ rfl (w4.heap.size + 1 + 1) 0 rfl _ _ HR2.out Tryd.underlying25 rfl sizeTree' ?_; refine hK' _ _ ?_; clear hK' K')
    | (go_at_call 13; refine HC.out.mono ?_; rintro e w8 ⟨rfl, hB8⟩; have HB8 := Lib.hid (HB7.out.trans (hB8.mono HB7.out.size)); clear hB8))
  go_ret
  exact ⟨rfl, HB8.out⟩
end Go.Proofs.YtbmoanhdpnaocaaDoor
