/- Several texts in one. -/
import Derived.Test.YtghbgfkkdknmnaaDoorPqC9
import Derived.Test.YtghbgfkkdknmnaaDoorPqL2
namespace Go.Proofs.YtghbgfkkdknmnaaDoor
open Go.RowKit Sets Nf Fs
namespace Ft
/-! Memory -/
theorem OwnM.apart {B g i : Nat} {w : World} {T : TypeId} {cs0 : Array Value} (h0 : w.heap[g]? = some (.cells cs0 T (0, 0))) (u : Value) {e : TypeId} {size n : Nat} {v : Value} {xs : List Value} (ho : w.ownsRow B e size v n xs) (he : e ≠ T) :
    (w.setCell ⟨g, i, none⟩ u).ownsRow B e size v n xs := own_kept ho fun k hk => by
  obtain ⟨cs, hc⟩ := own_type ho hk
  refine Below.heap_setCell w ⟨g, i, none⟩ u k (fun e2 => ?_)
  rw [show k = g from e2, h0] at hc
  injection hc with hc
  injection hc with _ hc
  exact he hc.symm
theorem own_nums {w : World} {B n : Nat} {a : Option Addr} {c : Nat} {l : List Int} (h : OwnN B w (.slice a n c) l) : NumsIn w a l := by
  obtain ⟨a', c', e, hn⟩ := h.nums
  injection e with e1
  rw [e1]; exact hn
theorem own_spots {w : World} {B c : Nat} {a : Option Addr} {L : List (Nat × Nat)} (h : w.ownsRow B 43 5 (.slice a L.length c) L.length (spL L)) : SpotsIn w a L := fun i hi => by
  obtain ⟨k, hk⟩ := own_addr h (by omega)
  rw [hk] at h
  refine ⟨k, 0, hk, fun j v hj => ?_⟩
  have hj5 : j < 5 := by have := (List.getElem?_eq_some_iff.1 hj).1; rwa [sp5_len] at this
  rw [Nat.zero_add, World.ownsRow.cellAt h (i * 5 + j) (by omega), spL_get _ _ hi _ hj5]
  exact hj
theorem own_bools {w : World} {B c : Nat} {a : Option Addr} {L : List Bool} (h : w.ownsRow B 4 1 (.slice a L.length c) L.length (bL L)) : BoolsIn w a L := fun i hi => by
  obtain ⟨k, hk⟩ := own_addr h (by omega)
  rw [hk] at h
  refine ⟨k, 0, hk, ?_⟩
  rw [Nat.zero_add, World.ownsRow.cellAt h i (by omega)]
  exact bL_get L i hi
theorem own_lists {w : World} {B c : Nat} {a : Option Addr} {L : List (List Int)} {vs : List Value} (hl : vs.length = L.length) (h : w.ownsRow B 23 1 (.slice a L.length c) L.length vs) (he : ∀ i, i < L.length → OwnN B w (vs.getD i (.slice none 0 0)) (L.getD i [])) : ListsIn w a L := fun i hi => by
  obtain ⟨k, hk⟩ := own_addr h (by omega)
  rw [hk] at h
  obtain ⟨a', c', e, hn⟩ := (he i hi).nums
  refine ⟨k, 0, a', c', hk, ?_, hn⟩
  rw [Nat.zero_add, World.ownsRow.cellAt h i (by omega)]
  rw [← e, List.getD_eq_getElem?_getD, List.getElem?_eq_getElem (by omega)]; rfl
/-- A list of Follow is written anew, empty. -/
theorem OwnM.setF {B g i : Nat} {w : World} {x : Ma} {m : Mc} (h : OwnM B w x m) (hg : x.oa = some ⟨g, 0, none⟩) (hi : i < m.fo.length) (a : Option Addr) (c : Nat) :
    MAt (w.setCell ⟨g, i, none⟩ (.slice a 0 c)) x ⟨m.sp, m.fi, m.fo.set i [], m.la, m.em⟩ := by
  obtain ⟨vs, h1, h2, h3⟩ := h.fo
  have h2g := h2
  rw [hg] at h2g
  obtain ⟨cs0, h0⟩ := own_type h2g rfl
  refine ⟨own_spots (OwnM.apart h0 _ h.sp (by decide)), own_nums (OwnM.apart h0 _ h.fi (by decide)), fun j hj => ?_, own_bools (OwnM.apart h0 _ h.la (by decide))⟩
  have hj' : j < m.fo.length := by simpa using hj
  have hcell := World.ownsRow.cellAt h2g j (by omega)
  rw [List.getElem?_eq_getElem (by omega)] at hcell
  by_cases e : j = i
  · subst e
    refine ⟨g, 0, a, c, hg, ?_, ?_⟩
    · rw [Nat.zero_add, World.cell?_setCell_same _ _ _ hcell]
      show some (Value.slice a 0 c) = some (.slice a ((m.fo.set j []).getD j []).length c)
      rw [List.getD_eq_getElem?_getD, List.getElem?_set_self hj']
      rfl
    · show NumsIn _ a ((m.fo.set j []).getD j [])
      rw [List.getD_eq_getElem?_getD, List.getElem?_set_self hj']
      exact fun t ht => absurd ht (Nat.not_lt_zero _)
  · have hge : (m.fo.set i []).getD j [] = m.fo.getD j [] := by
      rw [List.getD_eq_getElem?_getD, List.getD_eq_getElem?_getD, List.getElem?_set_ne (fun h => e h.symm)]
    obtain ⟨a', c', e', hn⟩ := (OwnN.nums (B := B) (w := w.setCell ⟨g, i, none⟩ (.slice a 0 c)) (OwnM.apart h0 _ (h3 j hj') (by decide)))
    refine ⟨g, 0, a', c', hg, ?_, by show NumsIn _ a' ((m.fo.set i []).getD j []); rw [hge]; exact hn⟩
    rw [Nat.zero_add, World.cell?_setCell_other _ _ _ _ (by intro h; injection h with _ h; exact e h.symm), hcell]
    show some _ = some (Value.slice a' ((m.fo.set i []).getD j []).length c')
    rw [hge, ← e', List.getD_eq_getElem?_getD, List.getElem?_eq_getElem (by omega)]
    rfl
/-- A spot's tag is written. -/
theorem OwnM.setT {B g i : Nat} {w : World} {x : Ma} {m : Mc} (h : OwnM B w x m) (hg : x.sa = some ⟨g, 0, none⟩) (hi : i < m.sp.length) (t : Nat) :
    MAt (w.setCell ⟨g, i * 5 + 4, none⟩ (.int .u8 t)) x ⟨m.sp.set i ((m.sp.getD i (0, 0)).1, t), m.fi, m.fo, m.la, m.em⟩ := by
  obtain ⟨vs, h1, h2, h3⟩ := h.fo
  have h2g := h.sp
  rw [hg] at h2g
  obtain ⟨cs0, h0⟩ := own_type h2g rfl
  refine ⟨fun j hj => ?_, own_nums (OwnM.apart h0 _ h.fi (by decide)), own_lists h1 (OwnM.apart h0 _ h2 (by decide)) (fun j hj => OwnM.apart h0 _ (h3 j hj) (by decide)), own_bools (OwnM.apart h0 _ h.la (by decide))⟩
  have hj' : j < m.sp.length := by simpa using hj
  obtain ⟨b, o, e1, hr⟩ := own_spots h.sp j hj'
  rw [hg] at e1
  injection e1 with e1
  injection e1 with e1 e2
  subst e1; subst e2
  refine ⟨g, 0, hg, fun q v hq => ?_⟩
  have hq : (sp5 ((m.sp.set i ((m.sp.getD i (0, 0)).1, t)).getD j (0, 0)))[q]? = some v := hq
  have hq5 : q < 5 := by have := (List.getElem?_eq_some_iff.1 hq).1; rwa [sp5_len] at this
  by_cases e : j = i
  · subst e
    have hge : (m.sp.set j ((m.sp.getD j (0, 0)).1, t)).getD j (0, 0) = ((m.sp.getD j (0, 0)).1, t) := by
      rw [List.getD_eq_getElem?_getD, List.getElem?_set_self hj']; rfl
    rw [hge] at hq
    by_cases e4 : q = 4
    · subst e4
      have hv : v = .int .u8 t := by
        have : some (Value.int .u8 (t : Int)) = some v := hq
        injection this with this
        exact this.symm
      rw [Nat.zero_add, hv]
      have h4 := hr 4 _ rfl
      rw [Nat.zero_add] at h4
      exact World.cell?_setCell_same _ _ _ h4
    · rw [World.cell?_setCell_other _ _ _ _ (by intro h; injection h with _ h; omega)]
      refine hr q v ?_
      rw [← hq]
      match q, hq5, e4 with
      | 0, _, _ => rfl
      | 1, _, _ => rfl
      | 2, _, _ => rfl
      | 3, _, _ => rfl
      | 4, _, h => exact absurd rfl h
  · have hga : ∀ y, (m.sp.set i y).getD j (0, 0) = m.sp.getD j (0, 0) := fun y => by
      simp only [List.getD_eq_getElem?_getD, List.getElem?_set_ne (show i ≠ j from fun h => e h.symm)]
    have hge := hga ((m.sp.getD i (0, 0)).1, t)
    rw [hge] at hq
    rw [World.cell?_setCell_other _ _ _ _ (by intro h; injection h with _ h; omega)]
    exact hr q v hq
/-! The machines -/
def lateM : Mc := ⟨(twoM 97).sp, (twoM 97).fi, (twoM 97).fo.set 1 [], (twoM 97).la, (twoM 97).em⟩
def pathM : Mc := ⟨(twoM 99).sp.set 2 (((twoM 99).sp.getD 2 (0, 0)).1, 2), (twoM 99).fi, (twoM 99).fo, (twoM 99).la, (twoM 99).em⟩
def emM (b : Bool) : Mc := ⟨[], [], [], [], b⟩
def laM : Mc := ⟨[], [], [], [true], false⟩
theorem two_run97 : Lr (twoM 97) none [97, 98] [0, 2] := by
  refine .read ((fi_c 97 0).2 (.inl rfl)) ((st0_c 97 97).2 rfl) (fun j hj _ h2 => absurd hj (Nat.not_lt_zero _)) (.read ?_ (by decide +kernel) (fun j hj h1 _ => ?_) (.done (by decide)))
  · show (foN (twoM 97) 0).testBit 2 = true
    decide +kernel
  · have := fo_c 97 0 j h1
    omega
theorem two_takes97 : takesM (twoM 97) [97, 98] = true := (takes_iff _ _).2 ⟨two_rt 97, tk_runs.2 ⟨_, two_run97.run⟩⟩
theorem two_marks97 : mkR (twoM 97) [0, 2] = [0, 0] := by decide +kernel
theorem two_no : takesM (twoM 97) [98] = false := by decide +kernel
theorem em_rt (b : Bool) : Rt (emM b) := ⟨show 0 ≤ 250 by decide, rfl, rfl, fun s hs => (by cases hs), fun l hl => (by cases hl), show rise 0 [] = true by decide⟩
theorem em_fine (b : Bool) : Fine (emM b) := ⟨show 0 ≤ 1000 by decide, show 0 ≤ 1000 by decide, show 0 ≤ 1000 by decide, show 0 ≤ 1000 by decide, fun l h => (by cases h), fun k h => (by cases h), fun s h => (by cases h)⟩
theorem la_fine : Fine laM := ⟨show 0 ≤ 1000 by decide, show 0 ≤ 1000 by decide, show 0 ≤ 1000 by decide, show 1 ≤ 1000 by decide, fun l h => (by cases h), fun k h => (by cases h), fun s h => (by cases h)⟩
theorem em_takes : takesM (emM true) [] = true := by decide +kernel
theorem em_run : Lr (emM true) none [] [] := .em rfl
theorem la_not : ¬ Sv laM := fun h => by
  have := h.right.lal
  exact absurd this (by decide)
theorem em_sv : Sv (emM false) := by
  rw [sv_q]
  refine ⟨em_rt _, ?_⟩
  rintro ⟨a, b, q, l1, l2⟩
  exact absurd l1 (by simp [emM])
theorem late_fine : Fine lateM := by
  refine ⟨show 3 ≤ 1000 by decide, show 2 ≤ 1000 by decide, show 3 ≤ 1000 by decide, show 3 ≤ 1000 by decide, fun l hl => ?_, (two_fine 97 (by decide)).fiN, (two_fine 97 (by decide)).set⟩
  have hl : l ∈ [[2], [], []] := hl
  simp at hl
  rcases hl with rfl | rfl <;> simp [i64]
theorem late_rt : Rt lateM := by
  refine ⟨show 3 ≤ 250 by decide, rfl, rfl, (two_rt 97).tag, fun l hl => ?_, show rise 3 [0, 1] = true by decide⟩
  have hl : l ∈ [[2], [], []] := hl
  simp at hl
  rcases hl with rfl | rfl
  · exact show rise 3 [2] = true by decide
  · exact show rise 3 [] = true by decide
theorem late_fi (k : Nat) : (grp lateM.fi).testBit k = true → k = 0 ∨ k = 1 := by
  show (ofN [0, 1]).testBit k = true → _
  rw [ofN_testBit]; simp
theorem late_fo {k j : Nat} : (foN lateM k).testBit j = true → k = 0 ∧ j = 2 := by
  intro h
  unfold foN grp at h
  rw [ofN_testBit, List.contains_iff_mem] at h
  match k with
  | 0 => simpa [lateM, twoM] using h
  | 1 => simp [lateM, twoM] at h
  | 2 => simp [lateM, twoM] at h
  | k + 3 => simp [lateM, twoM] at h
theorem late_sv : Sv lateM := by
  rw [sv_q]
  refine ⟨late_rt, ?_⟩
  have key : ∀ h a b, Q2 lateM h a b → (a = b ∧ h = 1) ∨ (a ≠ b ∧ a ≤ 1 ∧ b ≤ 1) := by
    intro h a b q
    induction q with
    | @one a b c h1 h2 h3 h4 =>
      by_cases e : a = b
      · subst e
        exact .inl ⟨rfl, if_pos rfl⟩
      · have e1 := late_fi a h1
        have e2 := late_fi b h2
        exact .inr ⟨e, by omega, by omega⟩
    | @more h a b x y c _ h1 h2 _ _ ih =>
      obtain ⟨rfl, rfl⟩ := late_fo h1
      obtain ⟨rfl, rfl⟩ := late_fo h2
      rcases ih with ⟨-, rfl⟩ | ⟨h, -⟩
      · exact .inl ⟨rfl, if_pos rfl⟩
      · exact absurd rfl h
  rintro ⟨a, b, q, l1, -⟩
  rcases key 2 a b q with ⟨-, h⟩ | ⟨-, h, -⟩
  · omega
  · have : a = 0 ∨ a = 1 := by omega
    rcases this with rfl | rfl
    · exact absurd l1 (by decide)
    · exact absurd l1 (by decide)
theorem path_fine : Fine pathM := by
  refine ⟨show 3 ≤ 1000 by decide, show 2 ≤ 1000 by decide, show 3 ≤ 1000 by decide, show 3 ≤ 1000 by decide, (two_fine 99 (by decide)).each, (two_fine 99 (by decide)).fiN, fun s hs => ?_⟩
  have hs : s ∈ [(ofN [99], 0), (ofN [97], 1), (ofN [98], 2)] := hs
  simp at hs
  rcases hs with rfl | rfl | rfl <;> exact ⟨by decide +kernel, by decide +kernel⟩
theorem path_rt : Rt pathM := by
  refine ⟨show 3 ≤ 250 by decide, rfl, rfl, fun s hs => ?_, (two_rt 99).foR, show rise 3 [0, 1] = true by decide⟩
  have hs : s ∈ [(ofN [99], 0), (ofN [97], 1), (ofN [98], 2)] := hs
  simp at hs
  rcases hs with rfl | rfl | rfl
  · exact show 0 ≤ 2 by decide
  · exact show 1 ≤ 2 by decide
  · exact show 2 ≤ 2 by decide
theorem path_run : Lr pathM none [97, 98] [1, 2] := by
  refine .read ?_ (by decide +kernel) (fun j hj _ h2 => ?_) (.read ?_ (by decide +kernel) (fun j hj h1 _ => ?_) (.done (by decide)))
  · show (grp pathM.fi).testBit 1 = true
    decide +kernel
  · obtain rfl : j = 0 := by omega
    exact absurd h2 (by decide +kernel)
  · show (foN pathM 1).testBit 2 = true
    decide +kernel
  · have h1 : (foN pathM 1).testBit j = true := h1
    have : j = 0 ∨ j = 1 := by omega
    rcases this with rfl | rfl
    · exact absurd h1 (by decide +kernel)
    · exact absurd h1 (by decide +kernel)
theorem path_takes : takesM pathM [97, 98] = true := (takes_iff _ _).2 ⟨path_rt, tk_runs.2 ⟨_, path_run.run⟩⟩
theorem path_marks : mkR pathM [1, 2] = [1, 2] := by decide +kernel
end Ft
end Go.Proofs.YtghbgfkkdknmnaaDoor
namespace Go.Proofs.YtghbgfkkdknmnaaDoor
open Go.RowKit Sets Nf Fs
namespace Ft
theorem kn_marks (x : Ma) (m : Mc) (s : ByteArray) (R L : List Nat) (W : World) (h : MAt W x m) (hf : Fine m) (hs : s.size ≤ 1000) (hT : Tab W) (ht : takesM m (Nf.bs s) = true) (hR : Lr m none (Nf.bs s) R) (hL : mkR m R = L) :
    Calls Tryd.prog 11 #[.agg (mc x m), .string s] W fun e w' => ∃ a c, e = .returned (.tuple #[.slice a L.length c, .bool true]) ∧ BytesAt w' (.slice a L.length c) L ∧ Below W.heap.size W w' := by
  refine (fmarks_any x m s W h hf hs hT).mono ?_
  rintro e w' ⟨v, L', rfl, hy, -, h2, hb⟩
  rw [ht] at h2 ⊢
  have e1 := h2 rfl R hR
  rw [hL] at e1
  subst e1
  obtain ⟨-, -, a, c, rfl, -⟩ := id hy
  exact ⟨a, c, rfl, hy, hb⟩
theorem kn_marks_no (x : Ma) (m : Mc) (s : ByteArray) (W : World) (h : MAt W x m) (hf : Fine m) (hs : s.size ≤ 1000) (hT : Tab W) (ht : takesM m (Nf.bs s) = false) :
    Calls Tryd.prog 11 #[.agg (mc x m), .string s] W fun e w' => ∃ v, e = .returned (.tuple #[v, .bool false]) ∧ Below W.heap.size W w' := by
  refine (fmarks_any x m s W h hf hs hT).mono ?_
  rintro e w' ⟨v, L', rfl, hy, -, h2, hb⟩
  rw [ht]
  exact ⟨v, rfl, hb⟩
theorem kn_run (x : Ma) (m : Mc) (s : ByteArray) (R L H P : List Nat) (W : World) (h : MAt W x m) (hf : Fine m) (hs : s.size ≤ 1000) (hT : Tab W) (ht : takesM m (Nf.bs s) = true) (hR : Lr m none (Nf.bs s) R) (hL : mkR m R = L) (hH : flM (Nf.bs s) L 1 L.length = H) (hP : flM (Nf.bs s) L 2 L.length = P) :
    Calls Tryd.prog 14 #[.agg (mc x m), .string s] W fun e w' => ∃ hS pS, e = .returned (.agg (pcV true hS pS)) ∧ Nf.bs hS = H ∧ Nf.bs pS = P ∧ Below W.heap.size W w' := by
  refine (frun_any x m s W h hf hs hT).mono ?_
  rintro e w' ⟨L', hS, pS, rfl, -, h1, h2, h3, hb⟩
  rw [ht] at h1 ⊢
  have e1 := h1 rfl R hR
  rw [hL] at e1
  subst e1
  exact ⟨hS, pS, rfl, by rw [h2, hH], by rw [h3, hP], hb⟩
theorem kn_run_no (x : Ma) (m : Mc) (s : ByteArray) (W : World) (h : MAt W x m) (hf : Fine m) (hs : s.size ≤ 1000) (hT : Tab W) (ht : takesM m (Nf.bs s) = false) :
    Calls Tryd.prog 14 #[.agg (mc x m), .string s] W fun e w' => ∃ hS pS, e = .returned (.agg (pcV false hS pS)) ∧ Nf.bs hS = [] ∧ Nf.bs pS = [] ∧ Below W.heap.size W w' := by
  refine (frun_any x m s W h hf hs hT).mono ?_
  rintro e w' ⟨L', hS, pS, rfl, h0, -, h2, h3, hb⟩
  rw [ht] at h0 ⊢
  have e1 := h0 rfl
  subst e1
  exact ⟨hS, pS, rfl, h2, h3, hb⟩
theorem kn_single (x : Ma) (m : Mc) (b : Bool) (W : World) (h : MAt W x m) (hf : Fine m) (hn : m.sp.length ≤ 100) (hT : Tab W) (hs : b = true ↔ Sv m) :
    Calls Tryd.prog 17 #[.agg (mc x m)] W fun e w' => e = .returned (.bool b) ∧ Below W.heap.size W w' := by
  refine (fsingle_any x m W h hf hn hT).mono ?_
  rintro e w' ⟨b', rfl, h1, hb⟩
  have : b' = b := by
    rw [Bool.eq_iff_iff, h1, hs]
  subst this
  exact ⟨rfl, hb⟩
theorem zeroMcF (w : World) : (zeroValue 27).run Tryd.prog w = .ok (.agg #[.slice none 0 0, .slice none 0 0, .slice none 0 0, .slice none 0 0, .bool false]) w := by kernel_rfl
def xz : Ma := ⟨none, 0, none, 0, none, 0, none, 0⟩
theorem em_at (W : World) (b : Bool) : MAt W xz (emM b) := ⟨fun _ hi => absurd hi (Nat.not_lt_zero _), fun _ hi => absurd hi (Nat.not_lt_zero _), fun _ hi => absurd hi (Nat.not_lt_zero _), fun _ hi => absurd hi (Nat.not_lt_zero _)⟩
set_option maxHeartbeats 12800000 in
set_option maxRecDepth 100000 in
theorem fknw_any (w : World) (hT : Tab w) : Calls Tryd.prog 5 #[] w fun e w' => e = .returned (.bool true) ∧ Below w.heap.size w w' := by
  have HG : Hid (0 < w.heap.size) := Lib.hid (World.block_lt_of_cell? _ _ (hT 0 (by decide)))
  have HT := Lib.hid hT
  have HTW := Lib.hid (fun w' (h : Below w.heap.size w w') => HT.out.below h HG.out)
  have hz := zeroMcF
  clear hT
  go_enter Tryd.func5, Tryd.ntmps5
  have H1 := Lib.hid (two14_any 97 (by decide) w)
  go_wp2_with fail
  refine H1.out.mono ?_
  rintro e w1 ⟨x1, rfl, ho1, hb1⟩
  have HB1 := Lib.hid hb1
  have H2 := Lib.hid (kn_marks x1 (twoM 97) ⟨#[97, 98]⟩ [0, 2] [0, 0] w1 ho1.mat (two_fine 97 (by decide)) (show 2 ≤ 1000 by decide) (HTW.out _ hb1) two_takes97 two_run97 two_marks97)
  clear ho1 hb1 H1
  go_wp2_with fail
  refine H2.out.mono ?_
  rintro e w2 ⟨a1, c1, rfl, hy, hb⟩
  have HY1 := Lib.hid hy
  have HB2 := Lib.hid (HB1.out.trans (hb.mono HB1.out.size))
  clear hy hb H2 HB1 w1
  have H1 := Lib.hid (two14_any 99 (by decide) w2)
  go_wp2_with fail
  refine H1.out.mono ?_
  rintro e w3 ⟨x3, rfl, ho1, hb1⟩
  have HB3 := Lib.hid (HB2.out.trans (hb1.mono HB2.out.size))
  have HY3 := Lib.hid (HY1.out.kept hb1)
  have H2 := Lib.hid (kn_marks x3 (twoM 99) ⟨#[97, 98]⟩ [1, 2] [1, 0] w3 ho1.mat (two_fine 99 (by decide)) (show 2 ≤ 1000 by decide) (HTW.out _ HB3.out) two_takes two_run two_marks)
  clear ho1 hb1 H1 HY1 HB2
  go_wp2_with fail
  refine H2.out.mono ?_
  rintro e w4 ⟨a2, c2, rfl, hy, hb⟩
  have HZ4 := Lib.hid hy
  have HY4 := Lib.hid (HY3.out.kept hb)
  have HB4 := Lib.hid (HB3.out.trans (hb.mono HB3.out.size))
  clear hy hb H2 HB3 HY3
  have H1 := Lib.hid (two14_any 97 (by decide) w4)
  go_wp2_with fail
  refine H1.out.mono ?_
  rintro e w5 ⟨x5, rfl, ho1, hb1⟩
  have HB5 := Lib.hid (HB4.out.trans (hb1.mono HB4.out.size))
  have HK5 := Lib.hid hb1
  have H2 := Lib.hid (kn_marks_no x5 (twoM 97) ⟨#[98]⟩ w5 ho1.mat (two_fine 97 (by decide)) (show 1 ≤ 1000 by decide) (HTW.out _ HB5.out) two_no)
  clear ho1 hb1 H1 HB4
  go_wp2_with fail
  refine H2.out.mono ?_
  rintro e w6 ⟨v3, rfl, hb⟩
  have HB6 := Lib.hid (HB5.out.trans (hb.mono HB5.out.size))
  have HK6 := Lib.hid (HK5.out.trans (hb.mono HK5.out.size))
  clear hb H2 HB5 HK5
  have H2 : Hid (Calls Tryd.prog 11 #[.agg #[.slice none 0 0, .slice none 0 0, .slice none 0 0, .slice none 0 0, .bool true], .string ⟨#[]⟩] w6 fun e w' => ∃ a c, e = .returned (.tuple #[.slice a 0 c, .bool true]) ∧ BytesAt w' (.slice a 0 c) [] ∧ Below w6.heap.size w6 w') := Lib.hid (kn_marks xz (emM true) ⟨#[]⟩ [] [] w6 (em_at _ _) (em_fine _) (show 0 ≤ 1000 by decide) (HTW.out _ HB6.out) em_takes em_run rfl)
  go_wp2_with fail
  refine H2.out.mono ?_
  rintro e w7 ⟨a4, c4, rfl, -, hb⟩
  have HB7 := Lib.hid (HB6.out.trans (hb.mono HB6.out.size))
  have HK7 := Lib.hid (HK6.out.trans (hb.mono HK6.out.size))
  have HY7 := Lib.hid (HY4.out.kept HK7.out)
  have HZ7 := Lib.hid (HZ4.out.kept HK7.out)
  clear hb H2 HB6 HK6 HK7 HY4 HZ4
  have H1 := Lib.hid (two14_any 97 (by decide) w7)
  go_wp2_with fail
  refine H1.out.mono ?_
  rintro e w8 ⟨x8, rfl, ho8, hb8⟩
  have HO8 := Lib.hid ho8
  have HK8 := Lib.hid hb8
  clear ho8 hb8 H1
  go_upto_region 6 with (refine wpList_store_row rfl 27 (.tmp 9) (.tmp 31) rfl w8.heap.size (mc x8 (twoM 97)) rfl rfl 27 _ (heap_alloc_new _ _) (sizeMach _ _) rfl (by simp [mc, Value.oneCell']) ?_; rw [World.setRow_alloc_new])
  have hput : ∀ a : Act, a.put none undef = a := fun _ => rfl
  rw [hput]
  clear hput
  have HX9 := Lib.hid (BoxM.new w8 x8 (twoM 97))
  have HA9 := Lib.hid ((Below.refl w8.heap.size w8).alloc (Nat.le_refl _) (.cells (mc x8 (twoM 97)) 27))
  have HO9 := Lib.hid (HO8.out.stay HA9.out)
  have HK9 := Lib.hid (HK8.out.trans (HA9.out.mono HK8.out.size))
  obtain ⟨l, hl⟩ : ∃ l, Hid (w8.heap.size = l) := ⟨_, Lib.hid rfl⟩
  rw [hl.out] at HX9 ⊢
  generalize w8.alloc (.cells (mc x8 (twoM 97)) 27) = w9 at *
  clear HA9 HO8 HK8 hl w8
  obtain ⟨g, hg⟩ : ∃ g, x8.oa = some ⟨g, 0, none⟩ := by
    obtain ⟨vs, h1, h2, h3⟩ := HO9.out.fo
    exact own_addr h2 (show 0 < 3 by decide)
  have hc2 : w9.cell? ⟨l, 2, none⟩ = some (.slice (some ⟨g, 0, none⟩) 3 x8.oc) := by rw [HX9.out.c2, hg]; rfl
  have HA := Lib.hid ((Below.refl w9.heap.size w9).alloc (Nat.le_refl _) (.cells #[] 3))
  have HOA := Lib.hid (HO9.out.stay HA.out)
  have hrow : Hid (∃ cs, (w9.alloc (.cells #[] 3)).heap[g]? = some (.cells cs 23 (0, 0)) ∧ (∃ u, (w9.alloc (.cells #[] 3)).cell? ⟨g, 1, none⟩ = some u) ∧ w7.heap.size ≤ g) := Lib.hid (by
    obtain ⟨vs, h1, h2, h3⟩ := HOA.out.fo
    rw [hg] at h2
    obtain ⟨cs, hcs⟩ := own_type h2 rfl
    have hca := World.ownsRow.cellAt h2 1 (by show 1 < 3 * 1; decide)
    have h13 : 1 < vs.length := by rw [h1]; show 1 < 3; decide
    rw [List.getElem?_eq_getElem h13] at hca
    exact ⟨cs, hcs, ⟨_, hca⟩, (h2.lt g rfl).1⟩)
  obtain ⟨cs, hcs, ⟨u1, hu1⟩, hgw⟩ := hrow.out
  have hfr := frozen_of_row _ g 1 _ _ hcs
  have HCS := Lib.hid hcs
  have HGW := Lib.hid hgw
  clear hrow hcs hgw
  go_upto_region 7 with fail
  have HML : Hid (MAt ((w9.alloc (.cells #[] 3)).setCell ⟨g, 1, none⟩ (.slice (some ⟨w9.heap.size, 0, none⟩) 0 0)) x8 lateM) := Lib.hid (OwnM.setF HOA.out hg (show 1 < 3 by decide) (some ⟨w9.heap.size, 0, none⟩) 0)
  have hlg : l ≠ g := fun e => by
    have h := (bxStay HX9.out HA.out).row
    rw [e, HCS.out] at h
    injection h with h
    injection h with _ h
    exact absurd h (by decide)
  have HXA : Hid (BoxM ((w9.alloc (.cells #[] 3)).setCell ⟨g, 1, none⟩ (.slice (some ⟨w9.heap.size, 0, none⟩) 0 0)) l x8 lateM) := Lib.hid ⟨(bxBut (bxStay HX9.out HA.out) (But.set g _ 1 _) hlg).row⟩
  have HKA := Lib.hid (But.below (HK9.out.trans (HA.out.mono HK9.out.size)) (But.set g (w9.alloc (.cells #[] 3)) 1 (.slice (some ⟨w9.heap.size, 0, none⟩) 0 0)) HGW.out (Nat.le_trans HK9.out.size HA.out.size))
  clear hlg HX9 HOA HA HCS HGW hu1 hfr hc2 HO9 HK9
  generalize (w9.alloc (.cells #[] 3)).setCell ⟨g, 1, none⟩ (.slice (some ⟨w9.heap.size, 0, none⟩) 0 0) = wA at *
  have HBA := Lib.hid (HB7.out.trans (HKA.out.mono HB7.out.size))
  have HYA := Lib.hid (HY7.out.kept HKA.out)
  have HZA := Lib.hid (HZ7.out.kept HKA.out)
  clear HB7 HY7 HZ7 HKA
  have H1 := Lib.hid (two14_any 99 (by decide) wA)
  go_wp2_with fail
  refine H1.out.mono ?_
  rintro e wB ⟨x9, rfl, hoB, hbB⟩
  have HOB := Lib.hid hoB
  have HKB := Lib.hid hbB
  clear hoB hbB H1
  go_upto_region 8 with (refine wpList_store_row rfl 27 (.tmp 10) (.tmp 36) rfl wB.heap.size (mc x9 (twoM 99)) rfl rfl 27 _ (heap_alloc_new _ _) (sizeMach _ _) rfl (by simp [mc, Value.oneCell']) ?_; rw [World.setRow_alloc_new])
  have hput : ∀ a : Act, a.put none undef = a := fun _ => rfl
  rw [hput]
  clear hput
  have HXC := Lib.hid (BoxM.new wB x9 (twoM 99))
  have HAC := Lib.hid ((Below.refl wB.heap.size wB).alloc (Nat.le_refl _) (.cells (mc x9 (twoM 99)) 27))
  have HOC := Lib.hid (HOB.out.stay HAC.out)
  have HKC := Lib.hid (HKB.out.trans (HAC.out.mono HKB.out.size))
  obtain ⟨p, hp⟩ : ∃ p, Hid (wB.heap.size = p) := ⟨_, Lib.hid rfl⟩
  rw [hp.out] at HXC ⊢
  generalize wB.alloc (.cells (mc x9 (twoM 99)) 27) = wC at *
  clear HAC HOB HKB hp wB
  obtain ⟨g2, hg2⟩ : ∃ g2, x9.sa = some ⟨g2, 0, none⟩ := own_addr HOC.out.sp (show 0 < 3 by decide)
  have hc2 : wC.cell? ⟨p, 0, none⟩ = some (.slice (some ⟨g2, 0, none⟩) 3 x9.sc) := by rw [HXC.out.c0, hg2]; rfl
  have hrow : Hid (∃ cs, wC.heap[g2]? = some (.cells cs 43 (0, 0)) ∧ (∃ u, wC.cell? ⟨g2, 14, none⟩ = some u) ∧ wA.heap.size ≤ g2) := Lib.hid (by
    have h2 := HOC.out.sp
    rw [hg2] at h2
    obtain ⟨cs, hcs⟩ := own_type h2 rfl
    have hca := World.ownsRow.cellAt h2 14 (by show 14 < 3 * 5; decide)
    rw [show (spL (twoM 99).sp)[14]? = some (.int .u8 0) from rfl] at hca
    exact ⟨cs, hcs, ⟨_, hca⟩, (h2.lt g2 rfl).1⟩)
  obtain ⟨cs2, hcs, ⟨u2, hu1⟩, hgw⟩ := hrow.out
  have hfr := frozen_of_row _ g2 14 _ _ hcs
  have HCS := Lib.hid hcs
  have HGW := Lib.hid hgw
  clear hrow hcs hgw
  go_upto_region 9 with fail
  have HMP : Hid (MAt (wC.setCell ⟨g2, 14, none⟩ (.int .u8 2)) x9 pathM) := Lib.hid (OwnM.setT (i := 2) HOC.out hg2 (show 2 < 3 by decide) 2)
  have hlg : p ≠ g2 := fun e => by
    have h := HXC.out.row
    rw [e, HCS.out] at h
    injection h with h
    injection h with _ h
    exact absurd h (by decide)
  have HXP : Hid (BoxM (wC.setCell ⟨g2, 14, none⟩ (.int .u8 2)) p x9 pathM) := Lib.hid ⟨(bxBut HXC.out (But.set g2 _ 14 _) hlg).row⟩
  have HKD := Lib.hid (But.below HKC.out (But.set g2 wC 14 (.int .u8 2)) HGW.out HKC.out.size)
  clear hlg HXC HOC HCS HGW hu1 hfr hc2 HKC
  generalize wC.setCell ⟨g2, 14, none⟩ (.int .u8 2) = wD at *
  clear wC
  have HKE : Hid (∀ W, Below wD.heap.size wD W → BoxM W l x8 lateM ∧ MAt W x8 lateM ∧ BoxM W p x9 pathM ∧ MAt W x9 pathM ∧ BytesAt W (.slice a1 2 c1) [0, 0] ∧ BytesAt W (.slice a2 2 c2) [1, 0] ∧ Below w.heap.size w W ∧ Tab W) := Lib.hid (fun W hW => by
    have h1 := HKD.out.trans (hW.mono HKD.out.size)
    have h2 := HBA.out.trans (h1.mono HBA.out.size)
    exact ⟨bxStay HXA.out h1, HML.out.kept h1, bxStay HXP.out hW, HMP.out.kept hW, HYA.out.kept h1, HZA.out.kept h1, h2, HTW.out _ h2⟩)
  clear HKD HXA HML HXP HMP HYA HZA HBA wA
  obtain ⟨E, hE⟩ : ∃ E, Hid (wD.heap.size = E) := ⟨_, Lib.hid rfl⟩
  rw [hE.out] at HKE
  have HD := Lib.hid (Below.refl wD.heap.size wD)
  rw [hE.out] at HD
  have HES : Hid (∀ W, Below E wD W → E ≤ W.heap.size) := Lib.hid (fun W h => by rw [← hE.out]; exact h.size)
  have H1 : Hid (Calls Tryd.prog 13 #[.slice a1 2 c1, .slice (some ⟨wD.heap.size, 0, none⟩) 2 2] (wD.alloc (.cells #[.int .u8 0, .int .u8 0] 5)) fun e w' => e = .returned (.bool true) ∧ Below (wD.alloc (.cells #[.int .u8 0, .int .u8 0] 5)).heap.size (wD.alloc (.cells #[.int .u8 0, .int .u8 0] 5)) w') := Lib.hid (marked14_any (.slice a1 2 c1) _ [0, 0] [0, 0] (wD.alloc (.cells #[.int .u8 0, .int .u8 0] 5)) (HKE.out _ (HD.out.alloc (HES.out _ HD.out) _)).2.2.2.2.1 (bytes_litN wD [0, 0] (by decide) #[.int .u8 0, .int .u8 0] rfl (by decide)) (by decide))
  have HA := Lib.hid (HD.out.alloc (HES.out _ HD.out) (.cells #[.int .u8 0, .int .u8 0] 5))
  go_wp2_with fail
  refine H1.out.mono ?_
  rintro e u1 ⟨rfl, hb⟩
  have HD1 := Lib.hid (HA.out.trans (hb.mono (HES.out _ HA.out)))
  clear hb HA H1
  have H1 : Hid (Calls Tryd.prog 13 #[.slice a2 2 c2, .slice (some ⟨u1.heap.size, 0, none⟩) 2 2] (u1.alloc (.cells #[.int .u8 1, .int .u8 0] 5)) fun e w' => e = .returned (.bool true) ∧ Below (u1.alloc (.cells #[.int .u8 1, .int .u8 0] 5)).heap.size (u1.alloc (.cells #[.int .u8 1, .int .u8 0] 5)) w') := Lib.hid (marked14_any (.slice a2 2 c2) _ [1, 0] [1, 0] (u1.alloc (.cells #[.int .u8 1, .int .u8 0] 5)) (HKE.out _ (HD1.out.alloc (HES.out _ HD1.out) _)).2.2.2.2.2.1 (bytes_litN u1 [1, 0] (by decide) #[.int .u8 1, .int .u8 0] rfl (by decide)) (by decide))
  have HA := Lib.hid (HD1.out.alloc (HES.out _ HD1.out) (.cells #[.int .u8 1, .int .u8 0] 5))
  go_wp2_with fail
  refine H1.out.mono ?_
  rintro e u2 ⟨rfl, hb⟩
  have HD2 := Lib.hid (HA.out.trans (hb.mono (HES.out _ HA.out)))
  clear hb HA H1 HD1
  have H1 := Lib.hid (two14_any 97 (by decide) u2)
  go_wp2_with fail
  refine H1.out.mono ?_
  rintro e u3 ⟨x3, rfl, ho, hb⟩
  have HD3 := Lib.hid (HD2.out.trans (hb.mono (HES.out _ HD2.out)))
  have H2 := Lib.hid (kn_run_no x3 (twoM 97) ⟨#[98]⟩ u3 ho.mat (two_fine 97 (by decide)) (show 1 ≤ 1000 by decide) (HKE.out _ HD3.out).2.2.2.2.2.2.2 two_no)
  clear ho hb H1 HD2
  go_wp2_with fail
  refine H2.out.mono ?_
  rintro e u4 ⟨h4, p4, rfl, hh, hp, hb⟩
  have HD4 := Lib.hid (HD3.out.trans (hb.mono (HES.out _ HD3.out)))
  have HP4 : Hid (paB false h4 p4 false ⟨#[]⟩ ⟨#[]⟩ = true) := Lib.hid (by unfold paB; rw [hh, hp]; rfl)
  clear hh hp hb H2 HD3
  have H1 := Lib.hid (two14_any 97 (by decide) u4)
  go_wp2_with (refine wpList_eql_pa rfl _ (.tmp 69) (.tmp 70) rfl false h4 p4 false ⟨#[]⟩ ⟨#[]⟩ rfl rfl ?_; rw [HP4.out])
  refine H1.out.mono ?_
  rintro e u5 ⟨x5, rfl, ho, hb⟩
  have HD5 := Lib.hid (HD4.out.trans (hb.mono (HES.out _ HD4.out)))
  have H2 := Lib.hid (kn_run x5 (twoM 97) ⟨#[97, 98]⟩ [0, 2] [0, 0] [] [] u5 ho.mat (two_fine 97 (by decide)) (show 2 ≤ 1000 by decide) (HKE.out _ HD5.out).2.2.2.2.2.2.2 two_takes97 two_run97 two_marks97 rfl rfl)
  clear ho hb H1 HD4 HP4
  go_wp2_with fail
  refine H2.out.mono ?_
  rintro e u6 ⟨h6, p6, rfl, hh, hp, hb⟩
  have HD6 := Lib.hid (HD5.out.trans (hb.mono (HES.out _ HD5.out)))
  have HP6 : Hid (paB true h6 p6 true ⟨#[]⟩ ⟨#[]⟩ = true) := Lib.hid (by unfold paB; rw [hh, hp]; rfl)
  have HK6 := Lib.hid (HKE.out _ HD6.out)
  have H1 := Lib.hid (kn_single x8 lateM true u6 HK6.out.2.1 late_fine (show 3 ≤ 100 by decide) HK6.out.2.2.2.2.2.2.2 ⟨fun _ => late_sv, fun _ => rfl⟩)
  clear hh hp hb H2 HD5
  go_wp2_with (first
    | (refine wpList_eql_pa rfl _ (.tmp 75) (.tmp 76) rfl true h6 p6 true ⟨#[]⟩ ⟨#[]⟩ rfl rfl ?_; rw [HP6.out])
    | (refine wpList_load_machG rfl (.tmp 9) rfl l x8 lateM rfl HK6.out.1 ?_))
  refine H1.out.mono ?_
  rintro e u7 ⟨rfl, hb⟩
  have HD7 := Lib.hid (HD6.out.trans (hb.mono (HES.out _ HD6.out)))
  have HK7 := Lib.hid (HKE.out _ HD7.out)
  have H2 := Lib.hid (kn_run x9 pathM ⟨#[97, 98]⟩ [1, 2] [1, 2] [97] [98] u7 HK7.out.2.2.2.1 path_fine (show 2 ≤ 1000 by decide) HK7.out.2.2.2.2.2.2.2 path_takes path_run path_marks rfl rfl)
  clear hb H1 HD6 HK6 HP6
  go_wp2_with (refine wpList_load_machG rfl (.tmp 10) rfl p x9 pathM rfl HK7.out.2.2.1 ?_)
  refine H2.out.mono ?_
  rintro e u8 ⟨h8, p8, rfl, hh, hp, hb⟩
  have HD8 := Lib.hid (HD7.out.trans (hb.mono (HES.out _ HD7.out)))
  have HP8 : Hid (paB true h8 p8 true ⟨#[97]⟩ ⟨#[98]⟩ = true) := Lib.hid (by unfold paB; rw [hh, hp]; rfl)
  have HA := Lib.hid (HD8.out.alloc (HES.out _ HD8.out) (.cells #[.bool true] 4))
  have H1 : Hid (Calls Tryd.prog 17 #[.agg #[.slice none 0 0, .slice none 0 0, .slice none 0 0, .slice (some ⟨u8.heap.size, 0, none⟩) 1 1, .bool false]] (u8.alloc (.cells #[.bool true] 4)) fun e w' => e = .returned (.bool false) ∧ Below (u8.alloc (.cells #[.bool true] 4)).heap.size (u8.alloc (.cells #[.bool true] 4)) w') := Lib.hid (kn_single ⟨none, 0, none, 0, none, 0, some ⟨u8.heap.size, 0, none⟩, 1⟩ laM false _ ⟨fun _ hi => absurd hi (Nat.not_lt_zero _), fun _ hi => absurd hi (Nat.not_lt_zero _), fun _ hi => absurd hi (Nat.not_lt_zero _), fun i hi => by
      have hi : i < 1 := hi
      obtain rfl : i = 0 := by omega
      exact ⟨u8.heap.size, 0, rfl, by rw [Nat.zero_add, World.cell?_alloc_new]; rfl⟩⟩ la_fine (show 0 ≤ 100 by decide) (HKE.out _ HA.out).2.2.2.2.2.2.2 ⟨fun h => (by cases h), fun h => absurd h la_not⟩)
  clear hh hp hb H2 HD7 HK7
  go_wp2_with (refine wpList_eql_pa rfl _ (.tmp 85) (.tmp 86) rfl true h8 p8 true ⟨#[97]⟩ ⟨#[98]⟩ rfl rfl ?_; rw [HP8.out])
  refine H1.out.mono ?_
  rintro e u9 ⟨rfl, hb⟩
  have HD9 := Lib.hid (HA.out.trans (hb.mono (HES.out _ HA.out)))
  clear hb H1 HA HP8 HD8
  have H1 : Hid (Calls Tryd.prog 17 #[.agg #[.slice none 0 0, .slice none 0 0, .slice none 0 0, .slice none 0 0, .bool false]] u9 fun e w' => e = .returned (.bool true) ∧ Below u9.heap.size u9 w') := Lib.hid (kn_single xz (emM false) true u9 (em_at _ _) (em_fine _) (show 0 ≤ 100 by decide) (HKE.out _ HD9.out).2.2.2.2.2.2.2 ⟨fun _ => em_sv, fun _ => rfl⟩)
  go_wp2_with fail
  refine H1.out.mono ?_
  rintro e u10 ⟨rfl, hb⟩
  have HDA := Lib.hid (HD9.out.trans (hb.mono (HES.out _ HD9.out)))
  have H2 := Lib.hid (awake14_any u10 (HKE.out _ HDA.out).2.2.2.2.2.2.2)
  clear hb H1 HD9
  go_wp2_with fail
  refine H2.out.mono ?_
  rintro e u11 ⟨rfl, hb⟩
  have HDB := Lib.hid (HDA.out.trans (hb.mono (HES.out _ HDA.out)))
  go_wp2_with fail
  go_ret
  exact ⟨rfl, (HKE.out _ HDB.out).2.2.2.2.2.2.1⟩
end Ft
end Go.Proofs.YtghbgfkkdknmnaaDoor
