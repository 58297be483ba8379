/- Several texts in one. -/
import Derived.Test.YtcgllipcnmlkbaaDoorPk16
import Derived.Test.YtcgllipcnmlkbaaDoorPk17
import Derived.Test.YtcgllipcnmlkbaaDoorPkCa
namespace Go.Proofs.YtcgllipcnmlkbaaDoor
open Go.RowKit Sets Tr Rx Sp
namespace Cn
/-- numbers small enough, and lists as long as they should be -/
structure Fit (m : Sp.Md) : Prop where
  f : m.f.length = m.s.length
  s : m.s.length ≤ 63
  fi : m.fi.length = m.nt.length
  la : m.la.length = m.nt.length
  em : m.em.length = m.nt.length
  nt : m.nt.length ≤ 20
  xf : ∀ j, m.f.getD j 0 < 2 ^ 63
  xfi : ∀ j, m.fi.getD j 0 < 2 ^ 63
  xla : ∀ j, m.la.getD j 0 < 2 ^ 63
theorem fit_md (l : List (X × Bool)) (h1 : (md l).s.length ≤ 63) (h2 : l.length ≤ 20) : Fit (md l) := by
  obtain ⟨g1, g2, g3, g4, g5⟩ := md_len l
  obtain ⟨b1, b2, b3⟩ := md_bnd l
  exact ⟨g1, h1, by omega, by omega, by omega, by omega, fun j => lt_more (getD_lt b1) h1, fun j => lt_more (getD_lt b2) h1, fun j => lt_more (getD_lt b3) h1⟩
theorem orL_lt {l : List Nat} {n : Nat} (h : ∀ j, l.getD j 0 < 2 ^ n) : ∀ j, orL l j < 2 ^ n
  | 0 => Nat.two_pow_pos n
  | j + 1 => Nat.or_lt_two_pow (orL_lt h j) (h j)
theorem selOr_lt {q : Nat} {l : List Nat} {n : Nat} (h : ∀ j, l.getD j 0 < 2 ^ n) : ∀ j, selOr q l j < 2 ^ n
  | 0 => Nat.two_pow_pos n
  | j + 1 => by
    unfold selOr
    split
    · exact Nat.or_lt_two_pow (selOr_lt h j) (h j)
    · exact selOr_lt h j
theorem candM_lt {m : Sp.Md} (h : Fit m) (q : Nat) : candM m q < 2 ^ 63 := by
  unfold candM
  split
  · exact orL_lt h.xfi _
  · exact selOr_lt h.xf _
theorem nextM_lt64 {m : Sp.Md} (h : Fit m) (q c : Nat) : nextM m q c < 18446744073709551616 :=
  Nat.lt_of_le_of_lt Nat.and_le_left (Nat.lt_trans (candM_lt h q) (by decide))
end Cn
open Cn
/-- the cells of a constraint: its places, and of each byte the places that have it -/
def cnL (a b c d e f : Value) (W : Nat → Nat) : List Value := [a, b, c, d, e, f] ++ (List.range 256).map fun k => Value.int .u64 (W k : Int)
def cnC (a b c d e f : Value) (W : Nat → Nat) : Array Value := (cnL a b c d e f W).toArray
theorem cnL_length (a b c d e f : Value) (W : Nat → Nat) : (cnL a b c d e f W).length = 262 := by simp [cnL]
theorem cnC_size (a b c d e f : Value) (W : Nat → Nat) : (cnC a b c d e f W).size = 262 := by simp [cnC, cnL_length]
theorem cnC_get (a b c d e f : Value) (W : Nat → Nat) (k : Nat) (h : k < 256) : (cnC a b c d e f W)[6 + k]? = some (.int .u64 (W k : Int)) := by
  unfold cnC cnL
  rw [List.getElem?_toArray, List.getElem?_append_right (by simp)]
  simp [h]
theorem cnC_low (a b c d e f : Value) (W : Nat → Nat) (i : Nat) (h : i < 6) : (cnC a b c d e f W)[i]? = [a, b, c, d, e, f][i]? := by
  unfold cnC cnL
  rw [List.getElem?_toArray, List.getElem?_append_left (by simpa using h)]
theorem cnC_congr (a b c d e f : Value) (W V : Nat → Nat) (h : ∀ k, k < 256 → W k = V k) : cnC a b c d e f W = cnC a b c d e f V := by
  unfold cnC cnL
  congr 2
  exact List.map_congr_left fun k hk => by rw [h k (by simpa using hk)]
theorem cnC_set (a b c d e f : Value) (W : Nat → Nat) (k x : Nat) (hk : k < 256) : (cnC a b c d e f W).setIfInBounds (6 + k) (.int .u64 (x : Int)) = cnC a b c d e f (fun j => if j = k then x else W j) := by
  unfold cnC cnL
  rw [List.setIfInBounds_toArray, List.set_append_right _ _ (by simp)]
  congr 2
  apply List.ext_getElem
  · simp
  · intro i h1 h2
    simp only [List.length_set, List.length_map, List.length_range] at h1
    rw [List.getElem_set]
    simp only [List.getElem_map, List.getElem_range, List.length_cons, List.length_nil]
    by_cases hi : k = i
    · subst hi; simp
    · have h3 : ¬ i = k := fun e => hi e.symm
      have h4 : ¬ 6 + k - 6 = i := by omega
      simp [h3]
      intro h5; omega
theorem cnC_one (a b c d e f : Value) (W : Nat → Nat) (h : (mdV a b c d e f).all (·.oneCell') = true) : (cnC a b c d e f W).all (·.oneCell') = true := by
  rw [Array.all_eq_true_iff_forall_mem] at h ⊢
  intro v hv
  simp only [cnC, cnL, List.mem_toArray, List.mem_append, List.mem_map] at hv
  rcases hv with hv | ⟨k, -, rfl⟩
  · exact h v (by simpa [mdV] using hv)
  · rfl
attribute [irreducible] cnC
/-- A constraint lies in block C. -/
structure ConsAt (w : World) (C : Nat) (m : Sp.Md) : Prop where
  ex : ∃ sv fi la fv em nt, w.heap[C]? = some (.cells (cnC sv fi la fv em nt (fun c => wth m.s c m.s.length)) 69 (0, 0)) ∧ MadeAt 0 w sv fi la fv em nt m
theorem ConsAt.lt {w : World} {C : Nat} {m : Sp.Md} (h : ConsAt w C m) : C < w.heap.size := by
  obtain ⟨_, _, _, _, _, _, h, -⟩ := h.ex
  exact (Array.getElem?_eq_some_iff.1 h).1
theorem ConsAt.kept {w w' : World} {C : Nat} {m : Sp.Md} (h : ConsAt w C m) (hb : Below w.heap.size w w') : ConsAt w' C m := by
  have hl := h.lt
  obtain ⟨sv, fi, la, fv, em, nt, h1, h2⟩ := h.ex
  exact ⟨sv, fi, la, fv, em, nt, (hb.block C hl).trans h1, h2.kept hb⟩
def BAt (w : World) (v : Value) (l : List Bool) : Prop := ∃ a c, v = .slice a l.length c ∧ ∀ i, i < l.length → ∃ b o, a = some ⟨b, o, none⟩ ∧ w.cell? ⟨b, o + i, none⟩ = some (.bool (l.getD i false))
theorem BAt.of {w : World} {B : Nat} {v : Value} {l : List Bool} (h : OwnB B w v l) : BAt w v l := by
  rcases h.2 with ⟨h1, h2⟩ | ⟨g, cap, cur, h1, -⟩
  · exact ⟨none, 0, by rw [h1, h2], fun i hi => by omega⟩
  · refine ⟨_, cap, h1, fun i hi => ⟨g, 0, rfl, ?_⟩⟩
    subst h1
    have := World.ownsRow.cellAt h i (by omega)
    rw [Nat.zero_add, this]
    unfold boL
    rw [List.getElem?_map, List.getElem?_eq_getElem hi, List.getD_eq_getElem?_getD, List.getElem?_eq_getElem hi]
    rfl
theorem BAt.kept {w w' : World} {v : Value} {l : List Bool} (h : BAt w v l) (hb : Below w.heap.size w w') : BAt w' v l := by
  obtain ⟨a, c, h1, h2⟩ := h
  refine ⟨a, c, h1, fun i hi => ?_⟩
  obtain ⟨b, o, e, hc⟩ := h2 i hi
  exact ⟨b, o, e, (hb.cell (World.block_lt_of_cell? _ _ hc)).trans hc⟩
def SAt (w : World) (v : Value) (l : List Nat) : Prop := ∃ a c, v = .slice a l.length c ∧ ∀ i, i < l.length → ∃ b o, a = some ⟨b, o, none⟩ ∧ w.rangeAt b (o + i * 4) (st4 (l.getD i 0))
theorem SAt.of {w : World} {B : Nat} {v : Value} {l : List Nat} (h : OwnS B w v l) : SAt w v l := by
  rcases h.2 with ⟨h1, h2⟩ | ⟨g, cap, cur, h1, -⟩
  · exact ⟨none, 0, by rw [h1, h2], fun i hi => by omega⟩
  · refine ⟨_, cap, h1, fun i hi => ⟨g, 0, rfl, ?_⟩⟩
    subst h1
    rw [Nat.zero_add]
    exact set_range h hi
/-- what is read of a constraint -/
theorem ConsAt.view {w : World} {C : Nat} {m : Sp.Md} (h : ConsAt w C m) : ∃ sa sc fia fic laa lac va vc ea ec na nc, w.cell? ⟨C, 0, none⟩ = some (.slice sa m.s.length sc) ∧ w.cell? ⟨C, 1, none⟩ = some (.slice fia m.fi.length fic) ∧ w.cell? ⟨C, 2, none⟩ = some (.slice laa m.la.length lac) ∧ w.cell? ⟨C, 3, none⟩ = some (.slice va m.f.length vc) ∧ w.cell? ⟨C, 4, none⟩ = some (.slice ea m.em.length ec) ∧ w.cell? ⟨C, 5, none⟩ = some (.slice na m.nt.length nc) ∧
    (∀ c, c < 256 → w.cell? ⟨C, 6 + c, none⟩ = some (.int .u64 (wth m.s c m.s.length : Nat))) ∧ SAt w (.slice sa m.s.length sc) m.s ∧ UAt w (.slice fia m.fi.length fic) m.fi ∧ UAt w (.slice laa m.la.length lac) m.la ∧ UAt w (.slice va m.f.length vc) m.f ∧ BAt w (.slice ea m.em.length ec) m.em ∧ BAt w (.slice na m.nt.length nc) m.nt := by
  obtain ⟨sv, fi, la, fv, em, nt, h1, h2⟩ := h.ex
  obtain ⟨a1, b1, e1⟩ := own_slice h2.s
  obtain ⟨a2, b2, e2⟩ := own_slice h2.fi
  obtain ⟨a3, b3, e3⟩ := own_slice h2.la
  obtain ⟨a4, b4, e4⟩ := own_slice h2.f
  obtain ⟨a5, b5, e5⟩ := own_slice h2.em
  obtain ⟨a6, b6, e6⟩ := own_slice h2.nt
  subst e1 e2 e3 e4 e5 e6
  have key := fun i hi => (cell_of_row w C i _ _ _ h1).trans (cnC_low _ _ _ _ _ _ _ i hi)
  refine ⟨a1, b1, a2, b2, a3, b3, a4, b4, a5, b5, a6, b6, key 0 (by decide), key 1 (by decide), key 2 (by decide), key 3 (by decide), key 4 (by decide), key 5 (by decide), fun c hc => (cell_of_row w C (6 + c) _ _ _ h1).trans (cnC_get _ _ _ _ _ _ _ c hc), SAt.of h2.s, UAt.of h2.fi, UAt.of h2.la, UAt.of h2.f, BAt.of h2.em, BAt.of h2.nt⟩
end Go.Proofs.YtcgllipcnmlkbaaDoor
namespace Go.Proofs.YtcgllipcnmlkbaaDoor
open Go.RowKit Sets Tr Rx Sp
open Cn
theorem start_any (C : Nat) (w : World) : Calls Tryd.prog 12 #[.pointer (some ⟨C, 0, none⟩)] w fun e w' => e = .returned (.int .u64 top) ∧ Below w.heap.size w w' := by
  go_enter Tryd.func12, Tryd.ntmps12
  go_wp2_with fail
  go_ret
  exact ⟨rfl, Below.refl _ _⟩
theorem start_nil (w : World) : Calls Tryd.prog 12 #[.pointer none] w fun e w' => e = .returned (.int .u64 0) ∧ Below w.heap.size w w' := by
  go_enter Tryd.func12, Tryd.ntmps12
  go_wp2_with fail
  go_ret
  exact ⟨rfl, Below.refl _ _⟩
theorem bit_and (q k : Nat) (hq : q < 2 ^ 64) (hk : k < 64) : (bits .and .u64 (q : Int) ((2 ^ k : Nat) : Int) != 0) = q.testBit k := by
  have h2 : 2 ^ k < 2 ^ 64 := Nat.pow_lt_pow_right (by decide) hk
  rw [u64_and_nat _ _ hq h2]
  cases hb : q.testBit k
  · have : q &&& 2 ^ k = 0 := by
      apply Nat.eq_of_testBit_eq; intro i
      rw [Nat.testBit_and, Nat.testBit_two_pow, Nat.zero_testBit]
      by_cases e : k = i
      · subst e; rw [hb]; rfl
      · rw [decide_eq_false e, Bool.and_false]
    rw [this]; rfl
  · rw [bne_iff_ne]
    intro h
    have h3 : q &&& 2 ^ k = 0 := by exact_mod_cast h
    have := congrArg (·.testBit k) h3
    simp only [Nat.testBit_and, Nat.testBit_two_pow, hb, Nat.zero_testBit] at this
    simp at this
set_option maxHeartbeats 3200000 in
set_option maxRecDepth 100000 in
theorem behind_any (C q : Nat) (m : Sp.Md) (w : World) (h : ConsAt w C m) (hf : Fit m) (hq : q < 2 ^ 64) :
    Calls Tryd.prog 26 #[.pointer (some ⟨C, 0, none⟩), .int .u64 q] w fun e w' => e = .returned (.int .u64 (candM m q)) ∧ w = w' := by
  obtain ⟨sa, sc, fia, fic, laa, lac, va, vc, ea, ec, na, nc, h0, h1, h2, h3, h4, h5, hw, hS, hFi, hLa, hV, hE, hN⟩ := h.view
  have HFi := Lib.hid hFi
  have HV := Lib.hid hV
  have HF := Lib.hid hf
  have HQ := Lib.hid hq
  clear hFi hV hf hS hLa hE hN hw h0 h2 h4 h5 h
  go_enter Tryd.func26, Tryd.ntmps26
  by_cases ht : q = top
  · have hd : ((q : Int) == 9223372036854775808) = true := by rw [ht]; rfl
    have HX : Hid (candM m q = orL m.fi m.fi.length) := Lib.hid (by unfold candM; rw [if_pos ht])
    have HL : Hid (m.fi.length ≤ 20) := Lib.hid (by have := HF.out.fi; have := HF.out.nt; omega)
    clear ht
    generalize hn : m.fi.length = n at *
    have HN := Lib.hid hn
    clear hn h3
    go_wp2_with fail
    go_loopw [5, 18] (fun x i wr => ∃ j : Nat, i = .int .i64 j ∧ x = .int .u64 (orL m.fi j) ∧ j ≤ n ∧ wr = w) (fun _ i _ => ((n : Int) - intOf i).toNat)
    case atStart => exact ⟨0, rfl, rfl, Nat.zero_le _, rfl⟩
    case round =>
      obtain ⟨j, rfl, rfl, hj, rfl⟩ := hrel
      by_cases hlt : j < n
      · have hdd : decide ((j : Int) < (n : Int)) = true := decide_eq_true (by omega)
        have hd2 : decide (j < n) = true := decide_eq_true hlt
        obtain ⟨a1, c1, e1, y⟩ := HFi.out
        obtain ⟨b, o, e2, z⟩ := y j (by rw [HN.out]; exact hlt)
        injection e1 with e3
        subst e3
        rw [e2]
        have zz := z
        have hor := u64_or_nat (orL m.fi j) (m.fi.getD j 0) (Nat.lt_trans (orL_lt HF.out.xfi j) (by decide)) (Nat.lt_trans (HF.out.xfi j) (by decide))
        have HS : Hid (orL m.fi j ||| m.fi.getD j 0 = orL m.fi (j + 1)) := Lib.hid rfl
        have hw1 : wrap64 ((j : Int) + 1) = ((j + 1 : Nat) : Int) := by have := HL.out; unfold wrap64; omega
        clear z y e2
        generalize m.fi.getD j 0 = v at *
        generalize orL m.fi j = x at *
        go_wp2_with fail
        go_roundw
        case rel => exact ⟨j + 1, by rw [hw1], by rw [HS.out], hlt, by first | rfl | trivial⟩
        case measure => rw [hw1]; simp [intOf]; omega
      · have hje : j = n := by omega
        have hdd : decide ((j : Int) < (n : Int)) = false := decide_eq_false (by omega)
        have hd2 : decide (j < n) = false := decide_eq_false hlt
        go_wp2_with fail
        go_ret
        exact ⟨by rw [HX.out, hje]; rfl, rfl⟩
  · have hd : ((q : Int) == 9223372036854775808) = false := by rw [beq_eq_false_iff_ne]; intro e; apply ht; unfold top; omega
    have HX : Hid (candM m q = selOr q m.f m.f.length) := Lib.hid (by unfold candM; rw [if_neg ht])
    have HL : Hid (m.f.length ≤ 63) := Lib.hid (by have := HF.out.f; have := HF.out.s; omega)
    clear ht
    generalize hn : m.f.length = n at *
    have HN := Lib.hid hn
    clear hn h1
    go_wp2_with fail
    go_loopw [5, 33] (fun x i wr => ∃ j : Nat, i = .int .i64 j ∧ x = .int .u64 (selOr q m.f j) ∧ j ≤ n ∧ wr = w) (fun _ i _ => ((n : Int) - intOf i).toNat)
    case atStart => exact ⟨0, rfl, rfl, Nat.zero_le _, rfl⟩
    case round =>
      obtain ⟨j, rfl, rfl, hj, rfl⟩ := hrel
      by_cases hlt : j < n
      · have hdd : decide ((j : Int) < (n : Int)) = true := decide_eq_true (by omega)
        have hd2 : decide (j < n) = true := decide_eq_true hlt
        obtain ⟨a1, c1, e1, y⟩ := HV.out
        obtain ⟨b, o, e2, z⟩ := y j (by rw [HN.out]; exact hlt)
        injection e1 with e3
        subst e3
        rw [e2]
        have zz := z
        have hor := u64_or_nat (selOr q m.f j) (m.f.getD j 0) (Nat.lt_trans (selOr_lt HF.out.xf j) (by decide)) (Nat.lt_trans (HF.out.xf j) (by decide))
        have hj64 : j < 64 := by have := HL.out; omega
        have hsh := shl_one j hj64
        have hba := bit_and q j HQ.out hj64
        have HS : Hid (selOr q m.f (j + 1) = if q.testBit j then selOr q m.f j ||| m.f.getD j 0 else selOr q m.f j) := Lib.hid rfl
        have hw1 : wrap64 ((j : Int) + 1) = ((j + 1 : Nat) : Int) := by have := HL.out; unfold wrap64; omega
        clear z y e2
        generalize m.f.getD j 0 = v at *
        generalize selOr q m.f j = x at *
        obtain ⟨p2, hp2⟩ : ∃ p2, p2 = 2 ^ j := ⟨_, rfl⟩
        rw [← hp2] at hsh hba
        have HJ := Lib.hid hj64
        clear hp2 hj64
        cases hqb : q.testBit j
        · rw [hqb] at hba HS
          clear hqb
          go_wp2_with fail
          go_roundw
          case rel => exact ⟨j + 1, by rw [hw1], by rw [HS.out]; rfl, hlt, by first | rfl | trivial⟩
          case measure => rw [hw1]; simp [intOf]; omega
        · rw [hqb] at hba HS
          clear hqb
          go_wp2_with fail
          go_roundw
          case rel => exact ⟨j + 1, by rw [hw1], by rw [HS.out]; rfl, hlt, by first | rfl | trivial⟩
          case measure => rw [hw1]; simp [intOf]; omega
      · have hje : j = n := by omega
        have hdd : decide ((j : Int) < (n : Int)) = false := decide_eq_false (by omega)
        have hd2 : decide (j < n) = false := decide_eq_false hlt
        go_wp2_with fail
        go_ret
        exact ⟨by rw [HX.out, hje]; rfl, rfl⟩
set_option maxHeartbeats 3200000 in
set_option maxRecDepth 100000 in
theorem cends_any (C q i : Nat) (m : Sp.Md) (w : World) (h : ConsAt w C m) (hf : Fit m) (hq : q < 2 ^ 64) (hi : i < m.nt.length) :
    Calls Tryd.prog 27 #[.pointer (some ⟨C, 0, none⟩), .int .i64 (i : Nat), .int .u64 q] w fun e w' => e = .returned (.bool (endsM m q i)) ∧ w = w' := by
  obtain ⟨sa, sc, fia, fic, laa, lac, va, vc, ea, ec, na, nc, h0, h1, h2, h3, h4, h5, hw, hS, hFi, hLa, hV, hE, hN⟩ := h.view
  have hxl := hf.xla i
  have he1 : i < m.em.length := by have := hf.em; omega
  have he2 : i < m.la.length := by have := hf.la; omega
  clear hFi hV hf hS hN hw h0 h1 h3 h5 h
  go_enter Tryd.func27, Tryd.ntmps27
  by_cases ht : q = top
  · have hd : ((q : Int) == 9223372036854775808) = true := by rw [ht]; rfl
    have HX : Hid (endsM m q i = m.em.getD i false) := Lib.hid (by unfold endsM; rw [if_pos ht])
    obtain ⟨a1, c1, e1, y⟩ := hE
    obtain ⟨b, o, e2, z⟩ := y i he1
    injection e1 with e3
    subst e3
    rw [e2] at h4
    have hdd : decide ((i : Int) < (m.em.length : Int)) = true := decide_eq_true (by omega)
    have hd2 : decide (i < m.em.length) = true := decide_eq_true he1
    clear ht y e2 hLa h2 he2
    generalize m.em.getD i false = v at *
    go_wp2_with fail
    go_ret
    exact ⟨by rw [HX.out]; rfl, rfl⟩
  · have hd : ((q : Int) == 9223372036854775808) = false := by rw [beq_eq_false_iff_ne]; intro e; apply ht; unfold top; omega
    have HX : Hid (endsM m q i = decide (m.la.getD i 0 &&& q ≠ 0)) := Lib.hid (by unfold endsM; rw [if_neg ht])
    obtain ⟨a1, c1, e1, y⟩ := hLa
    obtain ⟨b, o, e2, z⟩ := y i he2
    injection e1 with e3
    subst e3
    rw [e2] at h2
    have hdd : decide ((i : Int) < (m.la.length : Int)) = true := decide_eq_true (by omega)
    have hd2 : decide (i < m.la.length) = true := decide_eq_true he2
    have hand := u64_and_nat (m.la.getD i 0) q (Nat.lt_trans hxl (by decide)) hq
    have hne : (((m.la.getD i 0 &&& q : Nat) : Int) != 0) = decide (m.la.getD i 0 &&& q ≠ 0) := by
      generalize m.la.getD i 0 &&& q = x
      by_cases h : x = 0
      · subst h; rfl
      · rw [decide_eq_true h, bne_iff_ne]; omega
    rw [← HX.out] at hne
    clear ht y e2 hE h4 he1 hxl
    generalize m.la.getD i 0 &&& q = x at *
    generalize m.la.getD i 0 = v at *
    go_wp2_with fail
    go_ret
    exact ⟨rfl, rfl⟩
set_option maxHeartbeats 3200000 in
set_option maxRecDepth 100000 in
theorem next_any (C q c : Nat) (m : Sp.Md) (w : World) (h : ConsAt w C m) (hf : Fit m) (hq : q < 2 ^ 64) (hc : c < 256) :
    Calls Tryd.prog 11 #[.pointer (some ⟨C, 0, none⟩), .int .u64 q, .int .u8 c] w fun e w' => e = .returned (.int .u64 (nextM m q c)) ∧ Below w.heap.size w w' := by
  have hbe := behind_any C q m
  obtain ⟨sa, sc, fia, fic, laa, lac, va, vc, ea, ec, na, nc, h0, h1, h2, h3, h4, h5, hw, hS, hFi, hLa, hV, hE, hN⟩ := h.view
  have hwc := hw c hc
  have hcl := candM_lt hf q
  have hwl : wth m.s c m.s.length < 2 ^ 63 := lt_more (wth_lt m.s c m.s.length) hf.s
  have hand := u64_and_nat (candM m q) (wth m.s c m.s.length) (Nat.lt_trans hcl (by decide)) (Nat.lt_trans hwl (by decide))
  have HX : Hid (nextM m q c = candM m q &&& wth m.s c m.s.length) := Lib.hid rfl
  have HC := Lib.hid h
  have HF := Lib.hid hf
  have HQ := Lib.hid hq
  have hlc := h.lt
  clear hFi hV hf hS hLa hE hN hw h0 h1 h2 h3 h4 h5 h
  generalize wth m.s c m.s.length = y at *
  go_enter Tryd.func11, Tryd.ntmps11
  go_wp2_with fail
  go_quiet ((go_at_call 26; exact Calls.quiet_of_same ((hbe _ (HC.out.kept (below_drewN (Below.refl _ _) _)) HF.out HQ.out).mono fun _ _ h => ⟨h.1, h.2.symm⟩)))
  go_wp2
  go_ret
  exact ⟨by rw [HX.out]; rfl, below_drewN (Below.refl _ _) _⟩
end Go.Proofs.YtcgllipcnmlkbaaDoor
namespace Go.Proofs.YtcgllipcnmlkbaaDoor
open Go.RowKit Sets Tr Rx Sp
open Cn
theorem meas2 {j n : Nat} (h : j < n) : ((n : Int) - ((j + 1 : Nat) : Int)).toNat < ((n : Int) - (j : Int)).toNat := by omega
set_option maxHeartbeats 3200000 in
set_option maxRecDepth 100000 in
theorem good_any (C q : Nat) (m : Sp.Md) (w : World) (h : ConsAt w C m) (hf : Fit m) (hq : q < 2 ^ 64) :
    Calls Tryd.prog 13 #[.pointer (some ⟨C, 0, none⟩), .int .u64 q] w fun e w' => e = .returned (.bool (goodM m q)) ∧ w = w' := by
  have hen := fun i => cends_any C q i m w h hf hq
  obtain ⟨sa, sc, fia, fic, laa, lac, va, vc, ea, ec, na, nc, h0, h1, h2, h3, h4, h5, hw, hS, hFi, hLa, hV, hE, hN⟩ := h.view
  have HE := Lib.hid hen
  have HN := Lib.hid hN
  have HL : Hid (m.nt.length ≤ 20) := Lib.hid hf.nt
  have HX : Hid (goodM m q = goodN m q m.nt.length) := Lib.hid rfl
  clear hFi hV hf hS hLa hE hN hw h0 h1 h2 h3 h4 h hen
  generalize hn : m.nt.length = n at *
  have HNN := Lib.hid hn
  clear hn
  go_enter Tryd.func13, Tryd.ntmps13
  go_wp2_with fail
  go_loopw [15] (fun i wr => ∃ j : Nat, i = .int .i64 j ∧ j ≤ n ∧ wr = w ∧ Hid (goodN m q j = true)) (fun i _ => ((n : Int) - intOf i).toNat)
  case atStart => exact ⟨0, rfl, Nat.zero_le _, rfl, Lib.hid rfl⟩
  case round =>
    obtain ⟨j, rfl, hj, rfl, HG⟩ := hrel
    by_cases hlt : j < n
    · have hdd : decide ((j : Int) < (n : Int)) = true := decide_eq_true (by omega)
      have hd2 : decide (j < n) = true := decide_eq_true hlt
      obtain ⟨a1, c1, e1, y⟩ := HN.out
      obtain ⟨b, o, e2, z⟩ := y j (by rw [HNN.out]; exact hlt)
      injection e1 with e3 e4 e5
      subst e3
      rw [e2] at h5 ⊢
      clear y e2 e4 e5
      have HEJ := Lib.hid (HE.out j hlt)
      have HW1 : Hid (wrap64 ((j : Int) + 1) = ((j + 1 : Nat) : Int)) := Lib.hid (by have := HL.out; unfold wrap64; omega)
      by_cases hq2 : endsM m q j = m.nt.getD j false
      · have HST := Lib.hid (goodN_stop hq2 n hlt)
        have hbb : (endsM m q j == m.nt.getD j false) = true := by rw [hq2]; simp
        generalize m.nt.getD j false = v at *
        generalize endsM m q j = u at *
        clear hq2
        go_wp2_with (go_at_call 27; refine HEJ.out.mono ?_; rintro e w2 ⟨rfl, rfl⟩)
        go_ret
        exact ⟨by rw [HX.out, HST.out]; rfl, rfl⟩
      · have HS : Hid (goodN m q (j + 1) = true) := Lib.hid (by
          show (goodN m q j && (endsM m q j != m.nt.getD j false)) = true
          rw [HG.out, Bool.true_and, bne_iff_ne]; exact hq2)
        have hbb : (endsM m q j == m.nt.getD j false) = false := by rw [beq_eq_false_iff_ne]; exact hq2
        generalize m.nt.getD j false = v at *
        generalize endsM m q j = u at *
        clear hq2
        go_wp2_with (go_at_call 27; refine HEJ.out.mono ?_; rintro e w2 ⟨rfl, rfl⟩)
        go_roundw
        case rel => exact ⟨j + 1, by rw [HW1.out], hlt, by first | rfl | trivial, HS⟩
        case measure => rw [HW1.out]; exact meas2 hlt
    · have hje : j = n := by omega
      have hdd : decide ((j : Int) < (n : Int)) = false := decide_eq_false (by omega)
      have hd2 : decide (j < n) = false := decide_eq_false hlt
      go_wp2_with fail
      go_ret
      exact ⟨by rw [HX.out, ← hje, HG.out]; rfl, rfl⟩
theorem good_nil (q : Nat) (w : World) : Calls Tryd.prog 13 #[.pointer none, .int .u64 q] w fun e w' => e = .returned (.bool false) ∧ w = w' := by
  go_enter Tryd.func13, Tryd.ntmps13
  go_wp2_with fail
  go_ret
  exact ⟨rfl, rfl⟩
theorem next_nil (q c : Nat) (w : World) : Calls Tryd.prog 11 #[.pointer none, .int .u64 q, .int .u8 c] w fun e w' => e = .returned (.int .u64 0) ∧ w = w' := by
  go_enter Tryd.func11, Tryd.ntmps11
  go_wp2_with fail
  go_ret
  exact ⟨rfl, rfl⟩

theorem run_snoc (m : Sp.Md) (q : Nat) (l : List Nat) (j : Nat) (h : j < l.length) : runM m q (l.take (j + 1)) = nextM m (runM m q (l.take j)) (l.getD j 256) := by
  rw [List.take_succ_eq_append_getElem h, runM_append, List.getD_eq_getElem?_getD, List.getElem?_eq_getElem h]; rfl
theorem runM_lt {m : Sp.Md} (h : Fit m) : ∀ (w : List Nat) (q : Nat), q < 2 ^ 64 → runM m q w < 2 ^ 64
  | [], _, hq => hq
  | c :: w, q, _ => runM_lt h w _ (nextM_lt64 h q c)
theorem top_lt : top < 2 ^ 64 := by decide
set_option maxHeartbeats 3200000 in
set_option maxRecDepth 100000 in
theorem match_any (C : Nat) (m : Sp.Md) (s : ByteArray) (w : World) (h : ConsAt w C m) (hf : Fit m) (hs : s.size < 2 ^ 62) :
    Calls Tryd.prog 14 #[.pointer (some ⟨C, 0, none⟩), .string s] w fun e w' => e = .returned (.bool (matchM m (by' s))) ∧ Below w.heap.size w w' := by
  have HC := Lib.hid h
  have HF := Lib.hid hf
  have HL := Lib.hid (by_len s)
  have HS := Lib.hid hs
  have HB := Lib.hid (by_lt s)
  clear h hf hs
  go_enter Tryd.func14, Tryd.ntmps14
  go_wp2_with (go_at_call 12; refine (start_any C w).mono ?_; rintro e w1 ⟨rfl, hb1⟩; have HB1 := Lib.hid hb1; clear hb1)
  go_loopw [5, 11] (fun x i wr => ∃ j : Nat, i = .int .i64 j ∧ x = .int .u64 (runM m top ((by' s).take j)) ∧ j ≤ s.size ∧ Hid (Below w.heap.size w wr)) (fun _ i _ => ((s.size : Int) - intOf i).toNat)
  case atStart => exact ⟨0, rfl, rfl, Nat.zero_le _, HB1⟩
  case round =>
    obtain ⟨j, rfl, rfl, hj, HB2⟩ := hrel
    generalize hwr : wr = w2 at *
    clear hwr wr HB1
    have HC2 := Lib.hid (HC.out.kept HB2.out)
    have HRL := Lib.hid (runM_lt HF.out ((by' s).take j) top top_lt)
    by_cases hlt : j < s.size
    · have hdd : decide ((j : Int) < (s.size : Int)) = true := decide_eq_true (by omega)
      have hd2 : decide (j < s.size) = true := decide_eq_true hlt
      have HSN := Lib.hid (run_snoc m top (by' s) j (by rw [HL.out]; exact hlt))
      have hpl := pk_ne (l := by' s) (p := j) (by rw [HL.out]; exact hlt) HB.out
      have hix : ∀ w, (Instr.index 9 (.string s) (.int .i64 (j : Int))).run Tryd.prog w = .ok (.int .u8 (pk (by' s) j : Nat)) w := fun w => index_by s j _ rfl hlt w
      have HNX := Lib.hid (next_any C (runM m top ((by' s).take j)) (pk (by' s) j) m w2 HC2.out HF.out HRL.out hpl)
      have HW1 : Hid (wrap64 ((j : Int) + 1) = ((j + 1 : Nat) : Int)) := Lib.hid (by have := HS.out; unfold wrap64; omega)
      rw [show (by' s).getD j 256 = pk (by' s) j from rfl] at HSN
      clear hpl
      generalize pk (by' s) j = c at *
      generalize runM m top ((by' s).take j) = q at *
      go_wp2_with (go_at_call 11; refine HNX.out.mono ?_; rintro e w3 ⟨rfl, hb3⟩; have HB3 := Lib.hid (HB2.out.trans (hb3.mono HB2.out.size)); clear hb3)
      go_roundw
      case rel => exact ⟨j + 1, by rw [HW1.out], by rw [HSN.out], hlt, HB3⟩
      case measure => rw [HW1.out]; exact meas2 hlt
    · have hje : j = s.size := by omega
      have hdd : decide ((j : Int) < (s.size : Int)) = false := decide_eq_false (by omega)
      have hd2 : decide (j < s.size) = false := decide_eq_false hlt
      have HX : Hid (matchM m (by' s) = goodM m (runM m top ((by' s).take j))) := Lib.hid (by unfold matchM; rw [List.take_of_length_le (by rw [HL.out]; omega)])
      generalize runM m top ((by' s).take j) = q at *
      go_wp2_with (go_at_call 13; refine (good_any C q m w2 HC2.out HF.out HRL.out).mono ?_; rintro e w3 ⟨rfl, rfl⟩)
      go_ret
      exact ⟨by rw [HX.out]; rfl, HB2.out⟩
set_option maxRecDepth 100000 in
theorem places_c (C : Nat) (m : Sp.Md) (w : World) (h : ConsAt w C m) : Calls Tryd.prog 18 #[.pointer (some ⟨C, 0, none⟩)] w fun e w' => e = .returned (.int .i64 (m.s.length : Nat)) ∧ w = w' := by
  obtain ⟨sa, sc, fia, fic, laa, lac, va, vc, ea, ec, na, nc, h0, -⟩ := h.view
  clear h
  generalize m.s.length = n at *
  go_enter Tryd.func18, Tryd.ntmps18
  go_wp2_with fail
  go_ret
  exact ⟨rfl, rfl⟩
theorem places_nil (w : World) : Calls Tryd.prog 18 #[.pointer none] w fun e w' => e = .returned (.int .i64 0) ∧ w = w' := by
  go_enter Tryd.func18, Tryd.ntmps18
  go_wp2_with fail
  go_ret
  exact ⟨rfl, rfl⟩
end Go.Proofs.YtcgllipcnmlkbaaDoor
