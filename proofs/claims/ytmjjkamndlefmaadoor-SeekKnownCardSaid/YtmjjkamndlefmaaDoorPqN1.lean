/- Several texts in one. -/
import Derived.Test.YtmjjkamndlefmaaDoorPq11
import Derived.Test.YtmjjkamndlefmaaDoorPq02
import Derived.Test.YtmjjkamndlefmaaDoorPqN0
import Derived.Test.YtmjjkamndlefmaaDoorPq24
import Derived.Laws.BytesString
namespace Go.Proofs.YtmjjkamndlefmaaDoor
namespace Nf
open Sets
theorem kept_succ (U n : Nat) : kept U (n + 1) = kept U n ++ (if U.testBit n = true then [n] else []) := by
  unfold kept
  rw [List.range_succ, List.filter_append, List.filter_cons]
  by_cases h : U.testBit n = true
  · rw [if_pos h, if_pos h]; rfl
  · rw [if_neg h, if_neg h]; rfl
theorem nu_len (U n : Nat) : (kept U n).length = nu U n := rfl
theorem nu_succ (U n : Nat) : nu U (n + 1) = nu U n + (if U.testBit n = true then 1 else 0) := by
  rw [← nu_len, ← nu_len, kept_succ, List.length_append]
  by_cases h : U.testBit n = true
  · rw [if_pos h, if_pos h]; rfl
  · rw [if_neg h, if_neg h]; rfl
theorem nu_mono (U : Nat) {i : Nat} : ∀ {k : Nat}, i ≤ k → nu U i ≤ nu U k
  | 0, h => by rw [Nat.le_zero.1 h]; exact Nat.le_refl _
  | k + 1, h => by
    rcases Nat.lt_or_ge i (k + 1) with h1 | h1
    · have := nu_mono U (i := i) (k := k) (by omega)
      rw [nu_succ]; omega
    · rw [show i = k + 1 by omega]; exact Nat.le_refl _
theorem nu_lt {U i k : Nat} (hi : U.testBit i = true) (h : i < k) : nu U i < nu U k := by
  have h1 := nu_mono U (i := i + 1) (k := k) h
  rw [nu_succ, if_pos hi] at h1
  omega
theorem nu_inj {U i k : Nat} (hi : U.testBit i = true) (hk : U.testBit k = true) (h : nu U i = nu U k) : i = k := by
  rcases Nat.lt_trichotomy i k with h1 | h1 | h1
  · have := nu_lt hi h1; omega
  · exact h1
  · have := nu_lt hk h1; omega
theorem kept_get {U k : Nat} (hk : U.testBit k = true) : ∀ {n : Nat}, k < n → (kept U n)[nu U k]? = some k
  | n + 1, h => by
    rw [kept_succ]
    rcases Nat.lt_or_ge k n with h1 | h1
    · rw [List.getElem?_append_left (by rw [nu_len]; exact nu_lt hk h1)]
      exact kept_get hk h1
    · have : k = n := by omega
      subst this
      rw [if_pos hk, List.getElem?_append_right (by rw [nu_len]; exact Nat.le_refl _), nu_len, Nat.sub_self]; rfl
theorem kept_mem {U n k : Nat} : k ∈ kept U n ↔ k < n ∧ U.testBit k = true := by
  unfold kept; rw [List.mem_filter, List.mem_range]
/-- each number below is some spot's -/
theorem kept_at {U n j : Nat} (h : j < nu U n) : ∃ k, k < n ∧ U.testBit k = true ∧ nu U k = j := by
  have hl : j < (kept U n).length := by rw [nu_len]; exact h
  have hm : (kept U n)[j] ∈ kept U n := List.getElem_mem _
  obtain ⟨h1, h2⟩ := kept_mem.1 hm
  refine ⟨_, h1, h2, ?_⟩
  have h3 := kept_get h2 h1
  obtain ⟨h4, h5⟩ := List.getElem?_eq_some_iff.1 h3
  have hnd : (kept U n).Nodup := List.Nodup.sublist List.filter_sublist List.nodup_range
  have hpw := List.pairwise_iff_getElem.1 hnd
  rcases Nat.lt_trichotomy (nu U ((kept U n)[j])) j with h6 | h6 | h6
  · exact absurd h5 (hpw _ _ h4 hl h6)
  · exact h6
  · exact absurd h5.symm (hpw _ _ hl h4 h6)
theorem left_mem {U n : Nat} {l : List Int} (h : rise n l = true) (j : Nat) : (j : Int) ∈ leftL U l ↔ ∃ k : Nat, (k : Int) ∈ l ∧ U.testBit k = true ∧ nu U k = j := by
  unfold leftL
  rw [List.mem_map]
  have hr := (rise_iff n l).1 h
  constructor
  · rintro ⟨x, hx, e⟩
    rw [List.mem_filter] at hx
    have := hr.1 x hx.1
    refine ⟨x.toNat, by rw [Int.toNat_of_nonneg this.1]; exact hx.1, hx.2, by omega⟩
  · rintro ⟨k, hk, hu, e⟩
    exact ⟨k, List.mem_filter.2 ⟨hk, by simpa using hu⟩, by simp [e]⟩
theorem left_rise {U n : Nat} {l : List Int} (h : rise n l = true) : rise (nu U n) (leftL U l) = true := by
  have hr := (rise_iff n l).1 h
  refine (rise_iff _ _).2 ⟨fun x hx => ?_, ?_⟩
  · unfold leftL at hx
    obtain ⟨k, hk, rfl⟩ := List.mem_map.1 hx
    rw [List.mem_filter] at hk
    have h1 := hr.1 k hk.1
    have h2 := nu_lt (U := U) (i := k.toNat) (k := n) hk.2 (by omega)
    omega
  · unfold leftL
    rw [List.pairwise_map]
    have h1 : (l.filter fun k => U.testBit k.toNat).Pairwise (· < ·) := hr.2.sublist List.filter_sublist
    refine List.Pairwise.imp_of_mem (R := (· < ·)) ?_ h1
    intro a b ha hb hab
    rw [List.mem_filter] at ha hb
    have := hr.1 a ha.1
    have := hr.1 b hb.1
    have := nu_lt (U := U) (i := a.toNat) (k := b.toNat) ha.2 (by omega)
    omega
section
variable {m : Mc} {U : Nat}
theorem trim_len (m : Mc) (U : Nat) : (trimM m U).sp.length = nu U m.sp.length := by
  show ((kept U m.sp.length).map _).length = _
  rw [List.length_map]; rfl
theorem trim_st (m : Mc) {k : Nat} (hk : U.testBit k = true) (hl : k < m.sp.length) : stN (trimM m U) (nu U k) = stN m k := by
  unfold stN trimM
  show ((((kept U m.sp.length).map fun k => m.sp.getD k (0, 0)).getD (nu U k) (0, 0))).1 = _
  rw [List.getD_eq_getElem?_getD, List.getElem?_map, kept_get hk hl]; rfl
theorem trim_fo (m : Mc) {k : Nat} (hk : U.testBit k = true) (hl : k < m.sp.length) : (trimM m U).fo.getD (nu U k) [] = leftL U (m.fo.getD k []) := by
  show (((kept U m.sp.length).map fun k => leftL U (m.fo.getD k [])).getD (nu U k) []) = _
  rw [List.getD_eq_getElem?_getD, List.getElem?_map, kept_get hk hl]; rfl
theorem trim_la (m : Mc) {k : Nat} (hk : U.testBit k = true) (hl : k < m.sp.length) : (trimM m U).la.getD (nu U k) false = m.la.getD k false := by
  show (((kept U m.sp.length).map fun k => m.la.getD k false).getD (nu U k) false) = _
  rw [List.getD_eq_getElem?_getD, List.getElem?_map, kept_get hk hl]; rfl
theorem trim_right (h : Rt m) : Rt (trimM m U) := by
  have hn : nu U m.sp.length ≤ m.sp.length := by
    rw [← nu_len]; unfold kept
    refine Nat.le_trans (List.length_filter_le _ _) ?_
    rw [List.length_range]; exact Nat.le_refl _
  refine ⟨by rw [trim_len]; have := h.many; omega, ?_, ?_, ?_, ?_, ?_⟩
  · unfold trimM; simp
  · unfold trimM; simp
  · intro s hs
    unfold trimM at hs
    obtain ⟨k, hk, rfl⟩ := List.mem_map.1 hs
    exact h.tag _ (getD_mem (kept_mem.1 hk).1)
  · intro l hl
    rw [trim_len]
    unfold trimM at hl
    obtain ⟨k, hk, rfl⟩ := List.mem_map.1 hl
    exact left_rise (foN_rise h k)
  · rw [trim_len]; exact left_rise h.fiR
theorem trim_fob (h : Rt m) {k : Nat} (hk : U.testBit k = true) (hl : k < m.sp.length) (j : Nat) : (foN (trimM m U) (nu U k)).testBit j = true ↔ ∃ i, (foN m k).testBit i = true ∧ U.testBit i = true ∧ nu U i = j := by
  unfold foN
  rw [trim_fo m hk hl, grp_bit (left_rise (foN_rise h k)) j, left_mem (foN_rise h k)]
  constructor
  · rintro ⟨i, h1, h2, h3⟩; exact ⟨i, (grp_bit (foN_rise h k) i).2 h1, h2, h3⟩
  · rintro ⟨i, h1, h2, h3⟩; exact ⟨i, (grp_bit (foN_rise h k) i).1 h1, h2, h3⟩
theorem trim_fib (h : Rt m) (j : Nat) : (grp (trimM m U).fi).testBit j = true ↔ ∃ i, (grp m.fi).testBit i = true ∧ U.testBit i = true ∧ nu U i = j := by
  show (grp (leftL U m.fi)).testBit j = true ↔ _
  rw [grp_bit (left_rise h.fiR) j, left_mem h.fiR]
  constructor
  · rintro ⟨i, h1, h2, h3⟩; exact ⟨i, (grp_bit h.fiR i).2 h1, h2, h3⟩
  · rintro ⟨i, h1, h2, h3⟩; exact ⟨i, (grp_bit h.fiR i).1 h1, h2, h3⟩
theorem bit_ne {S c : Nat} (h : S.testBit c = true) : S ≠ 0 := fun e => by rw [e, Nat.zero_testBit] at h; cases h
theorem gs_good {k : Nat} {w : List Nat} (h : Gs m k w) (hk : stN m k ≠ 0) : Gg m k := by
  induction h with
  | done hl => exact .base ((last_bit m _).2 hl) ((full_bit m _).2 hk)
  | more hf hs _ ih => exact .step (ih (bit_ne hs)) hf ((full_bit m _).2 hk)
theorem gs_trim (h : Rt m) (hU : Us m U) : ∀ (w : List Nat) (k : Nat), U.testBit k = true → (Gs (trimM m U) (nu U k) w ↔ Gs m k w)
  | [], k, hk => by
    have hl := hU.lt hk
    constructor
    · intro g; cases g with | done e => exact .done (by rw [trim_la m hk hl] at e; exact e)
    · intro g; cases g with | done e => exact .done (by rw [trim_la m hk hl]; exact e)
  | c :: w, k, hk => by
    have hl := hU.lt hk
    constructor
    · intro g
      cases g with
      | more hf hs hg =>
        obtain ⟨i, h1, h2, rfl⟩ := (trim_fob h hk hl _).1 hf
        rw [trim_st m h2 (hU.lt h2)] at hs
        exact .more h1 hs ((gs_trim h hU w i h2).1 hg)
    · intro g
      cases g with
      | @more _ j _ _ hf hs hg =>
        have hj : U.testBit j = true := (hU j).2 ⟨.step ((hU k).1 hk).1 hf ((full_bit m _).2 (bit_ne hs)), gs_good hg (bit_ne hs)⟩
        exact .more ((trim_fob h hk hl _).2 ⟨j, hf, hj, rfl⟩) (by rw [trim_st m hj (hU.lt hj)]; exact hs) ((gs_trim h hU w j hj).2 hg)
/-- A trimmed machine takes just what the machine takes. -/
theorem trim_takes (h : Rt m) (hU : Us m U) (w : List Nat) : takesM (trimM m U) w = takesM m w := by
  rw [Bool.eq_iff_iff, takes_iff, takes_iff]
  have hT : Tk (trimM m U) w ↔ Tk m w := by
    cases w with
    | nil => exact Iff.rfl
    | cons c w =>
      constructor
      · rintro ⟨j, h1, h2, h3⟩
        obtain ⟨k, h4, h5, rfl⟩ := (trim_fib h j).1 h1
        rw [trim_st m h5 (hU.lt h5)] at h2
        exact ⟨k, h4, h2, (gs_trim h hU w k h5).1 h3⟩
      · rintro ⟨k, h1, h2, h3⟩
        have hk : U.testBit k = true := (hU k).2 ⟨.base h1 ((full_bit m _).2 (bit_ne h2)), gs_good h3 (bit_ne h2)⟩
        exact ⟨nu U k, (trim_fib h _).2 ⟨k, h1, hk, rfl⟩, by rw [trim_st m hk (hU.lt hk)]; exact h2, (gs_trim h hU w k hk).2 h3⟩
  exact ⟨fun ⟨_, b⟩ => ⟨h, hT.1 b⟩, fun ⟨_, b⟩ => ⟨trim_right h, hT.2 b⟩⟩
theorem trim_full (hU : Us m U) {k : Nat} (hk : U.testBit k = true) : (fullN (trimM m U)).testBit (nu U k) = true := by
  rw [full_bit, trim_st m hk (hU.lt hk)]
  exact (full_bit m k).1 ((hU k).1 hk).1.within
theorem trim_co (h : Rt m) (hU : Us m U) {k : Nat} (hc : Co m k) : Gg m k → Co (trimM m U) (nu U k) := by
  induction hc with
  | @base k h1 h2 =>
    intro hg
    have hk : U.testBit k = true := (hU k).2 ⟨.base h1 h2, hg⟩
    exact .base ((trim_fib h _).2 ⟨k, h1, hk, rfl⟩) (trim_full hU hk)
  | @step i k h1 h2 h3 ih =>
    intro hg
    have hgi : Gg m i := .step hg h2 h1.within
    have hi : U.testBit i = true := (hU i).2 ⟨h1, hgi⟩
    have hk : U.testBit k = true := (hU k).2 ⟨.step h1 h2 h3, hg⟩
    exact .step (ih hgi) ((trim_fob h hi (hU.lt hi) _).2 ⟨k, h2, hk, rfl⟩) (trim_full hU hk)
theorem trim_gg (h : Rt m) (hU : Us m U) {k : Nat} (hg : Gg m k) : Co m k → Gg (trimM m U) (nu U k) := by
  induction hg with
  | @base k h1 h2 =>
    intro hc
    have hk : U.testBit k = true := (hU k).2 ⟨hc, .base h1 h2⟩
    exact .base ((last_bit _ _).2 (by rw [trim_la m hk (hU.lt hk)]; exact (last_bit m k).1 h1)) (trim_full hU hk)
  | @step i k h1 h2 h3 ih =>
    intro hc
    have hci : Co m i := .step hc h2 h1.within
    have hi : U.testBit i = true := (hU i).2 ⟨hci, h1⟩
    have hk : U.testBit k = true := (hU k).2 ⟨hc, .step h1 h2 h3⟩
    exact .step (ih hci) ((trim_fob h hk (hU.lt hk) _).2 ⟨i, h2, hi, rfl⟩) (trim_full hU hk)
/-- All its spots are useful. -/
theorem trim_all (h : Rt m) (hU : Us m U) {V : Nat} (hV : Us (trimM m U) V) (j : Nat) : V.testBit j = true ↔ j < (trimM m U).sp.length := by
  constructor
  · exact fun hj => hV.lt hj
  · intro hj
    rw [trim_len] at hj
    obtain ⟨k, hk, hu, rfl⟩ := kept_at hj
    have := (hU k).1 hu
    exact (hV _).2 ⟨trim_co h hU this.1 this.2, trim_gg h hU this.2 this.1⟩
theorem kept_all {V n : Nat} (h : ∀ j, j < n → V.testBit j = true) : kept V n = List.range n := by
  unfold kept
  rw [List.filter_eq_self]
  intro j hj
  exact h j (List.mem_range.1 hj)
theorem left_all {V n : Nat} {l : List Int} (h : ∀ j, j < n → V.testBit j = true) (hr : rise n l = true) : leftL V l = l := by
  have hm := ((rise_iff n l).1 hr).1
  unfold leftL
  rw [List.filter_eq_self.2 (fun x hx => h _ (by have := hm x hx; omega))]
  have : ∀ x ∈ l, ((nu V x.toNat : Nat) : Int) = x := by
    intro x hx
    have := hm x hx
    rw [← nu_len, kept_all (fun j hj => h j (by omega)), List.length_range]
    omega
  rw [List.map_congr_left this, List.map_id']
theorem range_get {α : Type} (d : α) (l : List α) {n : Nat} (h : l.length = n) : (List.range n).map (fun k => l.getD k d) = l := by
  subst h
  apply List.ext_getElem (by simp)
  intro i h1 h2
  simp [List.getD_eq_getElem?_getD, List.getElem?_eq_getElem h2]
/-- A machine all of whose spots are useful is the same, trimmed. -/
theorem trim_same {t : Mc} (h : Rt t) {V : Nat} (hV : ∀ j, j < t.sp.length → V.testBit j = true) : trimM t V = t := by
  have hk := kept_all hV
  unfold trimM
  rw [hk]
  have h1 : (List.range t.sp.length).map (fun k => leftL V (t.fo.getD k [])) = t.fo := by
    refine (List.map_congr_left fun k _ => ?_).trans (range_get [] t.fo h.fol)
    exact left_all hV (foN_rise h k)
  rw [h1, range_get (0, 0) t.sp rfl, range_get false t.la h.lal, left_all hV h.fiR]
theorem trim_twice (h : Rt m) : trimM (trimM m (useN m)) (useN (trimM m (useN m))) = trimM m (useN m) :=
  trim_same (trim_right h) (fun j hj => (trim_all h (useN_us h) (useN_us (trim_right h)) j).2 hj)
end
end Nf
end Go.Proofs.YtmjjkamndlefmaaDoor
namespace Go.Proofs.YtmjjkamndlefmaaDoor
namespace Nf
open Sets
/-- w is a text of a run that begins in F and is in k at its end. -/
inductive Pt (m : Mc) (F : Nat → Prop) : Nat → List Nat → Prop
  | one {k c : Nat} : F k → (stN m k).testBit c = true → Pt m F k [c]
  | more {i k c : Nat} {w : List Nat} : Pt m F i w → (foN m i).testBit k = true → (stN m k).testBit c = true → Pt m F k (w ++ [c])
theorem Pt.run {m : Mc} {F : Nat → Prop} {k : Nat} {w : List Nat} (h : Pt m F k w) : ∀ v, Gs m k v → ∃ c u k0, w ++ v = c :: u ∧ F k0 ∧ (stN m k0).testBit c = true ∧ Gs m k0 u := by
  induction h with
  | one hf hs => exact fun v hv => ⟨_, v, _, rfl, hf, hs, hv⟩
  | more _ hf hs ih =>
    intro v hv
    rw [List.append_assoc]
    exact ih _ (.more hf hs hv)
theorem Pt.takes {m : Mc} {k : Nat} {w : List Nat} (h : Pt m (fun k => (grp m.fi).testBit k = true) k w) {v : List Nat} (hv : Gs m k v) (hr : Rt m) : takesM m (w ++ v) = true := by
  obtain ⟨c, u, k0, e, h1, h2, h3⟩ := h.run v hv
  rw [takes_iff, e]
  exact ⟨hr, k0, h1, h2, h3⟩
theorem Pt.goes {m : Mc} {i k : Nat} {w : List Nat} (h : Pt m (fun k => (foN m i).testBit k = true) k w) (hl : m.la.getD k false = true) : Gs m i w := by
  obtain ⟨c, u, k0, e, h1, h2, h3⟩ := h.run [] (.done hl)
  rw [List.append_nil] at e
  rw [e]
  exact .more h1 h2 h3
/-- k is come to from F. -/
inductive Rch (m : Mc) (F : Nat → Prop) : Nat → Prop
  | base {k : Nat} : F k → Rch m F k
  | step {i k : Nat} : Rch m F i → (foN m i).testBit k = true → Rch m F k
theorem co_rch {m : Mc} {k : Nat} (h : Co m k) : Rch m (fun k => (grp m.fi).testBit k = true) k := by
  induction h with
  | base h _ => exact .base h
  | step _ h _ ih => exact .step ih h
/-- from a spot that goes on to a last one -/
theorem gg_rch {m : Mc} {k : Nat} (h : Gg m k) : m.la.getD k false = true ∨ ∃ j, m.la.getD j false = true ∧ j < m.la.length ∧ Rch m (fun i => (foN m k).testBit i = true) j := by
  have hext : ∀ {i k j : Nat}, (foN m k).testBit i = true → Rch m (fun q => (foN m i).testBit q = true) j → Rch m (fun q => (foN m k).testBit q = true) j := by
    intro i k j hik hr
    induction hr with
    | base h => exact .step (.base hik) h
    | step _ h ih => exact .step ih h
  induction h with
  | base h _ => exact .inl ((last_bit m _).1 h)
  | @step i k _ hf _ ih =>
    refine .inr ?_
    rcases ih with h1 | ⟨j, h1, h2, h3⟩
    · refine ⟨i, h1, ?_, .base hf⟩
      rcases Nat.lt_or_ge i m.la.length with h4 | h4
      · exact h4
      · rw [getD_ge h4] at h1; cases h1
    · exact ⟨j, h1, h2, hext hf h3⟩
/-- A search by breadth: L is what has been seen, in its order; all that follows one of the first i of them is in L. T k is k's text. -/
structure Bf (m : Mc) (F : Nat → Prop) (i : Nat) (L : List Nat) (T : Nat → List Nat) : Prop where
  nodup : L.Nodup
  lt : ∀ k ∈ L, k < m.sp.length
  all : ∀ k, F k → k ∈ L
  way : ∀ k ∈ L, Pt m F k (T k)
  len : ∀ j, j < L.length → (T (L.getD j 0)).length ≤ j + 1
  closed : ∀ j, j < i → ∀ k, (foN m (L.getD j 0)).testBit k = true → k ∈ L
theorem nodup_le : ∀ {n : Nat} {L : List Nat}, L.Nodup → (∀ k ∈ L, k < n) → L.length ≤ n
  | 0, L, _, hl => by
    cases L with
    | nil => exact Nat.le_refl _
    | cons x l => have := hl x (List.mem_cons_self ..); omega
  | n + 1, L, hn, hl => by
    by_cases h : n ∈ L
    · have h1 := nodup_le (n := n) (L := L.erase n) (hn.erase n) (fun k hk => by
        have h2 := (List.Nodup.mem_erase_iff hn).1 hk
        have := hl k h2.2
        omega)
      rw [List.length_erase_of_mem h] at h1
      omega
    · have := nodup_le (n := n) hn (fun k hk => by
        have := hl k hk
        have : k ≠ n := fun e => h (e ▸ hk)
        omega)
      omega
theorem Bf.le {m : Mc} {F : Nat → Prop} {i : Nat} {L : List Nat} {T : Nat → List Nat} (h : Bf m F i L T) : L.length ≤ m.sp.length := nodup_le h.nodup h.lt
/-- one more is seen, behind the spot at i -/
theorem Bf.push {m : Mc} {F : Nat → Prop} {i : Nat} {L : List Nat} {T : Nat → List Nat} (h : Bf m F i L T) (hi : i < L.length) {k c : Nat} (hk : k ∉ L) (hf : (foN m (L.getD i 0)).testBit k = true) (hn : k < m.sp.length) (hc : (stN m k).testBit c = true) :
    Bf m F i (L ++ [k]) (fun j => if j = k then T (L.getD i 0) ++ [c] else T j) := by
  have hne : ∀ x ∈ L, x ≠ k := fun x hx e => hk (e ▸ hx)
  have hg : ∀ j, j < L.length → (L ++ [k]).getD j 0 = L.getD j 0 := fun j hj => by
    rw [List.getD_eq_getElem?_getD, List.getElem?_append_left hj, List.getD_eq_getElem?_getD]
  have hm : ∀ j, j < L.length → L.getD j 0 ∈ L := fun j hj => getD_mem hj
  refine ⟨?_, ?_, ?_, ?_, ?_, ?_⟩
  · rw [List.nodup_append]
    exact ⟨h.nodup, by simp, fun a ha b hb => by rw [List.mem_singleton.1 hb]; exact hne a ha⟩
  · intro x hx
    rcases List.mem_append.1 hx with hx | hx
    · exact h.lt x hx
    · rw [List.mem_singleton.1 hx]; exact hn
  · exact fun x hx => List.mem_append.2 (.inl (h.all x hx))
  · intro x hx
    show Pt m F x (if x = k then _ else _)
    rcases List.mem_append.1 hx with hx | hx
    · rw [if_neg (hne x hx)]; exact h.way x hx
    · rw [List.mem_singleton.1 hx, if_pos rfl]
      exact .more (h.way _ (hm i hi)) hf hc
  · intro j hj
    rw [List.length_append] at hj
    simp only [List.length_cons, List.length_nil] at hj
    show (if (L ++ [k]).getD j 0 = k then _ else T ((L ++ [k]).getD j 0)).length ≤ j + 1
    by_cases e : j < L.length
    · rw [hg j e, if_neg (hne _ (hm j e))]; exact h.len j e
    · have : j = L.length := by omega
      subst this
      have e2 : (L ++ [k]).getD L.length 0 = k := by rw [List.getD_eq_getElem?_getD, List.getElem?_append_right (Nat.le_refl _), Nat.sub_self]; rfl
      rw [e2, if_pos rfl, List.length_append]
      have := h.len i hi
      simp only [List.length_cons, List.length_nil]
      omega
  · intro j hj x hx
    rw [hg j (by omega)] at hx
    exact List.mem_append.2 (.inl (h.closed j hj x hx))
/-- the spot at i is done -/
theorem Bf.next {m : Mc} {F : Nat → Prop} {i : Nat} {L : List Nat} {T : Nat → List Nat} (h : Bf m F i L T) (hc : ∀ k, (foN m (L.getD i 0)).testBit k = true → k ∈ L) : Bf m F (i + 1) L T :=
  ⟨h.nodup, h.lt, h.all, h.way, h.len, fun j hj => by
    rcases Nat.lt_or_ge j i with h1 | h1
    · exact h.closed j h1
    · rw [show j = i by omega]; exact hc⟩
/-- when all are done, L is all that is come to -/
theorem Bf.done {m : Mc} {F : Nat → Prop} {i : Nat} {L : List Nat} {T : Nat → List Nat} (h : Bf m F i L T) (hi : L.length ≤ i) {k : Nat} (hr : Rch m F k) : k ∈ L := by
  induction hr with
  | base hf => exact h.all _ hf
  | @step a b _ hf ih =>
    obtain ⟨j, hj, e⟩ := List.mem_iff_getElem.1 ih
    refine h.closed j (by omega) b ?_
    rw [List.getD_eq_getElem?_getD, List.getElem?_eq_getElem hj]
    show (foN m L[j]).testBit b = true
    rw [e]; exact hf
theorem Bf.text {m : Mc} {F : Nat → Prop} {i : Nat} {L : List Nat} {T : Nat → List Nat} (h : Bf m F i L T) {k : Nat} (hk : k ∈ L) : Pt m F k (T k) ∧ (T k).length ≤ m.sp.length := by
  obtain ⟨j, hj, e⟩ := List.mem_iff_getElem.1 hk
  have := h.len j hj
  rw [List.getD_eq_getElem?_getD, List.getElem?_eq_getElem hj, Option.getD_some, e] at this
  have h2 := h.le
  exact ⟨h.way k hk, by omega⟩
end Nf
end Go.Proofs.YtmjjkamndlefmaaDoor
namespace Go.Proofs.YtmjjkamndlefmaaDoor
open Go.RowKit Sets
theorem ret_first {a b : Int} (h : a = b) : Ending.returned (.tuple #[.int .u8 a, .bool true]) = .returned (.tuple #[.int .u8 b, .bool true]) := by rw [h]
set_option maxHeartbeats 400000 in
theorem first_some (S c : Nat) (w : World) (hc : c < 256) (h1 : S.testBit c = true) (h2 : ∀ d, d < c → S.testBit d = false) (hT : Tab w) (hg : 0 < w.heap.size) :
    Calls Tryd.prog 59 #[.agg #[.int .u64 (wd S 0), .int .u64 (wd S 1), .int .u64 (wd S 2), .int .u64 (wd S 3)]] w fun e w' =>
      e = .returned (.tuple #[.int .u8 c, .bool true]) ∧ Below w.heap.size w w' := by
  obtain ⟨hz, hn, he⟩ := first_word S c h1 h2
  have HT : Hid (Tab (w.alloc (.cells #[.int .u64 (wd S 0), .int .u64 (wd S 1), .int .u64 (wd S 2), .int .u64 (wd S 3)] 54))) := Lib.hid (hT.below ((Below.refl _ _).alloc (Nat.le_refl _) _) hg)
  have HE := Lib.hid he
  have HN := Lib.hid hn
  clear hT he h1 h2
  have hq : c / 64 = 0 ∨ c / 64 = 1 ∨ c / 64 = 2 ∨ c / 64 = 3 := by omega
  rcases hq with hq | hq | hq | hq
  all_goals
    rw [hq] at hz hn HE HN
    have hnb := ne_zero_b hn
    clear hq hn
    first
      | (have z2 := eq_zero_b (hz 2 (by decide)); have z1 := eq_zero_b (hz 1 (by decide)); have z0 := eq_zero_b (hz 0 (by decide)))
      | (have z1 := eq_zero_b (hz 1 (by decide)); have z0 := eq_zero_b (hz 0 (by decide)))
      | have z0 := eq_zero_b (hz 0 (by decide))
      | skip
    clear hz
    go_enter Tryd.func59, Tryd.ntmps59
    go_wp2
    refine wp_loop_rounds 4 ?_
    repeat (rw [rounds_succ]; go_wp2_with (first
      | (go_at_call_of 74 (wd S 0); refine (lowest_any 0 _ _ (by decide) (wd_lt _ _) HN.out HT.out).mono ?_; rintro e w' ⟨rfl, rfl⟩)
      | (go_at_call_of 74 (wd S 1); refine (lowest_any 1 _ _ (by decide) (wd_lt _ _) HN.out HT.out).mono ?_; rintro e w' ⟨rfl, rfl⟩)
      | (go_at_call_of 74 (wd S 2); refine (lowest_any 2 _ _ (by decide) (wd_lt _ _) HN.out HT.out).mono ?_; rintro e w' ⟨rfl, rfl⟩)
      | (go_at_call_of 74 (wd S 3); refine (lowest_any 3 _ _ (by decide) (wd_lt _ _) HN.out HT.out).mono ?_; rintro e w' ⟨rfl, rfl⟩)))
    go_ret2
    exact ⟨ret_first (by have := HE.out; omega), (Below.refl _ _).alloc (Nat.le_refl _) _⟩
set_option maxHeartbeats 400000 in
theorem first_none (S : Nat) (w : World) (h0 : wd S 0 = 0) (h1 : wd S 1 = 0) (h2 : wd S 2 = 0) (h3 : wd S 3 = 0) :
    Calls Tryd.prog 59 #[.agg #[.int .u64 (wd S 0), .int .u64 (wd S 1), .int .u64 (wd S 2), .int .u64 (wd S 3)]] w fun e w' =>
      e = .returned (.tuple #[.int .u8 0, .bool false]) ∧ Below w.heap.size w w' := by
  have z0 := eq_zero_b h0
  have z1 := eq_zero_b h1
  have z2 := eq_zero_b h2
  have z3 := eq_zero_b h3
  clear h0 h1 h2 h3
  go_enter Tryd.func59, Tryd.ntmps59
  go_wp2
  refine wp_loop_rounds 5 ?_
  iterate 5 (rw [rounds_succ]; go_wp2)
  go_ret2
  exact ⟨rfl, (Below.refl _ _).alloc (Nat.le_refl _) _⟩
end Go.Proofs.YtmjjkamndlefmaaDoor
namespace Go.Proofs.YtmjjkamndlefmaaDoor
open Go.RowKit Sets Nf
namespace Nf
theorem first_full (S : Nat) (hS : S < 2 ^ 256) (h0 : S ≠ 0) : ∃ c, c < 256 ∧ S.testBit c = true ∧ ∀ w : World, Tab w → 0 < w.heap.size →
    Calls Tryd.prog 59 #[.agg (setC S)] w fun e w' => e = .returned (.tuple #[.int .u8 c, .bool true]) ∧ Below w.heap.size w w' := by
  obtain ⟨k, hk⟩ := Nat.exists_testBit_of_ne_zero h0
  have hex : ∃ c, S.testBit c = true ∧ ∀ d, d < c → S.testBit d = false := by
    have : ∀ n, (∃ c, c < n ∧ S.testBit c = true) → ∃ c, S.testBit c = true ∧ ∀ d, d < c → S.testBit d = false := by
      intro n
      induction n with
      | zero => rintro ⟨c, h, -⟩; omega
      | succ n ih =>
        rintro ⟨c, hc, hb⟩
        by_cases h : ∃ c, c < n ∧ S.testBit c = true
        · exact ih h
        · refine ⟨c, hb, fun d hd => ?_⟩
          cases hdb : S.testBit d with
          | false => rfl
          | true => exact absurd ⟨d, by omega, hdb⟩ h
    exact this (k + 1) ⟨k, by omega, hk⟩
  obtain ⟨c, h1, h2⟩ := hex
  have hc : c < 256 := by
    rcases Nat.lt_or_ge c 256 with h | h
    · exact h
    · rw [Nat.testBit_lt_two_pow (Nat.lt_of_lt_of_le hS (Nat.pow_le_pow_right (by decide) h))] at h1; cases h1
  exact ⟨c, hc, h1, fun w hT hg => first_some S c w hc h1 h2 hT hg⟩
def b1 (c : Nat) : ByteArray := ⟨#[UInt8.ofNat c]⟩
theorem bs_b1 {c : Nat} (h : c < 256) : bs (b1 c) = [c] := by
  unfold bs b1
  simp
  omega
theorem bs_app (s t : ByteArray) : bs (s ++ t) = bs s ++ bs t := by
  unfold bs
  rw [ByteArray.data_append, Array.toList_append, List.map_append]
theorem convert_b1 (w : World) (g c : Nat) (hc : c < 256) (h : w.cell? ⟨g, 0, none⟩ = some (.int .u8 c)) :
    (convert 35 9 (.slice (some ⟨g, 0, none⟩) 1 1)).run Tryd.prog w = .ok (.string (b1 c)) w := by
  refine run_convert_bytes_back (P := Tryd.prog) w 35 9 5 ⟨g, 0, none⟩ 1 [UInt8.ofNat c] Tryd.underlying35 Tryd.underlying5 Tryd.underlying9 (fun j hj => ?_)
  have : j = 0 := by simpa using hj
  subst this
  rw [Addr.add_lit, Nat.zero_add, h]
  have : (UInt8.ofNat c).toNat = c := by simp; omega
  simp [this]
def nI (L : List Nat) : List Int := L.map fun k : Nat => (k : Int)
theorem nI_len (L : List Nat) : (nI L).length = L.length := List.length_map _
theorem nI_get (L : List Nat) (i : Nat) (h : i < L.length) : (nI L).getD i 0 = ((L.getD i 0 : Nat) : Int) := by
  unfold nI
  rw [List.getD_eq_getElem?_getD, List.getElem?_map, List.getElem?_eq_getElem h, List.getD_eq_getElem?_getD, List.getElem?_eq_getElem h]; rfl
/-- The memory of a search: texts in block g1, what is seen in g2, what is to do in v. -/
structure WyI (w0 : World) (s g1 g2 : Nat) (x : Ma) (m : Mc) (v : Value) (L : List Nat) (T : Nat → ByteArray) (S : Nat → Bool) (W : World) : Prop where
  box : BoxM W s x m
  tx : W.rowIs g1 9 m.sp.length (fun k => .string (T k))
  sn : W.rowIs g2 4 m.sp.length (fun k => .bool (S k))
  todo : OwnN s W v (nI L)
  l1 : s < g1
  l2 : s < g2
  below : Below s w0 W
theorem WyI.stay {w0 : World} {s g1 g2 : Nat} {x : Ma} {m : Mc} {v : Value} {L : List Nat} {T : Nat → ByteArray} {S : Nat → Bool} {W W' : World} (h : WyI w0 s g1 g2 x m v L T S W) (hb : Below W.heap.size W W') : WyI w0 s g1 g2 x m v L T S W' :=
  ⟨h.box.kept hb h.box.lt, World.rowIs.of_block h.tx (hb.block g1 (World.rowIs.lt h.tx)), World.rowIs.of_block h.sn (hb.block g2 (World.rowIs.lt h.sn)), own_stay h.todo hb, h.l1, h.l2, h.below.trans (hb.mono (Nat.le_of_lt h.box.lt))⟩
theorem row_type {w : World} {b : Nat} {t : TypeId} {n : Nat} {f : Nat → Value} (h : w.rowIs b t n f) : ∃ cs, w.heap[b]? = some (.cells cs t (0, 0)) := by
  obtain ⟨c, hb, -⟩ := h; exact ⟨c, hb⟩
theorem type_ne {w : World} {a b : Nat} {ca cb : Array Value} {ta tb : TypeId} (ha : w.heap[a]? = some (.cells ca ta (0, 0))) (hb : w.heap[b]? = some (.cells cb tb (0, 0))) (h : ta ≠ tb) : a ≠ b := fun e => by
  rw [e, hb] at ha
  injection ha with ha
  injection ha with _ h2
  exact h h2.symm
theorem WyI.setT {w0 : World} {s g1 g2 : Nat} {x : Ma} {m : Mc} {v : Value} {L : List Nat} {T : Nat → ByteArray} {S : Nat → Bool} {W : World} (h : WyI w0 s g1 g2 x m v L T S W) (k : Nat) (t : ByteArray) :
    WyI w0 s g1 g2 x m v L (fun j => if j = k then t else T j) S (W.setCell ⟨g1, k, none⟩ (.string t)) := by
  obtain ⟨c1, h1⟩ := row_type h.tx
  obtain ⟨c2, h2⟩ := row_type h.sn
  have hset : ∀ q, q ≠ g1 → (W.setCell ⟨g1, k, none⟩ (.string t)).heap[q]? = W.heap[q]? := fun q hq => Below.heap_setCell W ⟨g1, k, none⟩ _ q hq
  refine ⟨⟨(hset s (type_ne h.box.row h1 (by decide))).trans h.box.row⟩, (World.rowIs.set h.tx k (.string t)).congr (fun i _ => ?_), World.rowIs.of_block h.sn (hset g2 (type_ne h2 h1 (by decide))), own_kept h.todo (fun q hq => ?_), h.l1, h.l2, h.below.setCell (by have := h.l1; show s ≤ g1; omega) _⟩
  · by_cases e : i = k
    · simp [e]
    · simp [e]
  · obtain ⟨cs, hcs⟩ := own_type h.todo hq
    exact hset q (type_ne hcs h1 (by decide))
theorem WyI.setS {w0 : World} {s g1 g2 : Nat} {x : Ma} {m : Mc} {v : Value} {L : List Nat} {T : Nat → ByteArray} {S : Nat → Bool} {W : World} (h : WyI w0 s g1 g2 x m v L T S W) (k : Nat) (t : Bool) :
    WyI w0 s g1 g2 x m v L T (fun j => if j = k then t else S j) (W.setCell ⟨g2, k, none⟩ (.bool t)) := by
  obtain ⟨c1, h1⟩ := row_type h.tx
  obtain ⟨c2, h2⟩ := row_type h.sn
  have hset : ∀ q, q ≠ g2 → (W.setCell ⟨g2, k, none⟩ (.bool t)).heap[q]? = W.heap[q]? := fun q hq => Below.heap_setCell W ⟨g2, k, none⟩ _ q hq
  refine ⟨⟨(hset s (type_ne h.box.row h2 (by decide))).trans h.box.row⟩, World.rowIs.of_block h.tx (hset g1 (type_ne h1 h2 (by decide))), (World.rowIs.set h.sn k (.bool t)).congr (fun i _ => ?_), own_kept h.todo (fun q hq => ?_), h.l1, h.l2, h.below.setCell (by have := h.l2; show s ≤ g2; omega) _⟩
  · by_cases e : i = k
    · simp [e]
    · simp [e]
  · obtain ⟨cs, hcs⟩ := own_type h.todo hq
    exact hset q (type_ne hcs h2 (by decide))
theorem WyI.push {w0 : World} {s g1 g2 : Nat} {x : Ma} {m : Mc} {v v' : Value} {L : List Nat} {T : Nat → ByteArray} {S : Nat → Bool} {W W' : World} {k : Nat} (h : WyI w0 s g1 g2 x m v L T S W) (ho : OwnN s W' v' ((nI L) ++ [(k : Int)])) (hb : Below s W W') (ha : Ap W v W' v') :
    WyI w0 s g1 g2 x m v' (L ++ [k]) T S W' := by
  have hf := ha.fr h.todo s
  have hk : ∀ (q : Nat) (cs : Array Value) (t : TypeId), W.heap[q]? = some (.cells cs t (0, 0)) → t ≠ 3 → W'.heap[q]? = W.heap[q]? := fun q cs t hq ht => ha.block q (Array.getElem?_eq_some_iff.1 hq).1 (fun e => by
    obtain ⟨c2, h2⟩ := own_type h.todo e
    exact type_ne hq h2 ht rfl)
  obtain ⟨c1, h1⟩ := row_type h.tx
  obtain ⟨c2, h2⟩ := row_type h.sn
  exact ⟨⟨(hk _ _ _ h.box.row (by decide)).trans h.box.row⟩, World.rowIs.of_block h.tx (hk _ _ _ h1 (by decide)), World.rowIs.of_block h.sn (hk _ _ _ h2 (by decide)), by unfold nI at *; rw [List.map_append]; exact ho, h.l1, h.l2, h.below.trans hb⟩
end Nf
end Go.Proofs.YtmjjkamndlefmaaDoor
