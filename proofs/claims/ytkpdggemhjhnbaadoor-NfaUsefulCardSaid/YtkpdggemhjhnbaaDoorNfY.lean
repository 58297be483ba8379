/- What is left when a machine is trimmed: it is right, takes the same, and trimmed again it is the same (no program). -/
import Derived.Test.YtkpdggemhjhnbaaDoorNfR
namespace Go.Proofs.YtkpdggemhjhnbaaDoor
namespace Nf
open Sets
theorem kept_succ (U n : Nat) : kept U (n + 1) = kept U n ++ (if U.testBit n = true then [n] else []) := by
  unfold kept
  rw [List.range_succ, List.filter_append, List.filter_cons]
  by_cases h : U.testBit n = true
  · rw [if_pos h, if_pos h]; rfl
  · rw [if_neg h, if_neg h]; rfl
theorem nu_len (U n : Nat) : (kept U n).length = nu U n := rfl
theorem nu_succ (U n : Nat) : nu U (n + 1) = nu U n + (if U.testBit n = true then 1 else 0) := by
  rw [← nu_len, ← nu_len, kept_succ, List.length_append]
  by_cases h : U.testBit n = true
  · rw [if_pos h, if_pos h]; rfl
  · rw [if_neg h, if_neg h]; rfl
theorem nu_mono (U : Nat) {i : Nat} : ∀ {k : Nat}, i ≤ k → nu U i ≤ nu U k
  | 0, h => by rw [Nat.le_zero.1 h]; exact Nat.le_refl _
  | k + 1, h => by
    rcases Nat.lt_or_ge i (k + 1) with h1 | h1
    · have := nu_mono U (i := i) (k := k) (by omega)
      rw [nu_succ]; omega
    · rw [show i = k + 1 by omega]; exact Nat.le_refl _
theorem nu_lt {U i k : Nat} (hi : U.testBit i = true) (h : i < k) : nu U i < nu U k := by
  have h1 := nu_mono U (i := i + 1) (k := k) h
  rw [nu_succ, if_pos hi] at h1
  omega
theorem nu_inj {U i k : Nat} (hi : U.testBit i = true) (hk : U.testBit k = true) (h : nu U i = nu U k) : i = k := by
  rcases Nat.lt_trichotomy i k with h1 | h1 | h1
  · have := nu_lt hi h1; omega
  · exact h1
  · have := nu_lt hk h1; omega
theorem kept_get {U k : Nat} (hk : U.testBit k = true) : ∀ {n : Nat}, k < n → (kept U n)[nu U k]? = some k
  | n + 1, h => by
    rw [kept_succ]
    rcases Nat.lt_or_ge k n with h1 | h1
    · rw [List.getElem?_append_left (by rw [nu_len]; exact nu_lt hk h1)]
      exact kept_get hk h1
    · have : k = n := by omega
      subst this
      rw [if_pos hk, List.getElem?_append_right (by rw [nu_len]; exact Nat.le_refl _), nu_len, Nat.sub_self]; rfl
theorem kept_mem {U n k : Nat} : k ∈ kept U n ↔ k < n ∧ U.testBit k = true := by
  unfold kept; rw [List.mem_filter, List.mem_range]
/-- each number below is some spot's -/
theorem kept_at {U n j : Nat} (h : j < nu U n) : ∃ k, k < n ∧ U.testBit k = true ∧ nu U k = j := by
  have hl : j < (kept U n).length := by rw [nu_len]; exact h
  have hm : (kept U n)[j] ∈ kept U n := List.getElem_mem _
  obtain ⟨h1, h2⟩ := kept_mem.1 hm
  refine ⟨_, h1, h2, ?_⟩
  have h3 := kept_get h2 h1
  obtain ⟨h4, h5⟩ := List.getElem?_eq_some_iff.1 h3
  have hnd : (kept U n).Nodup := List.Nodup.sublist List.filter_sublist List.nodup_range
  have hpw := List.pairwise_iff_getElem.1 hnd
  rcases Nat.lt_trichotomy (nu U ((kept U n)[j])) j with h6 | h6 | h6
  · exact absurd h5 (hpw _ _ h4 hl h6)
  · exact h6
  · exact absurd h5.symm (hpw _ _ hl h4 h6)
theorem left_mem {U n : Nat} {l : List Int} (h : rise n l = true) (j : Nat) : (j : Int) ∈ leftL U l ↔ ∃ k : Nat, (k : Int) ∈ l ∧ U.testBit k = true ∧ nu U k = j := by
  unfold leftL
  rw [List.mem_map]
  have hr := (rise_iff n l).1 h
  constructor
  · rintro ⟨x, hx, e⟩
    rw [List.mem_filter] at hx
    have := hr.1 x hx.1
    refine ⟨x.toNat, by rw [Int.toNat_of_nonneg this.1]; exact hx.1, hx.2, by omega⟩
  · rintro ⟨k, hk, hu, e⟩
    exact ⟨k, List.mem_filter.2 ⟨hk, by simpa using hu⟩, by simp [e]⟩
theorem left_rise {U n : Nat} {l : List Int} (h : rise n l = true) : rise (nu U n) (leftL U l) = true := by
  have hr := (rise_iff n l).1 h
  refine (rise_iff _ _).2 ⟨fun x hx => ?_, ?_⟩
  · unfold leftL at hx
    obtain ⟨k, hk, rfl⟩ := List.mem_map.1 hx
    rw [List.mem_filter] at hk
    have h1 := hr.1 k hk.1
    have h2 := nu_lt (U := U) (i := k.toNat) (k := n) hk.2 (by omega)
    omega
  · unfold leftL
    rw [List.pairwise_map]
    have h1 : (l.filter fun k => U.testBit k.toNat).Pairwise (· < ·) := hr.2.sublist List.filter_sublist
    refine List.Pairwise.imp_of_mem (R := (· < ·)) ?_ h1
    intro a b ha hb hab
    rw [List.mem_filter] at ha hb
    have := hr.1 a ha.1
    have := hr.1 b hb.1
    have := nu_lt (U := U) (i := a.toNat) (k := b.toNat) ha.2 (by omega)
    omega
section
variable {m : Mc} {U : Nat}
theorem trim_len (m : Mc) (U : Nat) : (trimM m U).sp.length = nu U m.sp.length := by
  show ((kept U m.sp.length).map _).length = _
  rw [List.length_map]; rfl
theorem trim_st (m : Mc) {k : Nat} (hk : U.testBit k = true) (hl : k < m.sp.length) : stN (trimM m U) (nu U k) = stN m k := by
  unfold stN trimM
  show ((((kept U m.sp.length).map fun k => m.sp.getD k (0, 0)).getD (nu U k) (0, 0))).1 = _
  rw [List.getD_eq_getElem?_getD, List.getElem?_map, kept_get hk hl]; rfl
theorem trim_fo (m : Mc) {k : Nat} (hk : U.testBit k = true) (hl : k < m.sp.length) : (trimM m U).fo.getD (nu U k) [] = leftL U (m.fo.getD k []) := by
  show (((kept U m.sp.length).map fun k => leftL U (m.fo.getD k [])).getD (nu U k) []) = _
  rw [List.getD_eq_getElem?_getD, List.getElem?_map, kept_get hk hl]; rfl
theorem trim_la (m : Mc) {k : Nat} (hk : U.testBit k = true) (hl : k < m.sp.length) : (trimM m U).la.getD (nu U k) false = m.la.getD k false := by
  show (((kept U m.sp.length).map fun k => m.la.getD k false).getD (nu U k) false) = _
  rw [List.getD_eq_getElem?_getD, List.getElem?_map, kept_get hk hl]; rfl
theorem trim_right (h : Rt m) : Rt (trimM m U) := by
  have hn : nu U m.sp.length ≤ m.sp.length := by
    rw [← nu_len]; unfold kept
    refine Nat.le_trans (List.length_filter_le _ _) ?_
    rw [List.length_range]; exact Nat.le_refl _
  refine ⟨by rw [trim_len]; have := h.many; omega, ?_, ?_, ?_, ?_, ?_⟩
  · unfold trimM; simp
  · unfold trimM; simp
  · intro s hs
    unfold trimM at hs
    obtain ⟨k, hk, rfl⟩ := List.mem_map.1 hs
    exact h.tag _ (getD_mem (kept_mem.1 hk).1)
  · intro l hl
    rw [trim_len]
    unfold trimM at hl
    obtain ⟨k, hk, rfl⟩ := List.mem_map.1 hl
    exact left_rise (foN_rise h k)
  · rw [trim_len]; exact left_rise h.fiR
theorem trim_fob (h : Rt m) {k : Nat} (hk : U.testBit k = true) (hl : k < m.sp.length) (j : Nat) : (foN (trimM m U) (nu U k)).testBit j = true ↔ ∃ i, (foN m k).testBit i = true ∧ U.testBit i = true ∧ nu U i = j := by
  unfold foN
  rw [trim_fo m hk hl, grp_bit (left_rise (foN_rise h k)) j, left_mem (foN_rise h k)]
  constructor
  · rintro ⟨i, h1, h2, h3⟩; exact ⟨i, (grp_bit (foN_rise h k) i).2 h1, h2, h3⟩
  · rintro ⟨i, h1, h2, h3⟩; exact ⟨i, (grp_bit (foN_rise h k) i).1 h1, h2, h3⟩
theorem trim_fib (h : Rt m) (j : Nat) : (grp (trimM m U).fi).testBit j = true ↔ ∃ i, (grp m.fi).testBit i = true ∧ U.testBit i = true ∧ nu U i = j := by
  show (grp (leftL U m.fi)).testBit j = true ↔ _
  rw [grp_bit (left_rise h.fiR) j, left_mem h.fiR]
  constructor
  · rintro ⟨i, h1, h2, h3⟩; exact ⟨i, (grp_bit h.fiR i).2 h1, h2, h3⟩
  · rintro ⟨i, h1, h2, h3⟩; exact ⟨i, (grp_bit h.fiR i).1 h1, h2, h3⟩
theorem bit_ne {S c : Nat} (h : S.testBit c = true) : S ≠ 0 := fun e => by rw [e, Nat.zero_testBit] at h; cases h
theorem gs_good {k : Nat} {w : List Nat} (h : Gs m k w) (hk : stN m k ≠ 0) : Gg m k := by
  induction h with
  | done hl => exact .base ((last_bit m _).2 hl) ((full_bit m _).2 hk)
  | more hf hs _ ih => exact .step (ih (bit_ne hs)) hf ((full_bit m _).2 hk)
theorem gs_trim (h : Rt m) (hU : Us m U) : ∀ (w : List Nat) (k : Nat), U.testBit k = true → (Gs (trimM m U) (nu U k) w ↔ Gs m k w)
  | [], k, hk => by
    have hl := hU.lt hk
    constructor
    · intro g; cases g with | done e => exact .done (by rw [trim_la m hk hl] at e; exact e)
    · intro g; cases g with | done e => exact .done (by rw [trim_la m hk hl]; exact e)
  | c :: w, k, hk => by
    have hl := hU.lt hk
    constructor
    · intro g
      cases g with
      | more hf hs hg =>
        obtain ⟨i, h1, h2, rfl⟩ := (trim_fob h hk hl _).1 hf
        rw [trim_st m h2 (hU.lt h2)] at hs
        exact .more h1 hs ((gs_trim h hU w i h2).1 hg)
    · intro g
      cases g with
      | @more _ j _ _ hf hs hg =>
        have hj : U.testBit j = true := (hU j).2 ⟨.step ((hU k).1 hk).1 hf ((full_bit m _).2 (bit_ne hs)), gs_good hg (bit_ne hs)⟩
        exact .more ((trim_fob h hk hl _).2 ⟨j, hf, hj, rfl⟩) (by rw [trim_st m hj (hU.lt hj)]; exact hs) ((gs_trim h hU w j hj).2 hg)
/-- A trimmed machine takes just what the machine takes. -/
theorem trim_takes (h : Rt m) (hU : Us m U) (w : List Nat) : takesM (trimM m U) w = takesM m w := by
  rw [Bool.eq_iff_iff, takes_iff, takes_iff]
  have hT : Tk (trimM m U) w ↔ Tk m w := by
    cases w with
    | nil => exact Iff.rfl
    | cons c w =>
      constructor
      · rintro ⟨j, h1, h2, h3⟩
        obtain ⟨k, h4, h5, rfl⟩ := (trim_fib h j).1 h1
        rw [trim_st m h5 (hU.lt h5)] at h2
        exact ⟨k, h4, h2, (gs_trim h hU w k h5).1 h3⟩
      · rintro ⟨k, h1, h2, h3⟩
        have hk : U.testBit k = true := (hU k).2 ⟨.base h1 ((full_bit m _).2 (bit_ne h2)), gs_good h3 (bit_ne h2)⟩
        exact ⟨nu U k, (trim_fib h _).2 ⟨k, h1, hk, rfl⟩, by rw [trim_st m hk (hU.lt hk)]; exact h2, (gs_trim h hU w k hk).2 h3⟩
  exact ⟨fun ⟨_, b⟩ => ⟨h, hT.1 b⟩, fun ⟨_, b⟩ => ⟨trim_right h, hT.2 b⟩⟩
theorem trim_full (hU : Us m U) {k : Nat} (hk : U.testBit k = true) : (fullN (trimM m U)).testBit (nu U k) = true := by
  rw [full_bit, trim_st m hk (hU.lt hk)]
  exact (full_bit m k).1 ((hU k).1 hk).1.within
theorem trim_co (h : Rt m) (hU : Us m U) {k : Nat} (hc : Co m k) : Gg m k → Co (trimM m U) (nu U k) := by
  induction hc with
  | @base k h1 h2 =>
    intro hg
    have hk : U.testBit k = true := (hU k).2 ⟨.base h1 h2, hg⟩
    exact .base ((trim_fib h _).2 ⟨k, h1, hk, rfl⟩) (trim_full hU hk)
  | @step i k h1 h2 h3 ih =>
    intro hg
    have hgi : Gg m i := .step hg h2 h1.within
    have hi : U.testBit i = true := (hU i).2 ⟨h1, hgi⟩
    have hk : U.testBit k = true := (hU k).2 ⟨.step h1 h2 h3, hg⟩
    exact .step (ih hgi) ((trim_fob h hi (hU.lt hi) _).2 ⟨k, h2, hk, rfl⟩) (trim_full hU hk)
theorem trim_gg (h : Rt m) (hU : Us m U) {k : Nat} (hg : Gg m k) : Co m k → Gg (trimM m U) (nu U k) := by
  induction hg with
  | @base k h1 h2 =>
    intro hc
    have hk : U.testBit k = true := (hU k).2 ⟨hc, .base h1 h2⟩
    exact .base ((last_bit _ _).2 (by rw [trim_la m hk (hU.lt hk)]; exact (last_bit m k).1 h1)) (trim_full hU hk)
  | @step i k h1 h2 h3 ih =>
    intro hc
    have hci : Co m i := .step hc h2 h1.within
    have hi : U.testBit i = true := (hU i).2 ⟨hci, h1⟩
    have hk : U.testBit k = true := (hU k).2 ⟨hc, .step h1 h2 h3⟩
    exact .step (ih hci) ((trim_fob h hk (hU.lt hk) _).2 ⟨i, h2, hi, rfl⟩) (trim_full hU hk)
/-- All its spots are useful. -/
theorem trim_all (h : Rt m) (hU : Us m U) {V : Nat} (hV : Us (trimM m U) V) (j : Nat) : V.testBit j = true ↔ j < (trimM m U).sp.length := by
  constructor
  · exact fun hj => hV.lt hj
  · intro hj
    rw [trim_len] at hj
    obtain ⟨k, hk, hu, rfl⟩ := kept_at hj
    have := (hU k).1 hu
    exact (hV _).2 ⟨trim_co h hU this.1 this.2, trim_gg h hU this.2 this.1⟩
theorem kept_all {V n : Nat} (h : ∀ j, j < n → V.testBit j = true) : kept V n = List.range n := by
  unfold kept
  rw [List.filter_eq_self]
  intro j hj
  exact h j (List.mem_range.1 hj)
theorem left_all {V n : Nat} {l : List Int} (h : ∀ j, j < n → V.testBit j = true) (hr : rise n l = true) : leftL V l = l := by
  have hm := ((rise_iff n l).1 hr).1
  unfold leftL
  rw [List.filter_eq_self.2 (fun x hx => h _ (by have := hm x hx; omega))]
  have : ∀ x ∈ l, ((nu V x.toNat : Nat) : Int) = x := by
    intro x hx
    have := hm x hx
    rw [← nu_len, kept_all (fun j hj => h j (by omega)), List.length_range]
    omega
  rw [List.map_congr_left this, List.map_id']
theorem range_get {α : Type} (d : α) (l : List α) {n : Nat} (h : l.length = n) : (List.range n).map (fun k => l.getD k d) = l := by
  subst h
  apply List.ext_getElem (by simp)
  intro i h1 h2
  simp [List.getD_eq_getElem?_getD, List.getElem?_eq_getElem h2]
/-- A machine all of whose spots are useful is the same, trimmed. -/
theorem trim_same {t : Mc} (h : Rt t) {V : Nat} (hV : ∀ j, j < t.sp.length → V.testBit j = true) : trimM t V = t := by
  have hk := kept_all hV
  unfold trimM
  rw [hk]
  have h1 : (List.range t.sp.length).map (fun k => leftL V (t.fo.getD k [])) = t.fo := by
    refine (List.map_congr_left fun k _ => ?_).trans (range_get [] t.fo h.fol)
    exact left_all hV (foN_rise h k)
  rw [h1, range_get (0, 0) t.sp rfl, range_get false t.la h.lal, left_all hV h.fiR]
theorem trim_twice (h : Rt m) : trimM (trimM m (useN m)) (useN (trimM m (useN m))) = trimM m (useN m) :=
  trim_same (trim_right h) (fun j hj => (trim_all h (useN_us h) (useN_us (trim_right h)) j).2 hj)
end
end Nf
end Go.Proofs.YtkpdggemhjhnbaaDoor
