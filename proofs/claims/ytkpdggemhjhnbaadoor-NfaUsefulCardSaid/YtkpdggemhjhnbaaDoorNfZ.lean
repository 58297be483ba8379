/- Ways through a machine: texts whose run comes to a spot; a search by breadth (no program). -/
import Derived.Test.YtkpdggemhjhnbaaDoorNfY
namespace Go.Proofs.YtkpdggemhjhnbaaDoor
namespace Nf
open Sets
/-- w is a text of a run that begins in F and is in k at its end. -/
inductive Pt (m : Mc) (F : Nat → Prop) : Nat → List Nat → Prop
  | one {k c : Nat} : F k → (stN m k).testBit c = true → Pt m F k [c]
  | more {i k c : Nat} {w : List Nat} : Pt m F i w → (foN m i).testBit k = true → (stN m k).testBit c = true → Pt m F k (w ++ [c])
theorem Pt.run {m : Mc} {F : Nat → Prop} {k : Nat} {w : List Nat} (h : Pt m F k w) : ∀ v, Gs m k v → ∃ c u k0, w ++ v = c :: u ∧ F k0 ∧ (stN m k0).testBit c = true ∧ Gs m k0 u := by
  induction h with
  | one hf hs => exact fun v hv => ⟨_, v, _, rfl, hf, hs, hv⟩
  | more _ hf hs ih =>
    intro v hv
    rw [List.append_assoc]
    exact ih _ (.more hf hs hv)
theorem Pt.takes {m : Mc} {k : Nat} {w : List Nat} (h : Pt m (fun k => (grp m.fi).testBit k = true) k w) {v : List Nat} (hv : Gs m k v) (hr : Rt m) : takesM m (w ++ v) = true := by
  obtain ⟨c, u, k0, e, h1, h2, h3⟩ := h.run v hv
  rw [takes_iff, e]
  exact ⟨hr, k0, h1, h2, h3⟩
theorem Pt.goes {m : Mc} {i k : Nat} {w : List Nat} (h : Pt m (fun k => (foN m i).testBit k = true) k w) (hl : m.la.getD k false = true) : Gs m i w := by
  obtain ⟨c, u, k0, e, h1, h2, h3⟩ := h.run [] (.done hl)
  rw [List.append_nil] at e
  rw [e]
  exact .more h1 h2 h3
/-- k is come to from F. -/
inductive Rch (m : Mc) (F : Nat → Prop) : Nat → Prop
  | base {k : Nat} : F k → Rch m F k
  | step {i k : Nat} : Rch m F i → (foN m i).testBit k = true → Rch m F k
theorem co_rch {m : Mc} {k : Nat} (h : Co m k) : Rch m (fun k => (grp m.fi).testBit k = true) k := by
  induction h with
  | base h _ => exact .base h
  | step _ h _ ih => exact .step ih h
/-- from a spot that goes on to a last one -/
theorem gg_rch {m : Mc} {k : Nat} (h : Gg m k) : m.la.getD k false = true ∨ ∃ j, m.la.getD j false = true ∧ j < m.la.length ∧ Rch m (fun i => (foN m k).testBit i = true) j := by
  have hext : ∀ {i k j : Nat}, (foN m k).testBit i = true → Rch m (fun q => (foN m i).testBit q = true) j → Rch m (fun q => (foN m k).testBit q = true) j := by
    intro i k j hik hr
    induction hr with
    | base h => exact .step (.base hik) h
    | step _ h ih => exact .step ih h
  induction h with
  | base h _ => exact .inl ((last_bit m _).1 h)
  | @step i k _ hf _ ih =>
    refine .inr ?_
    rcases ih with h1 | ⟨j, h1, h2, h3⟩
    · refine ⟨i, h1, ?_, .base hf⟩
      rcases Nat.lt_or_ge i m.la.length with h4 | h4
      · exact h4
      · rw [getD_ge h4] at h1; cases h1
    · exact ⟨j, h1, h2, hext hf h3⟩
/-- A search by breadth: L is what has been seen, in its order; all that follows one of the first i of them is in L. T k is k's text. -/
structure Bf (m : Mc) (F : Nat → Prop) (i : Nat) (L : List Nat) (T : Nat → List Nat) : Prop where
  nodup : L.Nodup
  lt : ∀ k ∈ L, k < m.sp.length
  all : ∀ k, F k → k ∈ L
  way : ∀ k ∈ L, Pt m F k (T k)
  len : ∀ j, j < L.length → (T (L.getD j 0)).length ≤ j + 1
  closed : ∀ j, j < i → ∀ k, (foN m (L.getD j 0)).testBit k = true → k ∈ L
theorem nodup_le : ∀ {n : Nat} {L : List Nat}, L.Nodup → (∀ k ∈ L, k < n) → L.length ≤ n
  | 0, L, _, hl => by
    cases L with
    | nil => exact Nat.le_refl _
    | cons x l => have := hl x (List.mem_cons_self ..); omega
  | n + 1, L, hn, hl => by
    by_cases h : n ∈ L
    · have h1 := nodup_le (n := n) (L := L.erase n) (hn.erase n) (fun k hk => by
        have h2 := (List.Nodup.mem_erase_iff hn).1 hk
        have := hl k h2.2
        omega)
      rw [List.length_erase_of_mem h] at h1
      omega
    · have := nodup_le (n := n) hn (fun k hk => by
        have := hl k hk
        have : k ≠ n := fun e => h (e ▸ hk)
        omega)
      omega
theorem Bf.le {m : Mc} {F : Nat → Prop} {i : Nat} {L : List Nat} {T : Nat → List Nat} (h : Bf m F i L T) : L.length ≤ m.sp.length := nodup_le h.nodup h.lt
/-- one more is seen, behind the spot at i -/
theorem Bf.push {m : Mc} {F : Nat → Prop} {i : Nat} {L : List Nat} {T : Nat → List Nat} (h : Bf m F i L T) (hi : i < L.length) {k c : Nat} (hk : k ∉ L) (hf : (foN m (L.getD i 0)).testBit k = true) (hn : k < m.sp.length) (hc : (stN m k).testBit c = true) :
    Bf m F i (L ++ [k]) (fun j => if j = k then T (L.getD i 0) ++ [c] else T j) := by
  have hne : ∀ x ∈ L, x ≠ k := fun x hx e => hk (e ▸ hx)
  have hg : ∀ j, j < L.length → (L ++ [k]).getD j 0 = L.getD j 0 := fun j hj => by
    rw [List.getD_eq_getElem?_getD, List.getElem?_append_left hj, List.getD_eq_getElem?_getD]
  have hm : ∀ j, j < L.length → L.getD j 0 ∈ L := fun j hj => getD_mem hj
  refine ⟨?_, ?_, ?_, ?_, ?_, ?_⟩
  · rw [List.nodup_append]
    exact ⟨h.nodup, by simp, fun a ha b hb => by rw [List.mem_singleton.1 hb]; exact hne a ha⟩
  · intro x hx
    rcases List.mem_append.1 hx with hx | hx
    · exact h.lt x hx
    · rw [List.mem_singleton.1 hx]; exact hn
  · exact fun x hx => List.mem_append.2 (.inl (h.all x hx))
  · intro x hx
    show Pt m F x (if x = k then _ else _)
    rcases List.mem_append.1 hx with hx | hx
    · rw [if_neg (hne x hx)]; exact h.way x hx
    · rw [List.mem_singleton.1 hx, if_pos rfl]
      exact .more (h.way _ (hm i hi)) hf hc
  · intro j hj
    rw [List.length_append] at hj
    simp only [List.length_cons, List.length_nil] at hj
    show (if (L ++ [k]).getD j 0 = k then _ else T ((L ++ [k]).getD j 0)).length ≤ j + 1
    by_cases e : j < L.length
    · rw [hg j e, if_neg (hne _ (hm j e))]; exact h.len j e
    · have : j = L.length := by omega
      subst this
      have e2 : (L ++ [k]).getD L.length 0 = k := by rw [List.getD_eq_getElem?_getD, List.getElem?_append_right (Nat.le_refl _), Nat.sub_self]; rfl
      rw [e2, if_pos rfl, List.length_append]
      have := h.len i hi
      simp only [List.length_cons, List.length_nil]
      omega
  · intro j hj x hx
    rw [hg j (by omega)] at hx
    exact List.mem_append.2 (.inl (h.closed j hj x hx))
/-- the spot at i is done -/
theorem Bf.next {m : Mc} {F : Nat → Prop} {i : Nat} {L : List Nat} {T : Nat → List Nat} (h : Bf m F i L T) (hc : ∀ k, (foN m (L.getD i 0)).testBit k = true → k ∈ L) : Bf m F (i + 1) L T :=
  ⟨h.nodup, h.lt, h.all, h.way, h.len, fun j hj => by
    rcases Nat.lt_or_ge j i with h1 | h1
    · exact h.closed j h1
    · rw [show j = i by omega]; exact hc⟩
/-- when all are done, L is all that is come to -/
theorem Bf.done {m : Mc} {F : Nat → Prop} {i : Nat} {L : List Nat} {T : Nat → List Nat} (h : Bf m F i L T) (hi : L.length ≤ i) {k : Nat} (hr : Rch m F k) : k ∈ L := by
  induction hr with
  | base hf => exact h.all _ hf
  | @step a b _ hf ih =>
    obtain ⟨j, hj, e⟩ := List.mem_iff_getElem.1 ih
    refine h.closed j (by omega) b ?_
    rw [List.getD_eq_getElem?_getD, List.getElem?_eq_getElem hj]
    show (foN m L[j]).testBit b = true
    rw [e]; exact hf
theorem Bf.text {m : Mc} {F : Nat → Prop} {i : Nat} {L : List Nat} {T : Nat → List Nat} (h : Bf m F i L T) {k : Nat} (hk : k ∈ L) : Pt m F k (T k) ∧ (T k).length ≤ m.sp.length := by
  obtain ⟨j, hj, e⟩ := List.mem_iff_getElem.1 hk
  have := h.len j hj
  rw [List.getD_eq_getElem?_getD, List.getElem?_eq_getElem hj, Option.getD_some, e] at this
  have h2 := h.le
  exact ⟨h.way k hk, by omega⟩
end Nf
end Go.Proofs.YtkpdggemhjhnbaaDoor
