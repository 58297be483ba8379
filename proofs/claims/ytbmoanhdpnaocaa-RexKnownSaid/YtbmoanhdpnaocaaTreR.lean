/- What is right of a tree, step by step. Plain. -/
import Derived.Test.YtbmoanhdpnaocaaTre3
namespace Go.Proofs.Ytbmoanhdpnaocaa
open Tr
/-- those of E are used -/
def inE (E : List Int) : Nat → Bool := mark (fun _ => false) E
theorem inE_nil : inE [] = fun _ => false := mark_nil _
theorem inE_append (E K : List Int) : mark (inE E) K = inE (E ++ K) := by
  funext j
  simp only [inE, mark, Bool.false_or]
  rw [Bool.eq_iff_iff]
  simp
theorem inE_iff (E : List Int) (j : Nat) : inE E j = true ↔ (j : Int) ∈ E := by simp [inE, mark]
theorem inE_not (E : List Int) (c : Int) (h : 0 ≤ c) : inE E c.toNat = false ↔ c ∉ E := by
  rw [← Bool.not_eq_true, inE_iff, Int.toNat_of_nonneg h]
theorem edges_append (A B : List Nd) : edges (A ++ B) = edges A ++ edges B := by simp [edges]
theorem take_snoc {α : Type} [Inhabited α] (l : List α) (i : Nat) (h : i < l.length) : l.take (i + 1) = l.take i ++ [l.getD i default] := by
  rw [List.take_add_one, List.getElem?_eq_getElem h, List.getD_eq_getElem?_getD, List.getElem?_eq_getElem h]; rfl
theorem edges_snoc (N : List Nd) (i : Nat) (h : i < N.length) : edges (N.take (i + 1)) = edges (N.take i) ++ kids (N.getD i default) := by
  rw [take_snoc N i h, edges_append]; simp [edges]
theorem roots_snoc (R : List (Int × Bool)) (i : Nat) (h : i < R.length) : roots (R.take (i + 1)) = roots (R.take i) ++ [(R.getD i default).1] := by
  rw [take_snoc R i h]; simp [roots]
theorem prefix_edges (N : List Nd) (i : Nat) : ∃ M, edges N = edges (N.take i) ++ M := ⟨edges (N.drop i), by rw [← edges_append, List.take_append_drop]⟩
theorem prefix_roots (R : List (Int × Bool)) (i : Nat) : ∃ M, roots R = roots (R.take i) ++ M := ⟨roots (R.drop i), by simp only [roots]; rw [← List.map_append, List.take_append_drop]⟩
theorem okB_inE (E K : List Int) (i : Nat) : okB (inE E) i K ↔ (∀ c ∈ K, 0 ≤ c ∧ c < i) ∧ (∀ c ∈ K, c ∉ E) ∧ K.Nodup := by
  unfold okB
  constructor
  · rintro ⟨h1, h2⟩
    exact ⟨fun c hc => ⟨(h1 c hc).1, (h1 c hc).2.1⟩, fun c hc => (inE_not E c (h1 c hc).1).1 (h1 c hc).2.2, h2⟩
  · rintro ⟨h1, h2, h3⟩
    exact ⟨fun c hc => ⟨(h1 c hc).1, (h1 c hc).2, (inE_not E c (h1 c hc).1).2 (h2 c hc)⟩, h3⟩
theorem nodup_okB (E K : List Int) (i : Nat) (hE : E.Nodup) (h : okB (inE E) i K) : (E ++ K).Nodup := by
  rw [okB_inE] at h
  rw [List.nodup_append]
  exact ⟨hE, h.2.2, fun a ha b hb e => h.2.1 b hb (e ▸ ha)⟩
structure RightB (N : List Nd) (R : List (Int × Bool)) : Prop where
  few : 1 ≤ R.length ∧ R.length ≤ 20 ∧ N.length ≤ 600
  one : ∀ i, i < N.length → sound (N.getD i default) = true ∧ okB (inE (edges (N.take i))) i (kids (N.getD i default))
  two : ∀ q, q < R.length → okB (inE (edges N ++ roots (R.take q))) N.length [(R.getD q default).1]
  thr : allB (inE (edges N ++ roots R)) N.length = true
theorem right_iff (N : List Nd) (R : List (Int × Bool)) : Right N R ↔ RightB N R := by
  constructor
  · rintro ⟨h1, h2, h3, h4, h5, h6⟩
    refine ⟨h1, fun i hi => ⟨h2 i hi, ?_⟩, fun q hq => ?_, ?_⟩
    · rw [okB_inE]
      obtain ⟨M, hM⟩ := prefix_edges N (i + 1)
      rw [hM, edges_snoc N i hi] at h5
      have h7 := (List.nodup_append.1 (List.nodup_append.1 h5).1).1
      rw [List.nodup_append] at h7
      exact ⟨fun c hc => h3 i hi c hc, fun c hc hm => h7.2.2 c hm c hc rfl, h7.2.1⟩
    · rw [okB_inE]
      obtain ⟨M, hM⟩ := prefix_roots R (q + 1)
      rw [hM, roots_snoc R q hq, ← List.append_assoc, ← List.append_assoc] at h5
      have h7 := (List.nodup_append.1 h5).1
      rw [List.nodup_append] at h7
      refine ⟨fun c hc => ?_, fun c hc hm => h7.2.2 c hm c hc rfl, h7.2.1⟩
      rw [List.mem_singleton.1 hc]
      refine h4 _ ?_
      rw [hM, roots_snoc R q hq]
      simp
    · exact List.all_eq_true.2 (fun j hj => (inE_iff _ _).2 (h6 j (List.mem_range.1 hj)))
  · rintro ⟨h1, h2, h3, h4⟩
    have e1 : ∀ i, i ≤ N.length → (edges (N.take i)).Nodup := by
      intro i
      induction i with
      | zero => intro _; simp [edges]
      | succ i ih =>
        intro hi
        rw [edges_snoc N i hi]
        exact nodup_okB _ _ i (ih (by omega)) (h2 i hi).2
    have e2 : ∀ q, q ≤ R.length → (edges N ++ roots (R.take q)).Nodup := by
      intro q
      induction q with
      | zero => intro _; have := e1 N.length (Nat.le_refl _); rw [List.take_length] at this; simpa [roots] using this
      | succ q ih =>
        intro hq
        rw [roots_snoc R q hq, ← List.append_assoc]
        exact nodup_okB _ _ _ (ih (by omega)) (h3 q hq)
    refine ⟨h1, fun i hi => (h2 i hi).1, fun i hi => ((okB_inE _ _ _).1 (h2 i hi).2).1, ?_, ?_, ?_⟩
    · intro c hc
      obtain ⟨p, hp, rfl⟩ := List.mem_map.1 hc
      obtain ⟨q, hq, rfl⟩ := List.mem_iff_getElem.1 hp
      have := ((okB_inE _ _ _).1 (h3 q hq)).1
      rw [List.getD_eq_getElem?_getD, List.getElem?_eq_getElem hq] at this
      exact this _ (by simp)
    · have := e2 R.length (Nat.le_refl _); rwa [List.take_length] at this
    · intro j hj
      exact (inE_iff _ _).1 (List.all_eq_true.1 h4 j (List.mem_range.2 hj))
end Go.Proofs.Ytbmoanhdpnaocaa
