/- Two prints are one just if the trees are alike. Plain; no program. -/
import Derived.Test.YtpchahlnnbgpkaaDoorTreI
namespace Go.Proofs.YtpchahlnnbgpkaaDoor
namespace Tr
open Sets
theorem m92 : 92 ∈ marks := by decide
theorem m120 : 120 ∉ marks := by decide
theorem len_one {l : List Nat} (h : l.length = 1) : l = [l.getD 0 0] := by
  match l, h with
  | [a], _ => rfl
theorem set_head (S : Nat) : ∃ a t, setPr S = a :: t ∧ ((S = full ∧ a = 46) ∨ (S ≠ full ∧ (listN S).length = 1 ∧ (a = 92 ∨ a ∉ marks)) ∨ (S ≠ full ∧ (listN S).length ≠ 1 ∧ a = 91)) := by
  unfold setPr
  by_cases h : S = full
  · rw [if_pos h]; exact ⟨_, _, rfl, .inl ⟨h, rfl⟩⟩
  · rw [if_neg h]
    by_cases h1 : (listN S).length = 1
    · rw [if_pos h1]
      obtain ⟨t, a, e, ha⟩ := esc_head (m := marks) ((listN S).getD 0 0)
      refine ⟨a, t, e, .inr (.inl ⟨h, h1, ?_⟩)⟩
      rcases ha with ha | ⟨rfl, ha, -⟩
      · exact .inl ha
      · refine .inr (fun hm => ?_)
        rw [mem_contains.2 hm] at ha
        cases ha
    · rw [if_neg h1]; exact ⟨_, _, rfl, .inr (.inr ⟨h, h1, rfl⟩)⟩
theorem setPr_read {S T : Nat} (hS : S < 2 ^ 256) (hT : T < 2 ^ 256) {r s : List Nat} (h : setPr S ++ r = setPr T ++ s) : S = T ∧ r = s := by
  have bS : ∀ c ∈ listN S, c < 256 := fun c hc => ((mem_listN S c).1 hc).1
  have bT : ∀ c ∈ listN T, c < 256 := fun c hc => ((mem_listN T c).1 hc).1
  obtain ⟨a, t, e1, h1⟩ := set_head S
  obtain ⟨b, u, e2, h2⟩ := set_head T
  have hab : a = b := by
    rw [e1, e2] at h
    simp only [List.cons_append, List.cons.injEq] at h
    exact h.1
  rcases h1 with ⟨h1, ha⟩ | ⟨h1, h3, ha⟩ | ⟨h1, h3, ha⟩ <;> rcases h2 with ⟨h2, hb⟩ | ⟨h2, h4, hb⟩ | ⟨h2, h4, hb⟩
  · subst h1 h2
    exact ⟨rfl, List.append_cancel_left h⟩
  · exfalso; rw [← hab, ha] at hb; rcases hb with hb | hb <;> revert hb <;> decide
  · exfalso; rw [← hab, ha] at hb; revert hb; decide
  · exfalso; rw [hab, hb] at ha; rcases ha with ha | ha <;> revert ha <;> decide
  · unfold setPr at h
    rw [if_neg h1, if_neg h2, if_pos h3, if_pos h4] at h
    obtain ⟨e, h⟩ := esc_read m92 m120 (getD_lt256 bS 0) (getD_lt256 bT 0) h
    refine ⟨listN_inj hS hT ?_, h⟩
    rw [len_one h3, len_one h4, e]
  · exfalso; rw [hab, hb] at ha; rcases ha with ha | ha <;> revert ha <;> decide
  · exfalso; rw [← hab, ha] at hb; revert hb; decide
  · exfalso; rw [← hab, ha] at hb; rcases hb with hb | hb <;> revert hb <;> decide
  · unfold setPr at h
    rw [if_neg h1, if_neg h2, if_neg h3, if_neg h4] at h
    simp only [List.cons_append, List.append_assoc, List.cons.injEq, true_and] at h
    obtain ⟨e, h⟩ := runs_read 256 _ _ r s (by rw [listN_length]; exact cnt_le S) (by rw [listN_length]; exact cnt_le T) bS bT h
    exact ⟨listN_inj hS hT e, h⟩
def TH : List Nat := [42, 43, 63, 123]
theorem tm_head (m n : Int) : ∃ a t, tm m n = a :: t ∧ a ∈ TH := by
  unfold tm
  split
  · split <;> exact ⟨_, _, rfl, by decide⟩
  · split
    · exact ⟨_, _, rfl, by decide⟩
    · exact ⟨_, _, rfl, by decide⟩
theorem tm_read {m n m' n' : Int} (h1 : countable m n = true) (h2 : countable m' n' = true) {r s : List Nat} (h : tm m n ++ r = tm m' n' ++ s) : m = m' ∧ n = n' ∧ r = s := by
  unfold countable at h1 h2
  unfold tm at h
  by_cases a1 : n = -1 <;> by_cases b1 : n' = -1
  · rw [if_pos a1] at h1 h
    rw [if_pos b1] at h2 h
    have h1 := of_decide_eq_true h1
    have h2 := of_decide_eq_true h2
    subst a1 b1
    by_cases a2 : m = 0 <;> by_cases b2 : m' = 0
    · rw [if_pos a2, if_pos b2] at h; simp at h; exact ⟨by omega, rfl, h⟩
    · rw [if_pos a2, if_neg b2] at h; simp at h
    · rw [if_neg a2, if_pos b2] at h; simp at h
    · rw [if_neg a2, if_neg b2] at h; simp at h; exact ⟨by omega, rfl, h⟩
  · exfalso
    rw [if_pos a1, if_neg b1] at h
    split at h <;> split at h <;> simp at h
  · exfalso
    rw [if_neg a1, if_pos b1] at h
    by_cases b2 : m' = 0
    · rw [if_pos b2] at h
      split at h <;> simp at h
    · rw [if_neg b2] at h
      split at h <;> simp at h
  · rw [if_neg a1] at h1 h
    rw [if_neg b1] at h2 h
    have h1 := of_decide_eq_true h1
    have h2 := of_decide_eq_true h2
    by_cases a2 : m = 0 ∧ n = 1 <;> by_cases b2 : m' = 0 ∧ n' = 1
    · rw [if_pos a2, if_pos b2] at h; simp at h; exact ⟨by omega, by omega, h⟩
    · exfalso; rw [if_pos a2, if_neg b2] at h; simp at h
    · exfalso; rw [if_neg a2, if_pos b2] at h; simp at h
    · rw [if_neg a2, if_neg b2] at h
      unfold dig at h
      simp only [List.cons_append, List.cons.injEq, true_and, List.append_assoc] at h
      obtain ⟨e, h⟩ := h
      have em : m = m' := by omega
      by_cases a3 : n ≠ m <;> by_cases b3 : n' ≠ m'
      · rw [if_pos a3, if_pos b3] at h
        simp only [List.cons_append, List.nil_append, List.cons.injEq, true_and] at h
        exact ⟨em, by omega, h.2⟩
      · exfalso; rw [if_pos a3, if_neg b3] at h; simp at h
      · exfalso; rw [if_neg a3, if_pos b3] at h; simp at h
      · rw [if_neg a3, if_neg b3] at h
        simp only [List.nil_append, List.cons.injEq, true_and] at h
        exact ⟨em, by omega, h⟩
def X.sz : X → Nat
  | .emp => 1
  | .set _ => 1
  | .seq a b => a.sz + b.sz + 1
  | .alt a b => a.sz + b.sz + 1
  | .tim a _ _ => a.sz + 1
def atomP (z : X) : List Nat := wr (decide (2 < z.kd)) (prX z)
def pieceP (z : X) : List Nat := wr (z.kd == 4 || z.kd == 3) (prX z)
def brP (z : X) : List Nat := wr (z.kd == 4) (prX z)
def pcs : X → List X
  | .seq a b => pcs a ++ [b]
  | x => [x]
def brs : X → List X
  | .alt a b => brs a ++ [b]
  | x => [x]
theorem head_wr (c : Bool) {l : List Nat} (h : ∃ a t, l = a :: t ∧ a ∉ B0) : ∃ a t, wr c l = a :: t ∧ a ∉ B0 := by
  cases c
  · exact h
  · exact ⟨40, _, rfl, by decide⟩
theorem head_app {l m : List Nat} (h : ∃ a t, l = a :: t ∧ a ∉ B0) : ∃ a t, l ++ m = a :: t ∧ a ∉ B0 := by
  obtain ⟨a, t, rfl, ha⟩ := h
  exact ⟨a, t ++ m, rfl, ha⟩
theorem b0_marks {a : Nat} (h : a ∉ marks) : a ∉ B0 := fun hb => h (by
  unfold B0 at hb
  unfold marks
  simp only [List.mem_cons, List.not_mem_nil, or_false] at hb ⊢
  rcases hb with h | h | h | h | h | h | h | h <;> simp [h])
theorem head_set (s : Nat) : ∃ a t, setPr s = a :: t ∧ a ∉ B0 := by
  obtain ⟨a, t, e, h⟩ := set_head s
  refine ⟨a, t, e, ?_⟩
  rcases h with ⟨-, rfl⟩ | ⟨-, -, rfl | h⟩ | ⟨-, -, rfl⟩
  · decide
  · decide
  · exact b0_marks h
  · decide
theorem head_prX : ∀ x : X, ∃ a t, prX x = a :: t ∧ a ∉ B0 := by
  intro x
  induction x with
  | emp => exact ⟨40, [41], rfl, by decide⟩
  | set s => exact head_set s
  | seq a b iha ihb => exact head_app (head_wr _ iha)
  | alt a b iha ihb => exact head_app iha
  | tim a m n ih => exact head_app (head_wr _ ih)
theorem head_ne40 (s : Nat) : ∃ a t, setPr s = a :: t ∧ a ≠ 40 := by
  obtain ⟨a, t, e, h⟩ := set_head s
  refine ⟨a, t, e, ?_⟩
  rcases h with ⟨-, rfl⟩ | ⟨-, -, rfl | h⟩ | ⟨-, -, rfl⟩
  · decide
  · decide
  · intro e; rw [e] at h; exact h (by decide)
  · decide
theorem brP_pcs : ∀ x : X, brP x = (pcs x).flatMap pieceP := by
  intro x
  induction x with
  | seq a b iha ihb =>
    simp only [pcs, List.flatMap_append, ← iha, List.flatMap_cons, List.flatMap_nil, List.append_nil]
    rfl
  | emp => simp [pcs, brP, pieceP, X.kd, wr]
  | set s => simp [pcs, brP, pieceP, X.kd, wr]
  | alt a b => simp [pcs, brP, pieceP, X.kd, wr]
  | tim a m n => simp [pcs, brP, pieceP, X.kd, wr]
theorem prX_brs : ∀ x : X, ∃ h t, brs x = h :: t ∧ prX x = brP h ++ t.flatMap (fun b => 124 :: brP b) := by
  intro x
  induction x with
  | alt a b iha ihb =>
    obtain ⟨h, t, e1, e2⟩ := iha
    refine ⟨h, t ++ [b], by simp [brs, e1], ?_⟩
    simp only [prX, e2, List.flatMap_append, List.flatMap_cons, List.flatMap_nil, List.append_nil, List.append_assoc]
    rfl
  | emp => exact ⟨_, [], rfl, by simp [brP, X.kd, wr]⟩
  | set s => exact ⟨_, [], rfl, by simp [brP, X.kd, wr]⟩
  | seq a b => exact ⟨_, [], rfl, by simp [brP, X.kd, wr]⟩
  | tim a m n => exact ⟨_, [], rfl, by simp [brP, X.kd, wr]⟩
theorem pcs_back : ∀ x : X, ∃ h t, pcs x = h :: t ∧ x = t.foldl X.seq h := by
  intro x
  induction x with
  | seq a b iha ihb =>
    obtain ⟨h, t, e1, e2⟩ := iha
    refine ⟨h, t ++ [b], by simp [pcs, e1], ?_⟩
    rw [List.foldl_append, ← e2]; rfl
  | emp => exact ⟨_, [], rfl, rfl⟩
  | set s => exact ⟨_, [], rfl, rfl⟩
  | alt a b => exact ⟨_, [], rfl, rfl⟩
  | tim a m n => exact ⟨_, [], rfl, rfl⟩
theorem brs_back : ∀ x : X, ∃ h t, brs x = h :: t ∧ x = t.foldl X.alt h := by
  intro x
  induction x with
  | alt a b iha ihb =>
    obtain ⟨h, t, e1, e2⟩ := iha
    refine ⟨h, t ++ [b], by simp [brs, e1], ?_⟩
    rw [List.foldl_append, ← e2]; rfl
  | emp => exact ⟨_, [], rfl, rfl⟩
  | set s => exact ⟨_, [], rfl, rfl⟩
  | seq a b => exact ⟨_, [], rfl, rfl⟩
  | tim a m n => exact ⟨_, [], rfl, rfl⟩
theorem pcs_inj {x y : X} (h : pcs x = pcs y) : x = y := by
  obtain ⟨a, t, e1, e2⟩ := pcs_back x
  obtain ⟨b, u, e3, e4⟩ := pcs_back y
  rw [e1, e3] at h
  injection h with h1 h2
  rw [e2, e4, h1, h2]
theorem brs_inj {x y : X} (h : brs x = brs y) : x = y := by
  obtain ⟨a, t, e1, e2⟩ := brs_back x
  obtain ⟨b, u, e3, e4⟩ := brs_back y
  rw [e1, e3] at h
  injection h with h1 h2
  rw [e2, e4, h1, h2]
theorem X.sz_pos (x : X) : 1 ≤ x.sz := by cases x <;> simp [X.sz]
theorem pcs_ok : ∀ x : X, OkX x → ∀ p ∈ pcs x, OkX p ∧ p.sz ≤ x.sz ∧ ((p.kd = 3 ∨ p.kd = 4) → p.sz < x.sz ∨ x.kd = 4) := by
  intro x
  induction x with
  | seq a b iha ihb =>
    intro ho p hp
    have hb := X.sz_pos b
    rcases List.mem_append.1 hp with hp | hp
    · obtain ⟨h1, h2, h3⟩ := iha ho.1 p hp
      simp only [X.sz]
      exact ⟨h1, by omega, fun _ => .inl (by omega)⟩
    · rw [List.mem_singleton.1 hp]
      simp only [X.sz]
      exact ⟨ho.2, by omega, fun _ => .inl (by omega)⟩
  | emp => intro ho p hp; rw [List.mem_singleton.1 hp]; exact ⟨ho, Nat.le_refl _, fun h => by simp [X.kd] at h⟩
  | set s => intro ho p hp; rw [List.mem_singleton.1 hp]; exact ⟨ho, Nat.le_refl _, fun h => by simp [X.kd] at h⟩
  | alt a b => intro ho p hp; rw [List.mem_singleton.1 hp]; exact ⟨ho, Nat.le_refl _, fun h => .inr rfl⟩
  | tim a m n => intro ho p hp; rw [List.mem_singleton.1 hp]; exact ⟨ho, Nat.le_refl _, fun h => by simp [X.kd] at h⟩
theorem brs_ok : ∀ x : X, OkX x → ∀ p ∈ brs x, OkX p ∧ p.sz ≤ x.sz ∧ (p.kd = 4 → p.sz < x.sz) := by
  intro x
  induction x with
  | alt a b iha ihb =>
    intro ho p hp
    have hb := X.sz_pos b
    have ha := X.sz_pos a
    rcases List.mem_append.1 hp with hp | hp
    · obtain ⟨h1, h2, h3⟩ := iha ho.1 p hp
      simp only [X.sz]
      exact ⟨h1, by omega, fun _ => by omega⟩
    · rw [List.mem_singleton.1 hp]
      simp only [X.sz]
      exact ⟨ho.2, by omega, fun _ => by omega⟩
  | emp => intro ho p hp; rw [List.mem_singleton.1 hp]; exact ⟨ho, Nat.le_refl _, fun h => by simp [X.kd] at h⟩
  | set s => intro ho p hp; rw [List.mem_singleton.1 hp]; exact ⟨ho, Nat.le_refl _, fun h => by simp [X.kd] at h⟩
  | seq a b => intro ho p hp; rw [List.mem_singleton.1 hp]; exact ⟨ho, Nat.le_refl _, fun h => by simp [X.kd] at h⟩
  | tim a m n => intro ho p hp; rw [List.mem_singleton.1 hp]; exact ⟨ho, Nat.le_refl _, fun h => by simp [X.kd] at h⟩
end Tr
end Go.Proofs.YtpchahlnnbgpkaaDoor
