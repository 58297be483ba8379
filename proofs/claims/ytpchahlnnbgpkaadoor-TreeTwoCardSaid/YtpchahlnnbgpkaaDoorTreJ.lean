/- Prints have plain bytes alone. Plain; no program. -/
import Derived.Test.YtpchahlnnbgpkaaDoorTreP
namespace Go.Proofs.YtpchahlnnbgpkaaDoor
namespace Tr
open Sets
/-- What a tree of a right one is. -/
def OkX : X → Prop
  | .emp => True
  | .set s => s < 2 ^ 256
  | .seq a b => OkX a ∧ OkX b
  | .alt a b => OkX a ∧ OkX b
  | .tim a m n => OkX a ∧ countable m n = true
def Pl (l : List Nat) : Prop := ∀ c ∈ l, 33 ≤ c ∧ c ≤ 126
theorem Pl.append {l m : List Nat} (h : Pl l) (k : Pl m) : Pl (l ++ m) := fun c hc => (List.mem_append.1 hc).elim (h c) (k c)
theorem Pl.cons {a : Nat} {l : List Nat} (h : 33 ≤ a ∧ a ≤ 126) (k : Pl l) : Pl (a :: l) := fun c hc => (List.mem_cons.1 hc).elim (fun e => e ▸ h) (k c)
theorem Pl.nil : Pl [] := fun c hc => by cases hc
theorem hex_plain (d : Nat) (h : d < 16) : 33 ≤ hex d ∧ hex d ≤ 126 := by unfold hex; split <;> omega
theorem esc_plain (m : List Nat) (c : Nat) (hm : Pl m) (hc : c < 256) : Pl (esc m c) := by
  unfold esc
  split
  · rename_i h
    exact Pl.cons (by decide) (Pl.cons (hm c (List.contains_iff_mem.1 h)) Pl.nil)
  · split
    · exact Pl.cons (by decide) (Pl.cons (by decide) (Pl.cons (hex_plain _ (by omega)) (Pl.cons (hex_plain _ (by omega)) Pl.nil)))
    · exact Pl.cons (by omega) Pl.nil
theorem inner_plain : Pl inner := by unfold Pl inner; decide
theorem marks_plain : Pl marks := by unfold Pl marks; decide
theorem getD_lt256 {l : List Nat} (h : ∀ c ∈ l, c < 256) (i : Nat) : l.getD i 0 < 256 := by
  rw [List.getD_eq_getElem?_getD]
  by_cases hi : i < l.length
  · rw [List.getElem?_eq_getElem hi]; exact h _ (List.getElem_mem hi)
  · rw [List.getElem?_eq_none (by omega)]; decide
theorem oneRun_plain (l : List Nat) (h : ∀ c ∈ l, c < 256) : Pl (oneRun l) := by
  unfold oneRun
  refine (esc_plain _ _ inner_plain (getD_lt256 h _)).append (Pl.append ?_ ?_)
  · split
    · exact Pl.cons (by decide) Pl.nil
    · exact Pl.nil
  · split
    · exact esc_plain _ _ inner_plain (getD_lt256 h _)
    · exact Pl.nil
theorem runs_plain : ∀ (f : Nat) (l : List Nat), (∀ c ∈ l, c < 256) → Pl (runs f l) := by
  intro f
  induction f with
  | zero => intro l _; exact Pl.nil
  | succ f ih =>
    intro l h
    cases l with
    | nil => exact Pl.nil
    | cons a l => exact (oneRun_plain _ (fun c hc => h c (List.mem_of_mem_take hc))).append (ih _ (fun c hc => h c (List.mem_of_mem_drop hc)))
theorem setPr_plain (s : Nat) : Pl (setPr s) := by
  have hl : ∀ c ∈ listN s, c < 256 := fun c hc => ((mem_listN s c).1 hc).1
  unfold setPr
  split
  · exact Pl.cons (by decide) Pl.nil
  · split
    · exact esc_plain _ _ marks_plain (getD_lt256 hl _)
    · exact Pl.cons (by decide) ((runs_plain _ _ hl).append (Pl.cons (by decide) Pl.nil))
theorem wr_plain (c : Bool) {l : List Nat} (h : Pl l) : Pl (wr c l) := by
  cases c
  · exact h
  · exact Pl.cons (by decide) (h.append (Pl.cons (by decide) Pl.nil))
theorem tm_plain (m n : Int) (h : countable m n = true) : Pl (tm m n) := by
  unfold countable at h
  unfold tm
  split
  · split <;> exact Pl.cons (by decide) Pl.nil
  · rename_i h1
    rw [if_neg h1] at h
    have h2 := of_decide_eq_true h
    split
    · exact Pl.cons (by decide) Pl.nil
    · refine Pl.cons (by decide) (Pl.cons ?_ (Pl.append ?_ (Pl.cons (by decide) Pl.nil)))
      · unfold dig; omega
      · split
        · exact Pl.cons (by decide) (Pl.cons (by unfold dig; omega) Pl.nil)
        · exact Pl.nil
theorem prX_plain : ∀ x : X, OkX x → Pl (prX x) := by
  intro x
  induction x with
  | emp => intro _; exact Pl.cons (by decide) (Pl.cons (by decide) Pl.nil)
  | set s => intro _; exact setPr_plain s
  | seq a b iha ihb => intro h; exact (wr_plain _ (iha h.1)).append (wr_plain _ (ihb h.2))
  | alt a b iha ihb => intro h; exact (iha h.1).append (Pl.cons (by decide) (wr_plain _ (ihb h.2)))
  | tim a m n ih => intro h; exact (wr_plain _ (ih h.1)).append (tm_plain m n h.2)
theorem prParts_plain : ∀ (l : List (X × Bool)) (i : Nat), (∀ p ∈ l, OkX p.1) → Pl (prParts i l) := by
  intro l
  induction l with
  | nil => intro i _; exact Pl.nil
  | cons p l ih =>
    intro i h
    refine Pl.append ?_ (Pl.append ?_ ((prX_plain _ (h p (by simp))).append (ih _ (fun q hq => h q (by simp [hq])))))
    · split
      · exact Pl.cons (by decide) Pl.nil
      · exact Pl.nil
    · split
      · exact Pl.cons (by decide) Pl.nil
      · exact Pl.nil
theorem okX_abs {N : List Nd} (snd : ∀ i, i < N.length → sound (N.getD i default) = true) (hs : ∀ i, i < N.length → (N.getD i default).s < 2 ^ 256) : ∀ t : T, Is N t → OkX (abs N t) := by
  intro t
  induction t with
  | leaf i =>
    intro h
    simp only [abs]
    split
    · trivial
    · exact hs i h.1
  | one i a ih =>
    intro h
    refine ⟨ih h.2.2.2, ?_⟩
    have h2 := snd i h.1
    have hk : (N.getD i default).k = 5 := by
      have := h.2.1
      unfold kids at this
      split at this
      · simp at this
      · split at this
        · assumption
        · cases this
    unfold sound at h2
    rw [if_neg (by omega), if_neg (by omega), if_neg (by omega), if_pos hk] at h2
    simp only [Bool.and_eq_true] at h2
    exact h2.2
  | two i a b iha ihb =>
    intro h
    have h1 := iha h.2.2.2.2.1
    have h2 := ihb h.2.2.2.2.2
    simp only [abs]
    split <;> exact ⟨h1, h2⟩
end Tr
end Go.Proofs.YtpchahlnnbgpkaaDoor
