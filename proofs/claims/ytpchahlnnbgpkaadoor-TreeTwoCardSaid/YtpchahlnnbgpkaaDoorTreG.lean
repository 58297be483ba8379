/- A print's brackets: what TreePlain looks at. Plain; no program. -/
import Derived.Test.YtpchahlnnbgpkaaDoorTreH
namespace Go.Proofs.YtpchahlnnbgpkaaDoor
namespace Tr
open Sets
/-- what is open, whether within [ ], whether the next byte is passed over -/
def scan : List Nat → Nat → Bool → Bool → Option (Nat × Bool)
  | [], o, b, _ => some (o, b)
  | _ :: r, o, b, true => scan r o b false
  | c :: r, o, b, false => if c = 92 then scan r o b true else if b then scan r o (decide (c ≠ 93)) false else if c = 91 then scan r o true false else if c = 40 then scan r (o + 1) b false else if c = 41 then (if o = 0 then none else scan r (o - 1) b false) else scan r o b false
/-- outside, l changes nothing -/
def Sg (l : List Nat) : Prop := ∀ o r, scan (l ++ r) o false false = scan r o false false
/-- within [ ], l changes nothing -/
def Si (l : List Nat) : Prop := ∀ o r, scan (l ++ r) o true false = scan r o true false
theorem Sg.nil : Sg [] := fun _ _ => rfl
theorem Si.nil : Si [] := fun _ _ => rfl
theorem Sg.append {l m : List Nat} (h : Sg l) (k : Sg m) : Sg (l ++ m) := fun o r => by rw [List.append_assoc, h, k]
theorem Si.append {l m : List Nat} (h : Si l) (k : Si m) : Si (l ++ m) := fun o r => by rw [List.append_assoc, h, k]
theorem Sg.cons {a : Nat} {l : List Nat} (h : Sg [a]) (k : Sg l) : Sg (a :: l) := Sg.append h k
theorem Si.cons {a : Nat} {l : List Nat} (h : Si [a]) (k : Si l) : Si (a :: l) := Si.append h k
theorem sg_one {a : Nat} (h : a ≠ 92 ∧ a ≠ 91 ∧ a ≠ 40 ∧ a ≠ 41) : Sg [a] := by
  intro o r
  simp [scan, h.1, h.2.1, h.2.2.1, h.2.2.2]
theorem si_one {a : Nat} (h : a ≠ 92 ∧ a ≠ 93) : Si [a] := by
  intro o r
  simp [scan, h.1, h.2]
theorem sg_skip (a : Nat) : Sg [92, a] := by intro o r; simp [scan]
theorem si_skip (a : Nat) : Si [92, a] := by intro o r; simp [scan]
theorem hex_ne (d : Nat) (h : d < 16) : hex d ≠ 92 ∧ hex d ≠ 91 ∧ hex d ≠ 40 ∧ hex d ≠ 41 ∧ hex d ≠ 93 := by unfold hex; split <;> omega
theorem esc_sg (c : Nat) (hc : c < 256) : Sg (esc marks c) := by
  have h1 := hex_ne (c / 16) (by omega)
  have h2 := hex_ne (c % 16) (by omega)
  unfold esc
  split
  · exact sg_skip c
  · rename_i hm
    split
    · exact Sg.append (sg_skip 120) ((sg_one ⟨h1.1, h1.2.1, h1.2.2.1, h1.2.2.2.1⟩).cons (sg_one ⟨h2.1, h2.2.1, h2.2.2.1, h2.2.2.2.1⟩))
    · refine sg_one ⟨?_, ?_, ?_, ?_⟩ <;> (intro e; rw [e] at hm; exact hm (by decide))
theorem esc_si (c : Nat) (hc : c < 256) : Si (esc inner c) := by
  have h1 := hex_ne (c / 16) (by omega)
  have h2 := hex_ne (c % 16) (by omega)
  unfold esc
  split
  · exact si_skip c
  · rename_i hm
    split
    · exact Si.append (si_skip 120) ((si_one ⟨h1.1, h1.2.2.2.2⟩).cons (si_one ⟨h2.1, h2.2.2.2.2⟩))
    · refine si_one ⟨?_, ?_⟩ <;> (intro e; rw [e] at hm; exact hm (by decide))
theorem oneRun_si (l : List Nat) (h : ∀ c ∈ l, c < 256) : Si (oneRun l) := by
  unfold oneRun
  refine (esc_si _ (getD_lt256 h _)).append (Si.append ?_ ?_)
  · split
    · exact si_one (by decide)
    · exact Si.nil
  · split
    · exact esc_si _ (getD_lt256 h _)
    · exact Si.nil
theorem runs_si : ∀ (f : Nat) (l : List Nat), (∀ c ∈ l, c < 256) → Si (runs f l) := by
  intro f
  induction f with
  | zero => intro l _; exact Si.nil
  | succ f ih =>
    intro l h
    cases l with
    | nil => exact Si.nil
    | cons a l => exact (oneRun_si _ (fun c hc => h c (List.mem_of_mem_take hc))).append (ih _ (fun c hc => h c (List.mem_of_mem_drop hc)))
theorem setPr_sg (s : Nat) : Sg (setPr s) := by
  have hl : ∀ c ∈ listN s, c < 256 := fun c hc => ((mem_listN s c).1 hc).1
  unfold setPr
  split
  · exact sg_one (by decide)
  · split
    · exact esc_sg _ (getD_lt256 hl _)
    · intro o r
      have := runs_si 256 (listN s) hl o (93 :: r)
      simp only [List.cons_append, List.append_assoc, List.nil_append]
      rw [scan, if_neg (by decide), if_neg (by decide), if_pos rfl, this]
      simp [scan]
theorem wr_sg (c : Bool) {l : List Nat} (h : Sg l) : Sg (wr c l) := by
  cases c
  · exact h
  · intro o r
    have := h (o + 1) (41 :: r)
    simp only [wr, if_true, List.cons_append, List.append_assoc, List.nil_append]
    rw [scan, if_neg (by decide), if_neg (by decide), if_neg (by decide), if_pos rfl, this]
    simp [scan]
theorem tm_sg (m n : Int) (h : countable m n = true) : Sg (tm m n) := by
  unfold countable at h
  unfold tm
  split
  · split <;> exact sg_one (by decide)
  · rename_i h1
    rw [if_neg h1] at h
    have h2 := of_decide_eq_true h
    split
    · exact sg_one (by decide)
    · refine (sg_one (by decide)).cons ((sg_one (by unfold dig; omega)).cons (Sg.append ?_ (sg_one (by decide))))
      split
      · exact (sg_one (by decide)).cons (sg_one (by unfold dig; omega))
      · exact Sg.nil
theorem prX_sg : ∀ x : X, OkX x → Sg (prX x) := by
  intro x
  induction x with
  | emp => intro _ o r; simp [prX, scan]
  | set s => intro _; exact setPr_sg s
  | seq a b iha ihb => intro h; exact (wr_sg _ (iha h.1)).append (wr_sg _ (ihb h.2))
  | alt a b iha ihb => intro h; exact (iha h.1).append ((sg_one (by decide)).cons (wr_sg _ (ihb h.2)))
  | tim a m n ih => intro h; exact (wr_sg _ (ih h.1)).append (tm_sg m n h.2)
theorem prParts_sg : ∀ (l : List (X × Bool)) (i : Nat), (∀ p ∈ l, OkX p.1) → Sg (prParts i l) := by
  intro l
  induction l with
  | nil => intro i _; exact Sg.nil
  | cons p l ih =>
    intro i h
    refine Sg.append ?_ (Sg.append ?_ ((prX_sg _ (h p (by simp))).append (ih _ (fun q hq => h q (by simp [hq])))))
    · split
      · exact sg_one (by decide)
      · exact Sg.nil
    · split
      · exact sg_one (by decide)
      · exact Sg.nil
theorem scan_all {l : List (X × Bool)} (h : ∀ p ∈ l, OkX p.1) : scan (prParts 0 l) 0 false false = some (0, false) := by
  have := prParts_sg l 0 h 0 []
  rw [List.append_nil] at this
  rw [this]; rfl
theorem prParts_ne {l : List (X × Bool)} (h : l ≠ []) : prParts 0 l ≠ [] := by
  cases l with
  | nil => exact absurd rfl h
  | cons p l =>
    obtain ⟨a, t, e, -⟩ := head_prX p.1
    simp [prParts, e]
end Tr
end Go.Proofs.YtpchahlnnbgpkaaDoor
