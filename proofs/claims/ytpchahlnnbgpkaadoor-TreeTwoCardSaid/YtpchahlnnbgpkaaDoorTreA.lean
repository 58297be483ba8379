/- The chapter's second tree. -/
import Derived.Test.YtpchahlnnbgpkaaDoorTreD
import Derived.Test.YtpchahlnnbgpkaaDoorTreO
import Derived.Test.YtpchahlnnbgpkaaDoorOct1
namespace Go.Proofs.YtpchahlnnbgpkaaDoor
open Go.RowKit Sets Tr
theorem flat_get {α : Type} (f : α → List Value) (k : Nat) (hf : ∀ x, (f x).length = k) (d : α) (N : List α) : ∀ (i j : Nat), i < N.length → j < k → (N.flatMap f)[i * k + j]? = (f (N.getD i d))[j]? := by
  induction N with
  | nil => intro i j hi; simp at hi
  | cons x N ih =>
    intro i j hi hj
    rw [List.flatMap_cons]
    cases i with
    | zero => rw [Nat.zero_mul, Nat.zero_add, List.getElem?_append_left (by rw [hf]; exact hj)]; rfl
    | succ i =>
      rw [List.getElem?_append_right (by rw [hf, Nat.succ_mul]; omega)]
      have e : (i + 1) * k + j - (f x).length = i * k + j := by rw [hf, Nat.succ_mul]; omega
      rw [e, ih i j (by simpa using hi) hj]
      simp
theorem nd9_len (x : Nd) : (nd9 x).length = 9 := rfl
theorem pt2_len (x : Int × Bool) : (pt2 x).length = 2 := rfl
theorem nodes_lit (w : World) (N : List Nd) (hN : ∀ x ∈ N, NdOk x) (hl : N.length ≤ 700) (cs : Array Value) (hcs : cs = (N.flatMap nd9).toArray) : NodesAt (w.alloc (.cells cs 27)) (.slice (some ⟨w.heap.size, 0, none⟩) N.length N.length) N := by
  subst hcs
  refine ⟨hN, hl, _, _, rfl, fun i hi => ⟨w.heap.size, 0, rfl, fun j v hv => ?_⟩⟩
  have hj : j < 9 := by have := (List.getElem?_eq_some_iff.1 hv).1; rwa [nd9_len] at this
  rw [World.cell?_alloc_new, List.getElem?_toArray, Nat.zero_add, flat_get nd9 9 nd9_len default N i j hi hj]
  exact hv
theorem parts_lit (w : World) (R : List (Int × Bool)) (hR : ∀ x ∈ R, I64 x.1) (hl : R.length ≤ 30) (cs : Array Value) (hcs : cs = (R.flatMap pt2).toArray) : PartsAt (w.alloc (.cells cs 30)) (.slice (some ⟨w.heap.size, 0, none⟩) R.length R.length) R := by
  subst hcs
  refine ⟨hR, hl, _, _, rfl, fun i hi => ⟨w.heap.size, 0, rfl, fun j v hv => ?_⟩⟩
  have hj : j < 2 := by have := (List.getElem?_eq_some_iff.1 hv).1; rwa [pt2_len] at this
  rw [World.cell?_alloc_new, List.getElem?_toArray, Nat.zero_add, flat_get pt2 2 pt2_len default R i j hi hj]
  exact hv
def someN : List Nd := [⟨2, ofN [97], 0, 0, 0, 0⟩, ⟨2, ofN [98], 0, 0, 0, 0⟩, ⟨3, 0, 0, 1, 0, 0⟩, ⟨1, 0, 0, 0, 0, 0⟩, ⟨4, 0, 2, 3, 0, 0⟩, ⟨2, full, 0, 0, 0, 0⟩, ⟨5, 0, 5, 0, 0, -1⟩]
def someR : List (Int × Bool) := [(4, false), (6, true)]
instance (x : Int) : Decidable (I64 x) := inferInstanceAs (Decidable (_ ∧ _))
def okN (x : Nd) : Bool := decide (x.k < 256) && decide (x.s < 2 ^ 256) && decide (I64 x.a) && decide (I64 x.b) && decide (I64 x.mn) && decide (I64 x.mx)
theorem okN_all {N : List Nd} (h : N.all okN = true) : ∀ x ∈ N, NdOk x := by
  intro x hx
  have := List.all_eq_true.1 h x hx
  simp only [okN, Bool.and_eq_true, decide_eq_true_eq] at this
  obtain ⟨⟨⟨⟨⟨h1, h2⟩, h3⟩, h4⟩, h5⟩, h6⟩ := this
  exact ⟨h1, h2, h3, h4, h5, h6⟩
theorem some_right : Right someN someR := by
  refine ⟨by decide, ?_, ?_, by decide, by decide +kernel, by decide +kernel⟩
  · decide +kernel
  · decide +kernel
def t4 : T := .two 4 (.two 2 (.leaf 0) (.leaf 1)) (.leaf 3)
def t6 : T := .one 6 (.leaf 5)
theorem is4 : Is someN t4 := by unfold t4; refine ⟨by decide, by decide, by decide, by decide, ⟨by decide, by decide, by decide, by decide, ⟨by decide, by decide⟩, ⟨by decide, by decide⟩⟩, ⟨by decide, by decide⟩⟩
theorem is6 : Is someN t6 := by unfold t6; refine ⟨by decide, by decide, by decide, ⟨by decide, by decide⟩⟩
theorem tr4 : tr someN 4 = t4 := tr_of is4
theorem tr6 : tr someN 6 = t6 := tr_of is6
theorem pr_some : prOf someN someR = [97, 98, 124, 40, 41, 38, 33, 46, 42] := by
  unfold prOf
  rw [rightB_true some_right, if_pos rfl]
  show prParts 0 [(abs someN (tr someN 4), false), (abs someN (tr someN 6), true)] = _
  rw [tr4, tr6]
  decide +kernel
theorem pl_some : plOf someN someR = 3 := by
  unfold plOf
  rw [rightB_true some_right, if_pos rfl]
  show min (([(pl someN (tr someN 4)), (pl someN (tr someN 6))] : List Nat).sum) cap = _
  rw [tr4, tr6]
  decide +kernel
theorem dp_some : dpOf someN someR = 3 := by
  unfold dpOf
  rw [rightB_true some_right, if_pos rfl]
  show ([((tr someN 4).dep), ((tr someN 6).dep)] : List Nat).foldl max 0 = _
  rw [tr4, tr6]
  decide +kernel
end Go.Proofs.YtpchahlnnbgpkaaDoor
