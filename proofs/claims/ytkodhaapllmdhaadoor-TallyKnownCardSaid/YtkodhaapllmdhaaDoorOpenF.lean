/- Slices of doubles, and doubles, among a law's arguments. -/
import Derived.Test.YtkodhaapllmdhaaDoorOpen
import Derived.Test.YtkodhaapllmdhaaDoorTal2
import Derived.Laws.Cover2
import Derived.Deep.Slices
namespace Go.Proofs.YtkodhaapllmdhaaDoor
open Go.ChangeShapes Go.WideShapes Go.ChangeAt Go.WideMaps Go.WideElems Go.RowKit
section
variable {H : Type} {enc : TypeId × Value → H} {W : World} {base : Nat} {spare : Nat → Bool} {held : Bool}
theorem wf_lt {b : Nat} (h : (Lit.float .f64 b).wf = true) : b < 2 ^ 64 := by
  unfold Lit.wf at h
  exact of_decide_eq_true h
theorem trod_float {P : Program} {k : FloatKind} {t : TypeId} {fuel : Nat} {cs : List Value} {x : DataW H × List MemPlace} (ht : P.underlying t = some (.float k)) (h : DataW.trod enc P W base spare held fuel t cs = some x) : ∃ b, cs = [.float k b] ∧ x = (.lit (.float k b), []) ∧ (Lit.float k b).wf = true := by
  cases fuel with
  | zero => simp [DataW.trod] at h
  | succ n =>
    unfold DataW.trod at h
    rw [ht] at h
    split at h <;> simp_all
set_option maxRecDepth 100000 in
theorem open_floats {r : Reach} {b0 : Nat} {v : Value} {d : DataW H} {p : List MemPlace} (hv : Value.okWide Tryd.prog W r b0 35 v) (h : DataW.Trod enc Tryd.prog W base (fun _ => true) true 35 v d p) :
    ∃ l, FloatsAt W v l := by
  obtain ⟨a, len, cap, rfl⟩ := okWide_slice Tryd.underlying35 hv
  obtain ⟨fuel, hf⟩ := h
  rcases Go.Deep.open_slice1 Tryd.underlying35 (by kernel_rfl) hf with ⟨hcs, -⟩ | ⟨a', len', cap', m, n, V, D, Pl, hcs, -, hl, hm, hmm, -, hx⟩
  · simp [Value.cells] at hcs
    obtain ⟨rfl, rfl, rfl⟩ := hcs
    exact ⟨[], by simp, by simp, none, 0, rfl, by simp⟩
  · simp [Value.cells] at hcs
    obtain ⟨rfl, rfl, rfl⟩ := hcs
    simp only [if_true] at hmm
    subst hmm
    have key : ∀ i, i < m → ∃ b, V i = .float .f64 b ∧ b < 2 ^ 64 := fun i hi => by
      obtain ⟨b, e1, -, e3⟩ := trod_float Tryd.underlying22 (hx i hi).2
      exact ⟨b, by simpa using e1, wf_lt e3⟩
    let B : Nat → Nat := fun i => match V i with | .float _ b => b | _ => 0
    have hB : ∀ i, i < m → V i = .float .f64 (B i) ∧ B i < 2 ^ 64 := fun i hi => by
      obtain ⟨b, e1, e2⟩ := key i hi
      have eB : B i = b := by show (match V i with | .float _ b => b | _ => 0) = b; rw [e1]
      rw [eB]
      exact ⟨e1, e2⟩
    refine ⟨(List.range len).map B, ?_, by simpa using Nat.le_trans hl hm, some a', m, by simp, ?_⟩
    · intro x hx'
      obtain ⟨i, hi, rfl⟩ := List.mem_map.1 hx'
      exact (hB i (by have := List.mem_range.1 hi; omega)).2
    · intro i hi
      simp at hi
      have hc := (hx i (by omega)).1
      obtain ⟨ab, ao, spot⟩ := a'
      have hspot : spot = none := by simpa [Addr.add] using World.cell?_spot (hx 0 (by omega)).1
      subst hspot
      refine ⟨ab, ao, rfl, ?_⟩
      rw [Addr.add_lit] at hc
      rw [hc, (hB i (by omega)).1]
      simp [List.getD_eq_getElem?_getD, hi]
set_option maxRecDepth 100000 in
theorem open_double {r : Reach} {b0 : Nat} {v : Value} {d : DataW H} {p : List MemPlace} (hv : Value.okWide Tryd.prog W r b0 22 v) (h : DataW.Trod enc Tryd.prog W base spare held 22 v d p) :
    ∃ b, b < 2 ^ 64 ∧ v = .float .f64 b := by
  obtain ⟨b, rfl, -, -, hw⟩ := open_float Tryd.underlying22 hv h
  exact ⟨b, wf_lt hw, rfl⟩
end
end Go.Proofs.YtkodhaapllmdhaaDoor
