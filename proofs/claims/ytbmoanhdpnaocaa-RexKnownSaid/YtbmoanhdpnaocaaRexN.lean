/- Parts, a whole constraint, as functions on bytes. -/
import Derived.Test.YtbmoanhdpnaocaaTreL
import Derived.Test.YtbmoanhdpnaocaaRexM
namespace Go.Proofs.Ytbmoanhdpnaocaa
namespace Rx
open Sets Tr
inductive P where
  | ok (p : Nat) (ns : List Nd) (ps : List (Int × Bool))
  | bad (long : Bool) (p : Nat)
def nots (l : List Nat) : Nat → Bool → Nat → Bool × Nat
  | 0, b, p => (b, p)
  | f + 1, b, p => if pk l p = 33 then nots l f (!b) (p + 1) else (b, p)
/-- fuel that is enough for a text -/
def fl (l : List Nat) : Nat := 5 * l.length + 10
def prtE (l : List Nat) (ns : List Nd) (ps : List (Int × Bool)) (b : Bool) (q : Nat) : P :=
  match go l (fl l) .pat 0 q ns with
  | .ok n p ns => .ok p ns (ps ++ [((n : Int), b)])
  | .bad lg p => .bad lg p
def prt (l : List Nat) (p : Nat) (ns : List Nd) (ps : List (Int × Bool)) : P := prtE l ns ps (nots l (l.length + 1) false p).1 (nots l (l.length + 1) false p).2
def prtsL (l : List Nat) : Nat → Nat → List Nd → List (Int × Bool) → P
  | 0, p, _, _ => .bad false p
  | f + 1, p, ns, ps =>
    if pk l p = 38 then (if ps.length = 20 then .bad true p else match prt l (p + 1) ns ps with
      | .ok p ns ps => prtsL l f p ns ps
      | .bad lg p => .bad lg p)
    else .ok p ns ps
noncomputable def cons (l : List Nat) : P :=
  if 200 < l.length then .bad true 200 else match prt l 0 [] [] with
    | .bad lg p => .bad lg p
    | .ok p ns ps => match prtsL l (l.length + 1) p ns ps with
      | .bad lg p => .bad lg p
      | .ok p ns ps => if p < l.length then .bad false p else if 63 < plOf ns ps then .bad true p else .ok p ns ps
theorem nots_ok {l : List Nat} : ∀ (f : Nat) (b : Bool) (p : Nat), p ≤ l.length → l.length < p + f → p ≤ (nots l f b p).2 ∧ (nots l f b p).2 ≤ l.length ∧ pk l (nots l f b p).2 ≠ 33
  | 0, b, p, h, hf => by omega
  | f + 1, b, p, h, hf => by
    unfold nots
    split
    · rename_i h0
      have := pk_lt (l := l) (p := p) (by omega)
      have h1 := nots_ok (l := l) f (!b) (p + 1) (by omega) (by omega)
      exact ⟨by omega, h1.2.1, h1.2.2⟩
    · rename_i h0
      exact ⟨Nat.le_refl _, h, h0⟩
structure In2 (l : List Nat) (p : Nat) (ns : List Nd) (ps : List (Int × Bool)) (c : Nat) : Prop where
  inn : In l p ns c
  few : ps.length ≤ 20
  ok : ∀ x ∈ ps, 0 ≤ x.1 ∧ x.1 ≤ 1000
def GoodP (l : List Nat) (p t k d : Nat) : P → Prop
  | .ok p' ns' ps' => p + t ≤ p' ∧ In2 l p' ns' ps' d ∧ ps'.length = k
  | .bad _ _ => True
theorem prt_good {l : List Nat} (hl : ∀ x ∈ l, x < 256) {p c : Nat} {ns : List Nd} {ps : List (Int × Bool)} (h : In2 l p ns ps (3 + c)) (hk : ps.length < 20) : GoodP l p 0 (ps.length + 1) (c + 2) (prt l p ns ps) := by
  unfold prt
  have h1 := nots_ok (l := l) (l.length + 1) false p h.inn.le (by omega)
  generalize nots l (l.length + 1) false p = bq at *
  obtain ⟨b, q⟩ := bq
  simp only at h1 ⊢
  unfold prtE
  have h2 := go_good hl (fl l) .pat 0 q ns c (h.inn.more h1.1 h1.2.1 (by simp only [Md.g]; omega)) trivial
  cases hg : go l (fl l) .pat 0 q ns with
  | bad _ _ => trivial
  | ok n p1 ns1 =>
    rw [hg] at h2
    obtain ⟨h3, h4, h5⟩ := h2
    refine ⟨by omega, ⟨h5, by simp; omega, fun x hx => ?_⟩, by simp⟩
    rcases List.mem_append.1 hx with hx | hx
    · exact h.ok x hx
    · rw [List.mem_singleton.1 hx]
      have := h5.lt h4
      simp only
      omega
def GoodL (l : List Nat) (p c : Nat) : P → Prop
  | .ok p' ns' ps' => p ≤ p' ∧ In2 l p' ns' ps' c
  | .bad _ _ => True
theorem prtsL_good {l : List Nat} (hl : ∀ x ∈ l, x < 256) : ∀ (f : Nat) {p c : Nat} {ns : List Nd} {ps : List (Int × Bool)}, In2 l p ns ps (2 + c) → GoodL l p (2 + c) (prtsL l f p ns ps)
  | 0, p, c, ns, ps, h => by unfold prtsL; trivial
  | f + 1, p, c, ns, ps, h => by
    unfold prtsL
    split
    · rename_i h0
      have hlt := pk_lt (l := l) (p := p) (by omega)
      split
      · trivial
      · have h1 := prt_good hl (p := p + 1) (c := c + 1) (ns := ns) (ps := ps) ⟨h.inn.more (by omega) (by omega) (by omega), h.few, h.ok⟩ (by have := h.few; omega)
        cases hg : prt l (p + 1) ns ps with
        | bad _ _ => trivial
        | ok p1 ns1 ps1 =>
          rw [hg] at h1
          obtain ⟨h2, h3, -⟩ := h1
          have h4 := prtsL_good hl f (p := p1) (c := c) (ns := ns1) (ps := ps1) ⟨h3.inn.more (Nat.le_refl _) h3.inn.le (by omega), h3.few, h3.ok⟩
          simp only
          cases hg2 : prtsL l f p1 ns1 ps1 with
          | bad _ _ => trivial
          | ok p2 ns2 ps2 =>
            rw [hg2] at h4
            obtain ⟨h5, h6⟩ := h4
            exact ⟨by omega, h6⟩
    · exact ⟨Nat.le_refl _, h⟩
end Rx
end Go.Proofs.Ytbmoanhdpnaocaa
