/- Two trees with one print are alike: the arithmetic of TreeTwo. -/
import Derived.Test.YtpchahlnnbgpkaaDoorTPla
namespace Go.Proofs.YtpchahlnnbgpkaaDoor
open Go.RowKit Sets Tr
theorem strN_inj {P Q : List Nat} (hP : ∀ c ∈ P, c < 256) (hQ : ∀ c ∈ Q, c < 256) (h : strN P = strN Q) : P = Q := by
  unfold strN at h
  injection h with h
  have h2 : P.map UInt8.ofNat = Q.map UInt8.ofNat := by simpa using h
  have h3 := congrArg (List.map UInt8.toNat) h2
  simp only [List.map_map] at h3
  have key : ∀ L : List Nat, (∀ c ∈ L, c < 256) → L.map (UInt8.toNat ∘ UInt8.ofNat) = L := by
    intro L hL
    refine (List.map_congr_left fun c hc => ?_).trans (List.map_id _)
    have := hL c hc
    show (UInt8.ofNat c).toNat = c
    rw [UInt8.toNat_ofNat']
    exact Nat.mod_eq_of_lt this
  rw [key P hP, key Q hQ] at h3
  exact h3
theorem print_same {N M : List Nd} {R S : List (Int × Bool)} (hN : ∀ x ∈ N, NdOk x) (hM : ∀ x ∈ M, NdOk x) (hR : Right N R) (hS : Right M S) : strN (prOf N R) = strN (prOf M S) ↔ parts N R = parts M S := by
  have e1 : prOf N R = prParts 0 (parts N R) := by unfold prOf; rw [rightB_true hR]; rfl
  have e2 : prOf M S = prParts 0 (parts M S) := by unfold prOf; rw [rightB_true hS]; rfl
  have b1 := (pr_facts (R := R) hN).1
  have b2 := (pr_facts (R := S) hM).1
  constructor
  · intro h
    have h3 := strN_inj (fun c hc => by have := b1 c hc; omega) (fun c hc => by have := b2 c hc; omega) h
    rw [e1, e2] at h3
    exact print_inj (parts_ok hR hN) (parts_ok hS hM) (parts_ne hR) (parts_ne hS) h3
  · intro h
    rw [e1, e2, h]
/-- What the loop of TreeTwo has found behind i parts. -/
def SameTo (N M : List Nd) (R S : List (Int × Bool)) (i : Nat) : Prop := R.length = S.length ∧ ∀ q, q < i → (R.getD q default).2 = (S.getD q default).2 ∧ abs N (tr N (R.getD q default).1.toNat) = abs M (tr M (S.getD q default).1.toNat)
theorem same_zero {N M : List Nd} {R S : List (Int × Bool)} : SameTo N M R S 0 ↔ R.length = S.length := ⟨fun h => h.1, fun h => ⟨h, fun q hq => by omega⟩⟩
theorem same_step {N M : List Nd} {R S : List (Int × Bool)} {i : Nat} (h : SameTo N M R S i) : SameTo N M R S (i + 1) ↔ (R.getD i default).2 = (S.getD i default).2 ∧ abs N (tr N (R.getD i default).1.toNat) = abs M (tr M (S.getD i default).1.toNat) := by
  constructor
  · intro k; exact k.2 i (by omega)
  · intro k
    refine ⟨h.1, fun q hq => ?_⟩
    by_cases e : q = i
    · subst e; exact k
    · exact h.2 q (by omega)
theorem same_less {N M : List Nd} {R S : List (Int × Bool)} {i j : Nat} (h : SameTo N M R S i) (hj : j ≤ i) : SameTo N M R S j := ⟨h.1, fun q hq => h.2 q (by omega)⟩
theorem same_all {N M : List Nd} {R S : List (Int × Bool)} : SameTo N M R S R.length ↔ parts N R = parts M S := by
  constructor
  · intro h
    unfold parts
    refine List.ext_getElem (by simp only [List.length_map]; exact h.1) fun q h1 h2 => ?_
    have hq : q < R.length := by simpa using h1
    have hq2 : q < S.length := by rw [← h.1]; exact hq
    have := h.2 q hq
    rw [List.getD_eq_getElem?_getD, List.getD_eq_getElem?_getD, List.getElem?_eq_getElem hq, List.getElem?_eq_getElem hq2] at this
    simp only [Option.getD_some] at this
    simp only [List.getElem_map]
    exact Prod.ext this.2 this.1
  · intro h
    have hl : R.length = S.length := by have := congrArg List.length h; unfold parts at this; simpa using this
    refine ⟨hl, fun q hq => ?_⟩
    have hq2 : q < S.length := by rw [← hl]; exact hq
    have h1 : (parts N R)[q]? = (parts M S)[q]? := by rw [h]
    unfold parts at h1
    rw [List.getElem?_map, List.getElem?_map, List.getElem?_eq_getElem hq, List.getElem?_eq_getElem hq2] at h1
    simp only [Option.map_some] at h1
    injection h1 with h1
    injection h1 with h1 h2
    rw [List.getD_eq_getElem?_getD, List.getD_eq_getElem?_getD, List.getElem?_eq_getElem hq, List.getElem?_eq_getElem hq2]
    exact ⟨h2, h1⟩
/-- Two boxes of trees side by side. -/
structure Box2 (b : Nat) (v0 v1 v2 v3 : Value) (w : World) : Prop where
  c0 : w.cell? ⟨b, 0, none⟩ = some v0
  c1 : w.cell? ⟨b, 1, none⟩ = some v1
  c2 : w.cell? ⟨b + 1, 0, none⟩ = some v2
  c3 : w.cell? ⟨b + 1, 1, none⟩ = some v3
  lt : b + 1 < w.heap.size
theorem Box2.kept {b : Nat} {v0 v1 v2 v3 : Value} {w w' : World} (h : Box2 b v0 v1 v2 v3 w) (hb : Below w.heap.size w w') : Box2 b v0 v1 v2 v3 w' := by
  have h1 := h.lt
  exact ⟨(hb.cell (p := ⟨b, 0, none⟩) (by show b < _; omega)).trans h.c0, (hb.cell (p := ⟨b, 1, none⟩) (by show b < _; omega)).trans h.c1, (hb.cell (p := ⟨b + 1, 0, none⟩) h1).trans h.c2, (hb.cell (p := ⟨b + 1, 1, none⟩) h1).trans h.c3, Nat.lt_of_lt_of_le h1 hb.size⟩
theorem Box2.new (w : World) (v0 v1 v2 v3 : Value) : Box2 w.heap.size v0 v1 v2 v3 ((w.alloc (.cells #[v0, v1] 33)).alloc (.cells #[v2, v3] 33)) := by
  refine ⟨?_, ?_, ?_, ?_, by simp only [World.size_alloc]; omega⟩
  · rw [((Below.refl _ _).alloc (Nat.le_refl _) _).cell (by simp only [World.size_alloc]; omega)]; simp
  · rw [((Below.refl _ _).alloc (Nat.le_refl _) _).cell (by simp only [World.size_alloc]; omega)]; simp
  · rw [← World.size_alloc w (.cells #[v0, v1] 33)]; simp
  · rw [← World.size_alloc w (.cells #[v0, v1] 33)]; simp
/-- What Alike tells at two numbers. -/
def Alk (W : World) (nv pv mv qv : Value) (i j : Nat) (r : Bool) : Prop := ∀ w, Below W.heap.size W w →
  Calls Tryd.prog 18 #[.agg #[nv, pv], .agg #[mv, qv], .int .i64 i, .int .i64 j] w fun e w' => e = .returned (.bool r) ∧ Below w.heap.size w w'
end Go.Proofs.YtpchahlnnbgpkaaDoor
