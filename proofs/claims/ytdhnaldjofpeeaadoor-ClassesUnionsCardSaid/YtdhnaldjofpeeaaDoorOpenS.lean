/- A row of sets among a law's arguments. -/
import Derived.Test.YtdhnaldjofpeeaaDoorRef
import Derived.Deep.Slices
import Derived.Test.YtdhnaldjofpeeaaDoorOpen
namespace Go.Proofs.YtdhnaldjofpeeaaDoor
open Go.ChangeShapes Go.WideShapes Go.ChangeAt Go.WideMaps Go.WideElems Go.RowKit Sets
section
variable {H : Type} {enc : TypeId × Value → H} {W : World} {base : Nat} {spare : Nat → Bool} {held : Bool}
theorem set_cells {n : Nat} {cs : List Value} {x : DataW H × List MemPlace} (hl : cs.length = 4) (h : DataW.trod enc Tryd.prog W base spare held n 31 cs = some x) :
    ∃ S, S < 2 ^ 256 ∧ ∀ q, q < 4 → cs[q]? = some (.int .u64 (wd S q)) := by
  match cs, hl with
  | [c0, c1, c2, c3], _ =>
    have hce : Tryd.prog.cellsOf 29 = 1 := by kernel_rfl
    obtain ⟨y0, y1, y2, y3, n, -, h0, h1, h2, h3⟩ := trod_array4 Tryd.underlying31 hce h
    obtain ⟨n0, e0, -, w0⟩ := DataW.trod_int Tryd.underlying29 h0
    obtain ⟨n1, e1, -, w1⟩ := DataW.trod_int Tryd.underlying29 h1
    obtain ⟨n2, e2, -, w2⟩ := DataW.trod_int Tryd.underlying29 h2
    obtain ⟨n3, e3, -, w3⟩ := DataW.trod_int Tryd.underlying29 h3
    have bnd : ∀ n : Int, (Lit.int .u64 n).wf = true → ∃ m : Nat, n = m ∧ m < 2 ^ 64 := by
      intro n hn
      simp [Lit.wf, IntKind.min, IntKind.max, IntKind.signed, IntKind.bits] at hn
      exact ⟨n.toNat, by omega, by omega⟩
    obtain ⟨m0, rfl, l0⟩ := bnd _ w0
    obtain ⟨m1, rfl, l1⟩ := bnd _ w1
    obtain ⟨m2, rfl, l2⟩ := bnd _ w2
    obtain ⟨m3, rfl, l3⟩ := bnd _ w3
    obtain ⟨S, hS, s0, s1, s2, s3⟩ := of_words m0 m1 m2 m3 l0 l1 l2 l3
    simp at e0 e1 e2 e3
    refine ⟨S, hS, fun q hq => ?_⟩
    have : q = 0 ∨ q = 1 ∨ q = 2 ∨ q = 3 := by omega
    rcases this with rfl | rfl | rfl | rfl
    · simp [e0, s0]
    · simp [e1, s1]
    · simp [e2, s2]
    · simp [e3, s3]
theorem sets_list {P : Nat → Nat → Prop} : ∀ n, (∀ i, i < n → ∃ S, P i S) → ∃ L : List Nat, L.length = n ∧ ∀ i, i < n → P i (L.getD i 0)
  | 0, _ => ⟨[], rfl, fun i hi => by omega⟩
  | n + 1, h => by
    obtain ⟨L, hl, hL⟩ := sets_list n (fun i hi => h i (by omega))
    obtain ⟨S, hS⟩ := h n (by omega)
    refine ⟨L ++ [S], by simp [hl], fun i hi => ?_⟩
    by_cases e : i < n
    · rw [List.getD_eq_getElem?_getD, List.getElem?_append_left (by omega), ← List.getD_eq_getElem?_getD]; exact hL i e
    · have : i = n := by omega
      subst this
      rw [List.getD_eq_getElem?_getD, List.getElem?_append_right (by omega), hl, Nat.sub_self]
      exact hS
theorem open_sets {r : Reach} {b0 : Nat} {v : Value} {d : DataW H} {p : List MemPlace} (hv : Value.okWide Tryd.prog W r b0 26 v) (h : DataW.Trod enc Tryd.prog W base (fun _ => true) true 26 v d p) :
    ∃ L, (∀ S ∈ L, S < 2 ^ 256) ∧ SetsIn W v L := by
  obtain ⟨a, len, cap, rfl⟩ := okWide_slice Tryd.underlying26 hv
  obtain ⟨fuel, hf⟩ := h
  have ce : Tryd.prog.cellsOf 31 = 4 := by kernel_rfl
  rcases Deep.open_slice Tryd.underlying26 hf with ⟨hcs, -⟩ | ⟨a', len', cap', m, n, D, Pl, hcs, -, hl, hm, hmm, -, hel⟩
  · simp [Value.cells] at hcs
    obtain ⟨rfl, rfl, rfl⟩ := hcs
    exact ⟨[], by simp, by simp, none, 0, rfl, Nat.le_refl _, by simp⟩
  · simp [Value.cells] at hcs
    obtain ⟨rfl, rfl, rfl⟩ := hcs
    simp only [if_true] at hmm
    subst hmm
    rw [ce] at hel
    obtain ⟨L, hLl, hL⟩ := sets_list (P := fun i S => S < 2 ^ 256 ∧ ∀ q, q < 4 → W.cell? ((a'.add (i * 4)).add q) = some (.int .u64 (wd S q))) len (fun i hi => by
      obtain ⟨cs, hc, ht⟩ := hel i (by omega)
      obtain ⟨-, hlen, hcell⟩ := World.cells?_some hc
      obtain ⟨S, hS, hq⟩ := set_cells hlen ht
      exact ⟨S, hS, fun q hq4 => (hcell q hq4).trans (hq q hq4)⟩)
    obtain ⟨ab, ao, spot⟩ := a'
    refine ⟨L, fun S hS => ?_, by omega, some ⟨ab, ao, spot⟩, _, by rw [hLl], by omega, fun i hi => ?_⟩
    · obtain ⟨i, hi, rfl⟩ := List.mem_iff_getElem.1 hS
      have := (hL i (by omega)).1
      rw [List.getD_eq_getElem?_getD, List.getElem?_eq_getElem hi] at this
      exact this
    · rw [hLl] at hi
      have hc := (hL i hi).2
      have hspot : spot = none := by
        have h0 := (hL 0 (by omega)).2 0 (by omega)
        simpa [Addr.add] using World.cell?_spot h0
      subst hspot
      refine ⟨ab, ao, rfl, fun q hq => ?_⟩
      have := hc q hq
      rw [Addr.add_lit, Addr.add_lit] at this
      exact this
end
end Go.Proofs.YtdhnaldjofpeeaaDoor
