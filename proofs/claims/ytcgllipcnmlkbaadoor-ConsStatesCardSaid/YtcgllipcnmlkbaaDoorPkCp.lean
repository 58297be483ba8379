/- A tree among a law's arguments. -/
import Derived.Test.YtcgllipcnmlkbaaDoorPkN
import Derived.Deep.Slices
import Derived.Test.YtcgllipcnmlkbaaDoorPkQ
namespace Go.Proofs.YtcgllipcnmlkbaaDoor
open Go.ChangeShapes Go.WideShapes Go.ChangeAt Go.WideMaps Go.WideElems Go.RowKit Sets Tr
section
variable {H : Type} {enc : TypeId × Value → H} {W : World} {base : Nat} {spare : Nat → Bool} {held : Bool}
set_option maxRecDepth 100000 in
theorem set_cells {n : Nat} {cs : List Value} {x : DataW H × List MemPlace} (hl : cs.length = 4) (h : DataW.trod enc Tryd.prog W base spare held n 52 cs = some x) :
    ∃ S, S < 2 ^ 256 ∧ ∀ q, q < 4 → cs[q]? = some (.int .u64 (wd S q)) := by
  match cs, hl with
  | [c0, c1, c2, c3], _ =>
    have hce : Tryd.prog.cellsOf 24 = 1 := by kernel_rfl
    obtain ⟨y0, y1, y2, y3, n, -, h0, h1, h2, h3⟩ := trod_array4 Tryd.underlying52 hce h
    obtain ⟨n0, e0, -, w0⟩ := DataW.trod_int Tryd.underlying24 h0
    obtain ⟨n1, e1, -, w1⟩ := DataW.trod_int Tryd.underlying24 h1
    obtain ⟨n2, e2, -, w2⟩ := DataW.trod_int Tryd.underlying24 h2
    obtain ⟨n3, e3, -, w3⟩ := DataW.trod_int Tryd.underlying24 h3
    have bnd : ∀ n : Int, (Lit.int .u64 n).wf = true → ∃ m : Nat, n = m ∧ m < 2 ^ 64 := by
      intro n hn
      simp [Lit.wf, IntKind.min, IntKind.max, IntKind.signed, IntKind.bits] at hn
      exact ⟨n.toNat, by omega, by omega⟩
    obtain ⟨m0, rfl, l0⟩ := bnd _ w0
    obtain ⟨m1, rfl, l1⟩ := bnd _ w1
    obtain ⟨m2, rfl, l2⟩ := bnd _ w2
    obtain ⟨m3, rfl, l3⟩ := bnd _ w3
    obtain ⟨S, hS, s0, s1, s2, s3⟩ := of_words m0 m1 m2 m3 l0 l1 l2 l3
    simp at e0 e1 e2 e3
    refine ⟨S, hS, fun q hq => ?_⟩
    have : q = 0 ∨ q = 1 ∨ q = 2 ∨ q = 3 := by omega
    rcases this with rfl | rfl | rfl | rfl
    · simp [e0, s0]
    · simp [e1, s1]
    · simp [e2, s2]
    · simp [e3, s3]
set_option maxRecDepth 100000 in
theorem list_of {α : Type} [Inhabited α] {P : Nat → α → Prop} : ∀ n, (∀ i, i < n → ∃ S, P i S) → ∃ L : List α, L.length = n ∧ ∀ i, i < n → P i (L.getD i default)
  | 0, _ => ⟨[], rfl, fun i hi => by omega⟩
  | n + 1, h => by
    obtain ⟨L, hl, hL⟩ := list_of n (fun i hi => h i (by omega))
    obtain ⟨S, hS⟩ := h n (by omega)
    refine ⟨L ++ [S], by simp [hl], fun i hi => ?_⟩
    by_cases e : i < n
    · rw [List.getD_eq_getElem?_getD, List.getElem?_append_left (by omega), ← List.getD_eq_getElem?_getD]; exact hL i e
    · have : i = n := by omega
      subst this
      rw [List.getD_eq_getElem?_getD, List.getElem?_append_right (by omega), hl, Nat.sub_self]
      exact hS
set_option maxRecDepth 100000 in
theorem int_ok {n : Int} (h : (Lit.int .i64 n).wf = true) : I64 n := by
  simp [Lit.wf, IntKind.min, IntKind.max, IntKind.signed, IntKind.bits] at h
  exact h
set_option maxRecDepth 100000 in
theorem node_cells {n : Nat} {cs : List Value} {x : DataW H × List MemPlace} (h : DataW.trod enc Tryd.prog W base spare held n 96 cs = some x) :
    ∃ X, NdOk X ∧ cs = nd9 X := by
  obtain ⟨xs, m, -, -, hl, hlen, hf⟩ := DataW.trod_struct Tryd.underlying96 h
  have c9 : Tryd.prog.cellsOf 96 = 9 := by kernel_rfl
  have c1 : Tryd.prog.cellsOf 5 = 1 := by kernel_rfl
  have c4 : Tryd.prog.cellsOf 52 = 4 := by kernel_rfl
  have ci : Tryd.prog.cellsOf 3 = 1 := by kernel_rfl
  rw [c9] at hl
  match cs, hl with
  | [a0, a1, a2, a3, a4, a5, a6, a7, a8], _ =>
    match xs, hlen with
    | [y0, y1, y2, y3, y4, y5], _ =>
      have h0 : DataW.trod enc Tryd.prog W base spare held m 5 (List.take (Tryd.prog.cellsOf 5) (List.drop 0 [a0, a1, a2, a3, a4, a5, a6, a7, a8])) = some y0 := hf 0 _ rfl
      have h1 : DataW.trod enc Tryd.prog W base spare held m 52 (List.take (Tryd.prog.cellsOf 52) (List.drop 1 [a0, a1, a2, a3, a4, a5, a6, a7, a8])) = some y1 := hf 1 _ rfl
      have h2 : DataW.trod enc Tryd.prog W base spare held m 3 (List.take (Tryd.prog.cellsOf 3) (List.drop 5 [a0, a1, a2, a3, a4, a5, a6, a7, a8])) = some y2 := hf 2 _ rfl
      have h3 : DataW.trod enc Tryd.prog W base spare held m 3 (List.take (Tryd.prog.cellsOf 3) (List.drop 6 [a0, a1, a2, a3, a4, a5, a6, a7, a8])) = some y3 := hf 3 _ rfl
      have h4 : DataW.trod enc Tryd.prog W base spare held m 3 (List.take (Tryd.prog.cellsOf 3) (List.drop 7 [a0, a1, a2, a3, a4, a5, a6, a7, a8])) = some y4 := hf 4 _ rfl
      have h5 : DataW.trod enc Tryd.prog W base spare held m 3 (List.take (Tryd.prog.cellsOf 3) (List.drop 8 [a0, a1, a2, a3, a4, a5, a6, a7, a8])) = some y5 := hf 5 _ rfl
      rw [c1] at h0
      rw [c4] at h1
      rw [ci] at h2 h3 h4 h5
      simp only [List.drop_succ_cons, List.drop_zero, List.take_succ_cons, List.take_zero] at h0 h1 h2 h3 h4 h5
      obtain ⟨n0, e0, -, w0⟩ := DataW.trod_int Tryd.underlying5 h0
      obtain ⟨S, hS, hq⟩ := set_cells rfl h1
      obtain ⟨n2, e2, -, w2⟩ := DataW.trod_int Tryd.underlying3 h2
      obtain ⟨n3, e3, -, w3⟩ := DataW.trod_int Tryd.underlying3 h3
      obtain ⟨n4, e4, -, w4⟩ := DataW.trod_int Tryd.underlying3 h4
      obtain ⟨n5, e5, -, w5⟩ := DataW.trod_int Tryd.underlying3 h5
      simp [Lit.wf, IntKind.min, IntKind.max, IntKind.signed, IntKind.bits] at w0
      obtain ⟨k, rfl⟩ : ∃ k : Nat, n0 = (k : Int) := ⟨n0.toNat, by omega⟩
      have q0 := hq 0 (by decide)
      have q1 := hq 1 (by decide)
      have q2 := hq 2 (by decide)
      have q3 := hq 3 (by decide)
      simp at e0 e2 e3 e4 e5 q0 q1 q2 q3
      have hk256 : k < 256 := by omega
      refine ⟨⟨k, S, n2, n3, n4, n5⟩, ⟨hk256, hS, int_ok w2, int_ok w3, int_ok w4, int_ok w5⟩, ?_⟩
      simp [nd9, e0, e2, e3, e4, e5, q0, q1, q2, q3]
set_option maxRecDepth 100000 in
theorem part_cells {n : Nat} {cs : List Value} {x : DataW H × List MemPlace} (h : DataW.trod enc Tryd.prog W base spare held n 78 cs = some x) :
    ∃ X : Int × Bool, I64 X.1 ∧ cs = pt2 X := by
  obtain ⟨y0, y1, m, -, hl, h0, h1⟩ := trod_struct2 Tryd.underlying78 h
  have c2 : Tryd.prog.cellsOf 78 = 2 := by kernel_rfl
  have cb : Tryd.prog.cellsOf 4 = 1 := by kernel_rfl
  have ci : Tryd.prog.cellsOf 3 = 1 := by kernel_rfl
  rw [c2] at hl
  match cs, hl with
  | [a0, a1], _ =>
    rw [ci] at h0
    rw [cb] at h1
    simp only [List.drop_succ_cons, List.drop_zero, List.take_succ_cons, List.take_zero] at h0 h1
    obtain ⟨n0, e0, -, w0⟩ := DataW.trod_int Tryd.underlying3 h0
    obtain ⟨b, e1, -⟩ := DataW.trod_bool Tryd.underlying4 h1
    simp at e0 e1
    exact ⟨(n0, b), int_ok w0, by simp [pt2, e0, e1]⟩
set_option maxRecDepth 100000 in
theorem rows_of {e : TypeId} {α : Type} [Inhabited α] (f : α → List Value) (ok : α → Prop) (k : Nat) (hk : Tryd.prog.cellsOf e = k) (hk0 : 0 < k) (hlen : ∀ x, (f x).length = k) {t : TypeId} (ht : Tryd.prog.underlying t = some (.slice e))
    (hcell : ∀ (n : Nat) (cs : List Value) (x : DataW H × List MemPlace), DataW.trod enc Tryd.prog W base (fun _ => true) true n e cs = some x → ∃ X, ok X ∧ cs = f X)
    {fuel : Nat} {c : Value} {x : DataW H × List MemPlace} (h : DataW.trod enc Tryd.prog W base (fun _ => true) true fuel t [c] = some x) :
    ∃ (L : List α) (a : Option Addr) (cap : Nat), c = .slice a L.length cap ∧ (∀ X ∈ L, ok X) ∧ ∀ i, i < L.length → ∃ b o, a = some ⟨b, o, none⟩ ∧ W.rangeAt b (o + i * k) (f (L.getD i default)) := by
  rcases Deep.open_slice ht h with ⟨hcs, -⟩ | ⟨a', len, cap, m, n, D, Pl, hcs, -, hl, hm, hmm, -, hel⟩
  · simp at hcs
    exact ⟨[], none, 0, hcs, by simp, by simp⟩
  · simp at hcs
    simp only [if_true] at hmm
    subst hmm
    rw [hk] at hel
    obtain ⟨L, hLl, hL⟩ := list_of (P := fun i X => ok X ∧ ∀ j v, (f X)[j]? = some v → W.cell? ((a'.add (i * k)).add j) = some v) len (fun i hi => by
      obtain ⟨cs, hc, htr⟩ := hel i (by omega)
      obtain ⟨-, -, hcell2⟩ := World.cells?_some hc
      obtain ⟨X, hX, e⟩ := hcell n cs _ htr
      refine ⟨X, hX, fun j v hj => ?_⟩
      have hj4 : j < k := by have := (List.getElem?_eq_some_iff.1 hj).1; rwa [hlen] at this
      rw [hcell2 j hj4, e]; exact hj)
    obtain ⟨ab, ao, spot⟩ := a'
    refine ⟨L, some ⟨ab, ao, spot⟩, _, by rw [hLl]; exact hcs, fun X hX => ?_, fun i hi => ?_⟩
    · obtain ⟨i, hi, rfl⟩ := List.mem_iff_getElem.1 hX
      have := (hL i (by omega)).1
      rw [List.getD_eq_getElem?_getD, List.getElem?_eq_getElem hi] at this
      exact this
    · rw [hLl] at hi
      have hc := (hL i hi).2
      have hspot : spot = none := by
        have hlt : 0 < (f (L.getD 0 default)).length := by rw [hlen]; exact hk0
        have h0 := (hL 0 (by omega)).2 0 _ (List.getElem?_eq_getElem hlt)
        simpa [Addr.add] using World.cell?_spot h0
      subst hspot
      refine ⟨ab, ao, rfl, fun j v hj => ?_⟩
      have := hc j v hj
      rw [Addr.add_lit, Addr.add_lit] at this
      exact this
set_option maxRecDepth 100000 in
theorem open_tree {r : Reach} {b0 : Nat} {v : Value} {d : DataW H} {p : List MemPlace} (hv : Value.okWide Tryd.prog W r b0 39 v) (h : DataW.Trod enc Tryd.prog W base (fun _ => true) true 39 v d p) :
    ∃ na pa nc pc N R, v = .agg #[.slice na (List.length N) nc, .slice pa (List.length R) pc] ∧ Uns W na pa nc pc N R := by
  simp only [Value.okWide, Tryd.underlying39] at hv
  obtain ⟨cs, rfl, hsz, -⟩ := hv
  have c2 : Tryd.prog.cellsOf 39 = 2 := by kernel_rfl
  have cn : Tryd.prog.cellsOf 36 = 1 := by kernel_rfl
  have cp : Tryd.prog.cellsOf 37 = 1 := by kernel_rfl
  rw [c2] at hsz
  obtain ⟨l⟩ := cs
  match l, hsz with
  | [a0, a1], _ =>
    obtain ⟨fuel, hf⟩ := h
    obtain ⟨y0, y1, m, -, -, h0, h1⟩ := trod_struct2 Tryd.underlying39 hf
    rw [cn] at h0
    rw [cp] at h1
    simp only [Value.cells, List.drop_succ_cons, List.drop_zero, List.take_succ_cons, List.take_zero] at h0 h1
    obtain ⟨N, na, nc, rfl, hN1, hN2⟩ := rows_of (α := Nd) nd9 NdOk 9 (by kernel_rfl) (by decide) nd9_len Tryd.underlying36 (fun n cs x hx => node_cells hx) h0
    obtain ⟨R, pa, pc, rfl, hR1, hR2⟩ := rows_of (α := Int × Bool) pt2 (fun X => I64 X.1) 2 (by kernel_rfl) (by decide) pt2_len Tryd.underlying37 (fun n cs x hx => part_cells hx) h1
    refine ⟨na, pa, nc, pc, N, R, rfl, fun hg => ?_⟩
    unfold greatB at hg
    rw [Bool.or_eq_false_iff] at hg
    have g1 := of_decide_eq_false hg.1
    have g2 := of_decide_eq_false hg.2
    exact ⟨⟨hN1, by omega, na, nc, rfl, hN2⟩, ⟨hR1, by omega, pa, pc, rfl, hR2⟩⟩
end
end Go.Proofs.YtcgllipcnmlkbaaDoor
