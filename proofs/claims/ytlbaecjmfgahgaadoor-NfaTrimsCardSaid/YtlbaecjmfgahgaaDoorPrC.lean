/- Several texts in one. -/
import Derived.Test.YtlbaecjmfgahgaaDoorRows
import Derived.Test.YtlbaecjmfgahgaaDoorKit
import Derived.Test.YtlbaecjmfgahgaaDoorSets
import Derived.ProofKit
import Derived.LaidMore
import Derived.OpenShut
import Derived.Stop.Joined
import Derived.Carry
import Derived.Laws.IdiomArrays
import Derived.Test.YtlbaecjmfgahgaaDoorNfJ
import Derived.Deep.Slices
namespace Go.Proofs.YtlbaecjmfgahgaaDoor
open Go.ChangeShapes Go.WideShapes Go.ChangeAt Go.WideMaps Go.WideElems Go.RowKit Sets
section
variable {H : Type} {enc : TypeId × Value → H} {P : Program}
theorem TrodAll_stays (hl : laidOutB P = true) {W W' : World} {sp' : Nat → Bool} : ∀ {ts : List TypeId} {vs : List Value} {ds : List (DataW H)} {ps : List MemPlace}, (ts.all fun t => P.readableRec t && decide (t < P.types.size)) = true →
    DataW.TrodAll enc P W 0 (fun _ => true) true ts vs ds ps → (∀ p ∈ ps, W.sameAt W' p) → (∀ p ∈ ps, sp' p.block = true) → DataW.TrodAll enc P W' 0 sp' true ts vs ds ps
  | [], [], [], _, _, h, _, _ => h
  | t :: _, _ :: _, _ :: _, _, hT, ⟨p, q, h1, h2, e⟩, hs, hb => by
    simp only [List.all_cons, Bool.and_eq_true, decide_eq_true_eq] at hT
    subst e
    exact ⟨p, q, Trod_stays hl hT.1.1 hT.1.2 h1 (fun x hx => hs x (List.mem_append_left _ hx)) (fun x hx => hb x (List.mem_append_left _ hx)),
      TrodAll_stays hl hT.2 h2 (fun x hx => hs x (List.mem_append_right _ hx)) (fun x hx => hb x (List.mem_append_right _ hx)), rfl⟩
/-- A law that answers true and leaves what was there: its row's word on what stands behind the call. -/
theorem post_law {f : Func} {s : ChangeSpec} {W W' : World} {args : Array Value} {ds gs : List (DataW H)} {before : List MemPlace} {tb : TypeId}
    (hW : DataW.Whole enc P f.params.toList s.vars false W args.toList ds gs before) (hvars : s.vars = []) (hl : laidOutB P = true)
    (hpar : (f.params.toList.all fun t => P.readableRec t && decide (t < P.types.size)) = true) (hrt : f.resultTypes = #[tb]) (htb : P.underlying tb = some .bool)
    (hfn : s.fn H (ds ++ gs) = { results := [.lit (.bool true)], args := ds }) (hb : Below W.heap.size W W') : s.post enc P f false true false false W args (.bool true) W' := by
  have hlt : ∀ p ∈ before, p.block < W.heap.size := fun p hp => hW.lt p hp
  have hW' := hW
  obtain ⟨p, q, hA, hV, hpq, -, -⟩ := hW'
  rw [hvars] at hV
  obtain ⟨hgs, hq⟩ := trodVars_none hV
  subst hgs hq
  rw [List.append_nil] at hpq
  subst hpq
  refine ⟨ds, [], before, [], before, [], hW, ?_, ?_, ?_, World.keptBut_mono (fun p hp => ⟨hp, .inr (.inl hp)⟩) (hb.frame (· ∈ before)), fun h => by cases h⟩
  · rw [hfn, hrt]; exact trodAll_mk1 (shut_bool htb _)
  · rw [hfn]; exact TrodAll_stays hl hpar hA (fun x hx => hb.same (hlt x hx)) (fun x hx => by simpa using hlt x hx)
  · rw [hfn, hvars]; rfl
end
section
variable {H : Type} {enc : TypeId × Value → H} {W : World} {base : Nat} {spare : Nat → Bool} {held : Bool}
set_option maxRecDepth 100000 in
theorem open_set {r : Reach} {b0 : Nat} {v : Value} {d : DataW H} {p : List MemPlace} (hv : Value.okWide Tryd.prog W r b0 39 v) (h : DataW.Trod enc Tryd.prog W base spare held 39 v d p) :
    ∃ S, S < 2 ^ 256 ∧ v = .agg #[.int .u64 (wd S 0), .int .u64 (wd S 1), .int .u64 (wd S 2), .int .u64 (wd S 3)] := by
  simp only [Value.okWide, Tryd.underlying39] at hv
  obtain ⟨cs, rfl, hsz, -⟩ := hv
  have hc : Tryd.prog.cellsOf 39 = 4 := by kernel_rfl
  have hce : Tryd.prog.cellsOf 37 = 1 := by kernel_rfl
  rw [hc] at hsz
  obtain ⟨l⟩ := cs
  match l, hsz with
  | [c0, c1, c2, c3], _ =>
    obtain ⟨fuel, hf⟩ := h
    obtain ⟨y0, y1, y2, y3, n, -, h0, h1, h2, h3⟩ := trod_array4 Tryd.underlying39 hce hf
    obtain ⟨n0, e0, -, w0⟩ := DataW.trod_int Tryd.underlying37 h0
    obtain ⟨n1, e1, -, w1⟩ := DataW.trod_int Tryd.underlying37 h1
    obtain ⟨n2, e2, -, w2⟩ := DataW.trod_int Tryd.underlying37 h2
    obtain ⟨n3, e3, -, w3⟩ := DataW.trod_int Tryd.underlying37 h3
    have bnd : ∀ n : Int, (Lit.int .u64 n).wf = true → ∃ m : Nat, n = m ∧ m < 2 ^ 64 := by
      intro n hn
      simp [Lit.wf, IntKind.min, IntKind.max, IntKind.signed, IntKind.bits] at hn
      exact ⟨n.toNat, by omega, by omega⟩
    obtain ⟨m0, rfl, l0⟩ := bnd _ w0
    obtain ⟨m1, rfl, l1⟩ := bnd _ w1
    obtain ⟨m2, rfl, l2⟩ := bnd _ w2
    obtain ⟨m3, rfl, l3⟩ := bnd _ w3
    obtain ⟨S, hS, s0, s1, s2, s3⟩ := of_words m0 m1 m2 m3 l0 l1 l2 l3
    simp at e0 e1 e2 e3
    exact ⟨S, hS, by rw [s0, s1, s2, s3, e0, e1, e2, e3]⟩
end
end Go.Proofs.YtlbaecjmfgahgaaDoor
namespace Go.Proofs.YtlbaecjmfgahgaaDoor
open Go.ChangeShapes Go.WideShapes Go.ChangeAt Go.WideMaps Go.WideElems Go.RowKit Sets Nf
namespace Nf
/-- What a law knows of a machine among its arguments. -/
def UnM (w : World) (x : Ma) (m : Mc) : Prop := MAt w x m ∧ (greatM m = false → Fine m)
section
variable {H : Type} {enc : TypeId × Value → H} {W : World} {base : Nat} {spare : Nat → Bool} {held : Bool}
set_option maxRecDepth 100000 in
theorem set_cells {n : Nat} {cs : List Value} {x : DataW H × List MemPlace} (hl : cs.length = 4) (h : DataW.trod enc Tryd.prog W base spare held n 39 cs = some x) :
    ∃ S, S < 2 ^ 256 ∧ ∀ q, q < 4 → cs[q]? = some (.int .u64 (wd S q)) := by
  match cs, hl with
  | [c0, c1, c2, c3], _ =>
    have hce : Tryd.prog.cellsOf 37 = 1 := by kernel_rfl
    obtain ⟨y0, y1, y2, y3, n, -, h0, h1, h2, h3⟩ := trod_array4 Tryd.underlying39 hce h
    obtain ⟨n0, e0, -, w0⟩ := DataW.trod_int Tryd.underlying37 h0
    obtain ⟨n1, e1, -, w1⟩ := DataW.trod_int Tryd.underlying37 h1
    obtain ⟨n2, e2, -, w2⟩ := DataW.trod_int Tryd.underlying37 h2
    obtain ⟨n3, e3, -, w3⟩ := DataW.trod_int Tryd.underlying37 h3
    have bnd : ∀ n : Int, (Lit.int .u64 n).wf = true → ∃ m : Nat, n = m ∧ m < 2 ^ 64 := by
      intro n hn
      simp [Lit.wf, IntKind.min, IntKind.max, IntKind.signed, IntKind.bits] at hn
      exact ⟨n.toNat, by omega, by omega⟩
    obtain ⟨m0, rfl, l0⟩ := bnd _ w0
    obtain ⟨m1, rfl, l1⟩ := bnd _ w1
    obtain ⟨m2, rfl, l2⟩ := bnd _ w2
    obtain ⟨m3, rfl, l3⟩ := bnd _ w3
    obtain ⟨S, hS, s0, s1, s2, s3⟩ := of_words m0 m1 m2 m3 l0 l1 l2 l3
    simp at e0 e1 e2 e3
    refine ⟨S, hS, fun q hq => ?_⟩
    have : q = 0 ∨ q = 1 ∨ q = 2 ∨ q = 3 := by omega
    rcases this with rfl | rfl | rfl | rfl
    · simp [e0, s0]
    · simp [e1, s1]
    · simp [e2, s2]
    · simp [e3, s3]
set_option maxRecDepth 100000 in
theorem list_of {α : Type} [Inhabited α] {P : Nat → α → Prop} : ∀ n, (∀ i, i < n → ∃ S, P i S) → ∃ L : List α, L.length = n ∧ ∀ i, i < n → P i (L.getD i default)
  | 0, _ => ⟨[], rfl, fun i hi => by omega⟩
  | n + 1, h => by
    obtain ⟨L, hl, hL⟩ := list_of n (fun i hi => h i (by omega))
    obtain ⟨S, hS⟩ := h n (by omega)
    refine ⟨L ++ [S], by simp [hl], fun i hi => ?_⟩
    by_cases e : i < n
    · rw [List.getD_eq_getElem?_getD, List.getElem?_append_left (by omega), ← List.getD_eq_getElem?_getD]; exact hL i e
    · have : i = n := by omega
      subst this
      rw [List.getD_eq_getElem?_getD, List.getElem?_append_right (by omega), hl, Nat.sub_self]
      exact hS
set_option maxRecDepth 100000 in
theorem rows_of {e : TypeId} {α : Type} [Inhabited α] (f : α → List Value) (ok : α → Prop) (k : Nat) (hk : Tryd.prog.cellsOf e = k) (hk0 : 0 < k) (hlen : ∀ x, (f x).length = k) {t : TypeId} (ht : Tryd.prog.underlying t = some (.slice e))
    (hcell : ∀ (n : Nat) (cs : List Value) (x : DataW H × List MemPlace), DataW.trod enc Tryd.prog W base (fun _ => true) true n e cs = some x → ∃ X, ok X ∧ cs = f X)
    {fuel : Nat} {cc : List Value} {x : DataW H × List MemPlace} (h : DataW.trod enc Tryd.prog W base (fun _ => true) true fuel t cc = some x) :
    ∃ (L : List α) (a : Option Addr) (cap : Nat), cc = [.slice a L.length cap] ∧ (∀ X ∈ L, ok X) ∧ ∀ i, i < L.length → ∃ b o, a = some ⟨b, o, none⟩ ∧ W.rangeAt b (o + i * k) (f (L.getD i default)) := by
  rcases Deep.open_slice ht h with ⟨hcs, -⟩ | ⟨a', len, cap, m, n, D, Pl, hcs, -, hl, hm, hmm, -, hel⟩
  · exact ⟨[], none, 0, hcs, by simp, by simp⟩
  · simp only [if_true] at hmm
    subst hmm
    rw [hk] at hel
    obtain ⟨L, hLl, hL⟩ := list_of (P := fun i X => ok X ∧ ∀ j v, (f X)[j]? = some v → W.cell? ((a'.add (i * k)).add j) = some v) len (fun i hi => by
      obtain ⟨cs, hc, htr⟩ := hel i (by omega)
      obtain ⟨-, -, hcell2⟩ := World.cells?_some hc
      obtain ⟨X, hX, e⟩ := hcell n cs _ htr
      refine ⟨X, hX, fun j v hj => ?_⟩
      have hj4 : j < k := by have := (List.getElem?_eq_some_iff.1 hj).1; rwa [hlen] at this
      rw [hcell2 j hj4, e]; exact hj)
    obtain ⟨ab, ao, spot⟩ := a'
    refine ⟨L, some ⟨ab, ao, spot⟩, _, by rw [hLl]; exact hcs, fun X hX => ?_, fun i hi => ?_⟩
    · obtain ⟨i, hi, rfl⟩ := List.mem_iff_getElem.1 hX
      have := (hL i (by omega)).1
      rw [List.getD_eq_getElem?_getD, List.getElem?_eq_getElem hi] at this
      exact this
    · rw [hLl] at hi
      have hc := (hL i hi).2
      have hspot : spot = none := by
        have hlt : 0 < (f (L.getD 0 default)).length := by rw [hlen]; exact hk0
        have h0 := (hL 0 (by omega)).2 0 _ (List.getElem?_eq_getElem hlt)
        simpa [Addr.add] using World.cell?_spot h0
      subst hspot
      refine ⟨ab, ao, rfl, fun j v hj => ?_⟩
      have := hc j v hj
      rw [Addr.add_lit, Addr.add_lit] at this
      exact this
theorem i64_ok {n : Int} (h : (Lit.int .i64 n).wf = true) : i64 n := by
  simp [Lit.wf, IntKind.min, IntKind.max, IntKind.signed, IntKind.bits] at h
  exact h
set_option maxRecDepth 100000 in
theorem spot_cells {n : Nat} {cs : List Value} {x : DataW H × List MemPlace} (h : DataW.trod enc Tryd.prog W base spare held n 41 cs = some x) :
    ∃ X : Nat × Nat, (X.1 < 2 ^ 256 ∧ X.2 < 256) ∧ cs = sp5 X := by
  obtain ⟨y0, y1, m, -, hl, h0, h1⟩ := trod_struct2 Tryd.underlying41 h
  have c5 : Tryd.prog.cellsOf 41 = 5 := by kernel_rfl
  have c4 : Tryd.prog.cellsOf 39 = 4 := by kernel_rfl
  have c1 : Tryd.prog.cellsOf 5 = 1 := by kernel_rfl
  rw [c5] at hl
  match cs, hl with
  | [a0, a1, a2, a3, a4], _ =>
    rw [c4] at h0
    rw [c1] at h1
    simp only [List.drop_succ_cons, List.drop_zero, List.take_succ_cons, List.take_zero] at h0 h1
    obtain ⟨S, hS, hq⟩ := set_cells rfl h0
    obtain ⟨n0, e0, -, w0⟩ := DataW.trod_int Tryd.underlying5 h1
    simp [Lit.wf, IntKind.min, IntKind.max, IntKind.signed, IntKind.bits] at w0
    obtain ⟨k, rfl⟩ : ∃ k : Nat, n0 = (k : Int) := ⟨n0.toNat, by omega⟩
    have q0 := hq 0 (by decide)
    have q1 := hq 1 (by decide)
    have q2 := hq 2 (by decide)
    have q3 := hq 3 (by decide)
    simp at e0 q0 q1 q2 q3
    refine ⟨(S, k), ⟨hS, by show k < 256; omega⟩, ?_⟩
    simp [sp5, e0, q0, q1, q2, q3]
set_option maxRecDepth 100000 in
theorem num_cells {n : Nat} {cs : List Value} {x : DataW H × List MemPlace} (h : DataW.trod enc Tryd.prog W base spare held n 3 cs = some x) : ∃ X : Int, i64 X ∧ cs = [.int .i64 X] := by
  obtain ⟨n0, e0, -, w0⟩ := DataW.trod_int Tryd.underlying3 h
  exact ⟨n0, i64_ok w0, e0⟩
set_option maxRecDepth 100000 in
theorem bool_cells {n : Nat} {cs : List Value} {x : DataW H × List MemPlace} (h : DataW.trod enc Tryd.prog W base spare held n 4 cs = some x) : ∃ X : Bool, True ∧ cs = [.bool X] := by
  obtain ⟨b, e0, -⟩ := DataW.trod_bool Tryd.underlying4 h
  exact ⟨b, trivial, e0⟩
set_option maxRecDepth 100000 in
theorem nums_cells {n : Nat} {cs : List Value} {x : DataW H × List MemPlace} (h : DataW.trod enc Tryd.prog W base (fun _ => true) true n 23 cs = some x) :
    ∃ (L : List Int) (a : Option Addr) (cap : Nat), cs = [.slice a L.length cap] ∧ (∀ X ∈ L, i64 X) ∧ NumsIn W a L := by
  obtain ⟨L, a, cap, e, h1, h2⟩ := rows_of (α := Int) (fun X => [.int .i64 X]) i64 1 (by kernel_rfl) (by decide) (fun _ => rfl) Tryd.underlying23 (fun n cs x hx => num_cells hx) h
  refine ⟨L, a, cap, e, h1, fun i hi => ?_⟩
  obtain ⟨b, o, ea, hr⟩ := h2 i hi
  refine ⟨b, o, ea, ?_⟩
  have := hr 0 _ rfl
  simpa using this
set_option maxRecDepth 100000 in
theorem open_mach {r : Reach} {b0 : Nat} {v : Value} {d : DataW H} {p : List MemPlace} (hv : Value.okWide Tryd.prog W r b0 27 v) (h : DataW.Trod enc Tryd.prog W base (fun _ => true) true 27 v d p) :
    ∃ x m, v = .agg (mc x m) ∧ UnM W x m := by
  simp only [Value.okWide, Tryd.underlying27] at hv
  obtain ⟨cs, rfl, hsz, -⟩ := hv
  have c5 : Tryd.prog.cellsOf 27 = 5 := by kernel_rfl
  rw [c5] at hsz
  obtain ⟨l⟩ := cs
  match l, hsz with
  | [a0, a1, a2, a3, a4], _ =>
    obtain ⟨fuel, hf⟩ := h
    obtain ⟨xs, m, -, -, hl, hlen, hff⟩ := DataW.trod_struct Tryd.underlying27 hf
    have cs1 : Tryd.prog.cellsOf 22 = 1 := by kernel_rfl
    have ci1 : Tryd.prog.cellsOf 23 = 1 := by kernel_rfl
    have co1 : Tryd.prog.cellsOf 24 = 1 := by kernel_rfl
    have cb1 : Tryd.prog.cellsOf 25 = 1 := by kernel_rfl
    have cb : Tryd.prog.cellsOf 4 = 1 := by kernel_rfl
    match xs, hlen with
    | [y0, y1, y2, y3, y4], _ =>
      have h0 : DataW.trod enc Tryd.prog W base (fun _ => true) true m 22 (List.take (Tryd.prog.cellsOf 22) (List.drop 0 [a0, a1, a2, a3, a4])) = some y0 := hff 0 _ rfl
      have h1 : DataW.trod enc Tryd.prog W base (fun _ => true) true m 23 (List.take (Tryd.prog.cellsOf 23) (List.drop 1 [a0, a1, a2, a3, a4])) = some y1 := hff 1 _ rfl
      have h2 : DataW.trod enc Tryd.prog W base (fun _ => true) true m 24 (List.take (Tryd.prog.cellsOf 24) (List.drop 2 [a0, a1, a2, a3, a4])) = some y2 := hff 2 _ rfl
      have h3 : DataW.trod enc Tryd.prog W base (fun _ => true) true m 25 (List.take (Tryd.prog.cellsOf 25) (List.drop 3 [a0, a1, a2, a3, a4])) = some y3 := hff 3 _ rfl
      have h4 : DataW.trod enc Tryd.prog W base (fun _ => true) true m 4 (List.take (Tryd.prog.cellsOf 4) (List.drop 4 [a0, a1, a2, a3, a4])) = some y4 := hff 4 _ rfl
      rw [cs1] at h0
      rw [ci1] at h1
      rw [co1] at h2
      rw [cb1] at h3
      rw [cb] at h4
      simp only [List.drop_succ_cons, List.drop_zero, List.take_succ_cons, List.take_zero] at h0 h1 h2 h3 h4
      obtain ⟨S, sa, sc, e0, hS1, hS2⟩ := rows_of (α := Nat × Nat) sp5 (fun X => X.1 < 2 ^ 256 ∧ X.2 < 256) 5 (by kernel_rfl) (by decide) sp5_len Tryd.underlying22 (fun n cs x hx => spot_cells hx) h0
      obtain ⟨F, fa, fc, e1, hF1, hF2⟩ := nums_cells h1
      obtain ⟨O, oa, oc, e2, hO1, hO2⟩ := rows_of (α := List Int × Option Addr × Nat) (fun y => [.slice y.2.1 y.1.length y.2.2]) (fun y => (∀ X ∈ y.1, i64 X) ∧ NumsIn W y.2.1 y.1) 1 (by kernel_rfl) (by decide) (fun _ => rfl) Tryd.underlying24
        (fun n cs x hx => by
          obtain ⟨L, a, cap, e, g1, g2⟩ := nums_cells hx
          exact ⟨(L, a, cap), ⟨g1, g2⟩, e⟩) h2
      obtain ⟨La, la, lc, e3, -, hL2⟩ := rows_of (α := Bool) (fun X => [.bool X]) (fun _ => True) 1 (by kernel_rfl) (by decide) (fun _ => rfl) Tryd.underlying25 (fun n cs x hx => bool_cells hx) h3
      obtain ⟨em, -, e4⟩ := bool_cells h4
      simp only [List.cons.injEq, and_true] at e0 e1 e2 e3 e4
      subst e0 e1 e2 e3 e4
      refine ⟨⟨sa, sc, fa, fc, oa, oc, la, lc⟩, ⟨S, F, O.map (·.1), La, em⟩, ?_, ⟨?_, hF2, ?_, ?_⟩, ?_⟩
      · simp [mc]
      · intro i hi
        obtain ⟨b, o, ea, hr⟩ := hS2 i hi
        exact ⟨b, o, ea, hr⟩
      · intro i hi
        rw [List.length_map] at hi
        obtain ⟨b, o, ea, hr⟩ := hO2 i hi
        have hz := hr 0 _ rfl
        have hg : (O.map (·.1)).getD i [] = (O.getD i default).1 := by
          rw [List.getD_eq_getElem?_getD, List.getElem?_map, List.getD_eq_getElem?_getD, List.getElem?_eq_getElem hi]; rfl
        have hm : O.getD i default ∈ O := by rw [List.getD_eq_getElem?_getD, List.getElem?_eq_getElem hi]; exact List.getElem_mem _
        refine ⟨b, o, (O.getD i default).2.1, (O.getD i default).2.2, ea, ?_, ?_⟩
        · rw [hg]; simpa using hz
        · rw [hg]; exact (hO1 _ hm).2
      · intro i hi
        obtain ⟨b, o, ea, hr⟩ := hL2 i hi
        refine ⟨b, o, ea, ?_⟩
        have := hr 0 _ rfl
        simpa using this
      · intro hg
        unfold greatM at hg
        simp only [Bool.or_eq_false_iff, decide_eq_false_iff_not, List.any_eq_false, decide_eq_true_eq] at hg
        obtain ⟨⟨g1, g2, g3, g4⟩, g5⟩ := hg
        refine ⟨by show S.length ≤ 1000; omega, by show F.length ≤ 1000; omega, by show (O.map (·.1)).length ≤ 1000; omega, by show La.length ≤ 1000; omega, ?_, hF1, hS1⟩
        intro l hl
        refine ⟨by have := g5 l hl; omega, ?_⟩
        obtain ⟨y, hy, rfl⟩ := List.mem_map.1 hl
        exact (hO1 y hy).1
end
end Nf
end Go.Proofs.YtlbaecjmfgahgaaDoor
