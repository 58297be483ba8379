/- Several texts in one. -/
import Derived.Test.YtlbaecjmfgahgaaDoorRows
import Derived.Test.YtlbaecjmfgahgaaDoorKit
import Derived.Test.YtlbaecjmfgahgaaDoorSets
import Derived.ProofKit
import Derived.LaidMore
import Derived.OpenShut
import Derived.Stop.Joined
import Derived.Carry
import Derived.Laws.IdiomArrays
import Derived.Test.YtlbaecjmfgahgaaDoorOct3
import Derived.Lay
import Derived.Lib.LaidU8
import Derived.MakeChecks
namespace Go.Proofs.YtlbaecjmfgahgaaDoor
open Go.ChangeShapes Go.WideShapes Go.ChangeAt Go.WideMaps Go.WideElems Go.RowKit Sets
section
variable {H : Type} {enc : TypeId × Value → H} {P : Program}
theorem TrodAll_stays (hl : laidOutB P = true) {W W' : World} {sp' : Nat → Bool} : ∀ {ts : List TypeId} {vs : List Value} {ds : List (DataW H)} {ps : List MemPlace}, (ts.all fun t => P.readableRec t && decide (t < P.types.size)) = true →
    DataW.TrodAll enc P W 0 (fun _ => true) true ts vs ds ps → (∀ p ∈ ps, W.sameAt W' p) → (∀ p ∈ ps, sp' p.block = true) → DataW.TrodAll enc P W' 0 sp' true ts vs ds ps
  | [], [], [], _, _, h, _, _ => h
  | t :: _, _ :: _, _ :: _, _, hT, ⟨p, q, h1, h2, e⟩, hs, hb => by
    simp only [List.all_cons, Bool.and_eq_true, decide_eq_true_eq] at hT
    subst e
    exact ⟨p, q, Trod_stays hl hT.1.1 hT.1.2 h1 (fun x hx => hs x (List.mem_append_left _ hx)) (fun x hx => hb x (List.mem_append_left _ hx)),
      TrodAll_stays hl hT.2 h2 (fun x hx => hs x (List.mem_append_right _ hx)) (fun x hx => hb x (List.mem_append_right _ hx)), rfl⟩
/-- A law that answers true and leaves what was there: its row's word on what stands behind the call. -/
theorem post_law {f : Func} {s : ChangeSpec} {W W' : World} {args : Array Value} {ds gs : List (DataW H)} {before : List MemPlace} {tb : TypeId}
    (hW : DataW.Whole enc P f.params.toList s.vars false W args.toList ds gs before) (hvars : s.vars = []) (hl : laidOutB P = true)
    (hpar : (f.params.toList.all fun t => P.readableRec t && decide (t < P.types.size)) = true) (hrt : f.resultTypes = #[tb]) (htb : P.underlying tb = some .bool)
    (hfn : s.fn H (ds ++ gs) = { results := [.lit (.bool true)], args := ds }) (hb : Below W.heap.size W W') : s.post enc P f false true false false W args (.bool true) W' := by
  have hlt : ∀ p ∈ before, p.block < W.heap.size := fun p hp => hW.lt p hp
  have hW' := hW
  obtain ⟨p, q, hA, hV, hpq, -, -⟩ := hW'
  rw [hvars] at hV
  obtain ⟨hgs, hq⟩ := trodVars_none hV
  subst hgs hq
  rw [List.append_nil] at hpq
  subst hpq
  refine ⟨ds, [], before, [], before, [], hW, ?_, ?_, ?_, World.keptBut_mono (fun p hp => ⟨hp, .inr (.inl hp)⟩) (hb.frame (· ∈ before)), fun h => by cases h⟩
  · rw [hfn, hrt]; exact trodAll_mk1 (shut_bool htb _)
  · rw [hfn]; exact TrodAll_stays hl hpar hA (fun x hx => hb.same (hlt x hx)) (fun x hx => by simpa using hlt x hx)
  · rw [hfn, hvars]; rfl
end
section
variable {H : Type} {enc : TypeId × Value → H} {W : World} {base : Nat} {spare : Nat → Bool} {held : Bool}
set_option maxRecDepth 100000 in
theorem open_set {r : Reach} {b0 : Nat} {v : Value} {d : DataW H} {p : List MemPlace} (hv : Value.okWide Tryd.prog W r b0 39 v) (h : DataW.Trod enc Tryd.prog W base spare held 39 v d p) :
    ∃ S, S < 2 ^ 256 ∧ v = .agg #[.int .u64 (wd S 0), .int .u64 (wd S 1), .int .u64 (wd S 2), .int .u64 (wd S 3)] := by
  simp only [Value.okWide, Tryd.underlying39] at hv
  obtain ⟨cs, rfl, hsz, -⟩ := hv
  have hc : Tryd.prog.cellsOf 39 = 4 := by kernel_rfl
  have hce : Tryd.prog.cellsOf 37 = 1 := by kernel_rfl
  rw [hc] at hsz
  obtain ⟨l⟩ := cs
  match l, hsz with
  | [c0, c1, c2, c3], _ =>
    obtain ⟨fuel, hf⟩ := h
    obtain ⟨y0, y1, y2, y3, n, -, h0, h1, h2, h3⟩ := trod_array4 Tryd.underlying39 hce hf
    obtain ⟨n0, e0, -, w0⟩ := DataW.trod_int Tryd.underlying37 h0
    obtain ⟨n1, e1, -, w1⟩ := DataW.trod_int Tryd.underlying37 h1
    obtain ⟨n2, e2, -, w2⟩ := DataW.trod_int Tryd.underlying37 h2
    obtain ⟨n3, e3, -, w3⟩ := DataW.trod_int Tryd.underlying37 h3
    have bnd : ∀ n : Int, (Lit.int .u64 n).wf = true → ∃ m : Nat, n = m ∧ m < 2 ^ 64 := by
      intro n hn
      simp [Lit.wf, IntKind.min, IntKind.max, IntKind.signed, IntKind.bits] at hn
      exact ⟨n.toNat, by omega, by omega⟩
    obtain ⟨m0, rfl, l0⟩ := bnd _ w0
    obtain ⟨m1, rfl, l1⟩ := bnd _ w1
    obtain ⟨m2, rfl, l2⟩ := bnd _ w2
    obtain ⟨m3, rfl, l3⟩ := bnd _ w3
    obtain ⟨S, hS, s0, s1, s2, s3⟩ := of_words m0 m1 m2 m3 l0 l1 l2 l3
    simp at e0 e1 e2 e3
    exact ⟨S, hS, by rw [s0, s1, s2, s3, e0, e1, e2, e3]⟩
end
end Go.Proofs.YtlbaecjmfgahgaaDoor
namespace Go.Proofs.YtlbaecjmfgahgaaDoor
theorem own : ownKnob Tryd.prog.godebug = none := by kernel_rfl
theorem laidOut : laidOutB Tryd.prog = true := by kernel_rfl
end Go.Proofs.YtlbaecjmfgahgaaDoor
namespace Go.Proofs.YtlbaecjmfgahgaaDoor
open Go.ChangeShapes Go.WideShapes Go.ChangeAt Go.WideMaps Go.WideElems Go.RowKit Sets
def laidT : List (String × DataW Unit) := Rows.nfaTrimsRow.laid
theorem laid_list : (Rows.laid_math_bits_deBruijn64tab : DataW Unit) = .agg (Lib.deBruijn64tab.map fun (n : Nat) => .lit (.int .u8 n)) := rfl
theorem of_laid {W : World} (h : laidMetH Tryd.prog laidT W) : Tab W := by
  rw [MakeChecks.laidMetH_plain _ _ _ (by kernel_rfl)] at h
  have hu := Lib.laidMet.reads h (n := "math/bits.deBruijn64tab") (d := Rows.laid_math_bits_deBruijn64tab) (by unfold laidT Rows.nfaTrimsRow; simp)
  obtain ⟨g0, t0, cs0, f0, p0, hg0, ht0, hv0, hd0⟩ := hu
  obtain rfl := Option.some.inj ((show Tryd.prog.globalNamed "math/bits.deBruijn64tab" = some 0 by kernel_rfl).symm.trans hg0)
  obtain rfl := Option.some.inj ((show (Tryd.prog.globals[0]?).map (·.type) = some 84 by kernel_rfl).symm.trans ht0)
  have ce : Tryd.prog.cellsOf 5 = 1 := by kernel_rfl
  have hcell := fun j => World.var?_cell hg0 hv0 j
  rw [laid_list] at hd0
  intro i hi
  have hi64 : i < 64 := hi
  obtain ⟨fu, d, q, hd1, hd2⟩ := Lib.array_elem Tryd.underlying84 hd0 i hi64
  rw [ce] at hd2
  rw [List.getElem?_map, List.getElem?_eq_getElem hi] at hd1
  simp only [Option.map_some, Option.some.injEq] at hd1
  subst hd1
  obtain ⟨n, e1, e2, -⟩ := DataW.trod_int Tryd.underlying5 hd2
  simp only [Prod.mk.injEq, DataW.lit.injEq, Lit.int.injEq] at e2
  have e0 := congrArg (·[0]?) e1
  simp [List.getElem?_drop] at e0
  rw [hcell, List.getD_eq_getElem?_getD, List.getElem?_eq_getElem hi, Option.getD_some, e2.1.2]
  simpa using e0
end Go.Proofs.YtlbaecjmfgahgaaDoor
