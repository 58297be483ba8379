/- What the rows' listed variables give the walks: strconv's tables. -/
import Derived.Test.YtkodhaapllmdhaaDoorStr0
import Derived.Test.YtkodhaapllmdhaaDoorRows
import Derived.Test.YtkodhaapllmdhaaDoorOpen
import Derived.Test.YtkodhaapllmdhaaDoorOwn
import Derived.Lay
import Derived.Lib.LaidU8
import Derived.MakeChecks
import Derived.OpenShut
namespace Go.Proofs.YtkodhaapllmdhaaDoor
open Go.ChangeShapes Go.WideShapes Go.ChangeAt Go.WideMaps Go.WideElems Go.RowKit
def laidT : List (String × DataW Unit) := Rows.tallyTotalRow.laid
theorem laid_pow : Rows.laid_internal_strconv_pow10Tab = .agg (Go.Pinned.pow10Rows.map fun x => (DataW.agg [.lit (.int .u64 x.1), .lit (.int .u64 x.2)] : DataW Unit)) := rfl
def tens : List Nat := [1, 10, 100, 1000, 10000, 100000, 1000000, 10000000, 100000000, 1000000000, 10000000000, 100000000000, 1000000000000, 10000000000000, 100000000000000, 1000000000000000, 10000000000000000, 100000000000000000, 1000000000000000000, 10000000000000000000]
theorem laid_tens : (Rows.laid_internal_strconv_uint64pow10 : DataW Unit) = .agg (tens.map fun (n : Nat) => .lit (.int .u64 n)) := rfl
theorem tens_at : ∀ i, i < 20 → tens[i]? = some (10 ^ i) := by decide +kernel
theorem of_laid {W : World} (h : laidMetH Tryd.prog laidT W) : Tabs W := by
  rw [MakeChecks.laidMetH_plain _ _ _ (by kernel_rfl)] at h
  have hu := Lib.laidMet.reads h (n := "internal/strconv.uint64pow10") (d := Rows.laid_internal_strconv_uint64pow10) (by unfold laidT Rows.tallyTotalRow; simp)
  have hp := Lib.laidMet.reads h (n := "internal/strconv.pow10Tab") (d := Rows.laid_internal_strconv_pow10Tab) (by unfold laidT Rows.tallyTotalRow; simp)
  have hpow : ∀ i, i < 696 → W.cell? ⟨3, i * 2, none⟩ = some (.int .u64 (pwHi i : Int)) ∧ W.cell? ⟨3, i * 2 + 1, none⟩ = some (.int .u64 (pwLo i : Int)) := by
    obtain ⟨g0, t0, cs0, f0, p0, hg0, ht0, hv0, hd0⟩ := hp
    obtain rfl := Option.some.inj ((show Tryd.prog.globalNamed "internal/strconv.pow10Tab" = some 3 by kernel_rfl).symm.trans hg0)
    obtain rfl := Option.some.inj ((show (Tryd.prog.globals[3]?).map (·.type) = some 120 by kernel_rfl).symm.trans ht0)
    have ce : Tryd.prog.cellsOf 119 = 2 := by kernel_rfl
    have hcell := fun j => World.var?_cell hg0 hv0 j
    rw [laid_pow] at hd0
    intro i hi
    obtain ⟨fu, d, q, hd1, hd2⟩ := Lib.array_elem Tryd.underlying120 hd0 i hi
    rw [ce] at hd2
    have hdi : d = .agg ([((pwHi i : Nat) : Int), ((pwLo i : Nat) : Int)].map fun z => .lit (.int .u64 z)) := by
      rw [List.getElem?_map] at hd1
      unfold pwHi pwLo
      rw [List.getD_eq_getElem?_getD]
      cases hq : Go.Pinned.pow10Rows[i]? with
      | none => rw [hq] at hd1; simp at hd1
      | some x => rw [hq] at hd1; simpa using hd1.symm
    rw [hdi] at hd2
    have hcs := Lib.ints_of_struct (k := .u64) Tryd.underlying119 (fun i f hf => by
      have hi2 : i < 2 := by
        have := (Array.getElem?_eq_some_iff.1 hf).1
        simpa using this
      have : i = 0 ∨ i = 1 := by omega
      rcases this with rfl | rfl
      · simp at hf; subst hf; exact ⟨Tryd.underlying42, rfl, by kernel_rfl⟩
      · simp at hf; subst hf; exact ⟨Tryd.underlying42, rfl, by kernel_rfl⟩) (by kernel_rfl) hd2
    have e0 := congrArg (·[0]?) hcs
    have e1 := congrArg (·[1]?) hcs
    simp [List.getElem?_drop] at e0 e1
    rw [hcell, hcell]
    exact ⟨by simpa using e0, by simpa using e1⟩
  refine ⟨fun i hi => (hpow i hi).1, fun i hi => (hpow i hi).2, ?_⟩
  obtain ⟨g0, t0, cs0, f0, p0, hg0, ht0, hv0, hd0⟩ := hu
  obtain rfl := Option.some.inj ((show Tryd.prog.globalNamed "internal/strconv.uint64pow10" = some 2 by kernel_rfl).symm.trans hg0)
  obtain rfl := Option.some.inj ((show (Tryd.prog.globals[2]?).map (·.type) = some 108 by kernel_rfl).symm.trans ht0)
  have ce : Tryd.prog.cellsOf 42 = 1 := by kernel_rfl
  have hcell := fun j => World.var?_cell hg0 hv0 j
  rw [laid_tens] at hd0
  intro i hi
  obtain ⟨fu, d, q, hd1, hd2⟩ := Lib.array_elem Tryd.underlying108 hd0 i hi
  rw [ce] at hd2
  rw [List.getElem?_map, tens_at i hi] at hd1
  simp only [Option.map_some, Option.some.injEq] at hd1
  subst hd1
  obtain ⟨n, e1, e2, -⟩ := DataW.trod_int Tryd.underlying42 hd2
  simp only [Prod.mk.injEq, DataW.lit.injEq, Lit.int.injEq] at e2
  have e0 := congrArg (·[0]?) e1
  simp [List.getElem?_drop] at e0
  rw [hcell, e2.1.2]
  simpa using e0
end Go.Proofs.YtkodhaapllmdhaaDoor
