/- Several texts in one. -/
import Derived.Test.YtlbaecjmfgahgaaDoorPrC
import Derived.Test.YtlbaecjmfgahgaaDoorOct3
import Derived.Test.YtlbaecjmfgahgaaDoorRows
import Derived.Lay
import Derived.Lib.LaidU8
import Derived.MakeChecks
import Derived.OpenShut
namespace Go.Proofs.YtlbaecjmfgahgaaDoor
theorem own : ownKnob Tryd.prog.godebug = none := by kernel_rfl
theorem laidOut : laidOutB Tryd.prog = true := by kernel_rfl
end Go.Proofs.YtlbaecjmfgahgaaDoor
namespace Go.Proofs.YtlbaecjmfgahgaaDoor
open Go.ChangeShapes Go.WideShapes Go.ChangeAt Go.WideMaps Go.WideElems Go.RowKit Sets
def laidT : List (String × DataW Unit) := Rows.nfaTrimsRow.laid
theorem laid_list : (Rows.laid_math_bits_deBruijn64tab : DataW Unit) = .agg (Lib.deBruijn64tab.map fun (n : Nat) => .lit (.int .u8 n)) := rfl
theorem of_laid {W : World} (h : laidMetH Tryd.prog laidT W) : Tab W := by
  rw [MakeChecks.laidMetH_plain _ _ _ (by kernel_rfl)] at h
  have hu := Lib.laidMet.reads h (n := "math/bits.deBruijn64tab") (d := Rows.laid_math_bits_deBruijn64tab) (by unfold laidT Rows.nfaTrimsRow; simp)
  obtain ⟨g0, t0, cs0, f0, p0, hg0, ht0, hv0, hd0⟩ := hu
  obtain rfl := Option.some.inj ((show Tryd.prog.globalNamed "math/bits.deBruijn64tab" = some 0 by kernel_rfl).symm.trans hg0)
  obtain rfl := Option.some.inj ((show (Tryd.prog.globals[0]?).map (·.type) = some 84 by kernel_rfl).symm.trans ht0)
  have ce : Tryd.prog.cellsOf 5 = 1 := by kernel_rfl
  have hcell := fun j => World.var?_cell hg0 hv0 j
  rw [laid_list] at hd0
  intro i hi
  have hi64 : i < 64 := hi
  obtain ⟨fu, d, q, hd1, hd2⟩ := Lib.array_elem Tryd.underlying84 hd0 i hi64
  rw [ce] at hd2
  rw [List.getElem?_map, List.getElem?_eq_getElem hi] at hd1
  simp only [Option.map_some, Option.some.injEq] at hd1
  subst hd1
  obtain ⟨n, e1, e2, -⟩ := DataW.trod_int Tryd.underlying5 hd2
  simp only [Prod.mk.injEq, DataW.lit.injEq, Lit.int.injEq] at e2
  have e0 := congrArg (·[0]?) e1
  simp [List.getElem?_drop] at e0
  rw [hcell, List.getD_eq_getElem?_getD, List.getElem?_eq_getElem hi, Option.getD_some, e2.1.2]
  simpa using e0
end Go.Proofs.YtlbaecjmfgahgaaDoor
