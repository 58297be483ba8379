/- What the rows' one listed variable, the library's table, gives the walks. -/
import Derived.Test.YtdhnaldjofpeeaaDoorOpen
import Derived.Test.YtdhnaldjofpeeaaDoorOct3
namespace Go.Proofs.YtdhnaldjofpeeaaDoor
open Go.ChangeShapes Go.WideShapes Go.ChangeAt Go.WideMaps Go.WideElems Go.RowKit Sets
theorem own : ownKnob Tryd.prog.godebug = none := by kernel_rfl
theorem laidOut : laidOutB Tryd.prog = true := by kernel_rfl
theorem gTab : Tryd.prog.globalNamed "math/bits.deBruijn64tab" = some 0 := by kernel_rfl
theorem tTab : (Tryd.prog.globals[0]?).map (·.type) = some 69 := by kernel_rfl
theorem laid_list {H : Type} : (Rows.laid_math_bits_deBruijn64tab : DataW H) = .agg (Lib.deBruijn64tab.map fun (n : Nat) => .lit (.int .u8 n)) := rfl
def laidT : {H : Type} → List (String × DataW H) := fun {_} => [("math/bits.deBruijn64tab", Rows.laid_math_bits_deBruijn64tab)]
theorem door_met (os : Os) (args : Array Value) : laidMetH Tryd.prog laidT ((World.doorLaid Tryd.prog 400 os).forCall (fun _ _ => 0) ⟨#[], args, []⟩).memory :=
  laidMetH_of_parts3 (fuel := 8) (laidMet_of_run' 8 (by kernel_rfl) (by kernel_rfl)) (by kernel_rfl) (by kernel_rfl)
theorem of_laid {W : World} (h : laidMetH Tryd.prog laidT W) : Tab W ∧ 0 < W.heap.size := by
  rw [MakeChecks.laidMetH_plain _ _ _ (by kernel_rfl)] at h
  obtain ⟨ps, ⟨g0, t0, cs0, f0, p0, q0, hg0, ht0, hv0, hd0, -, -⟩, -, -⟩ := h
  obtain rfl := Option.some.inj (gTab.symm.trans hg0)
  obtain rfl := Option.some.inj (tTab.symm.trans ht0)
  obtain ⟨xs, m1, rfl, hx1, hlen, hn, hel⟩ := DataW.trod_array Tryd.underlying69 hd0
  have ce : Tryd.prog.cellsOf 5 = 1 := by kernel_rfl
  simp only [Prod.mk.injEq] at hx1
  have hx2 := hx1.1
  rw [laid_list, DataW.agg.injEq] at hx2
  rw [ce] at hel
  have key : Tab W := by
    intro j hj
    have hj64 : j < 64 := hj
    have h1 := hel j hj64
    have hxj : j < xs.length := by omega
    rw [List.getElem?_eq_getElem hxj] at h1
    obtain ⟨n, e1, e2, -⟩ := DataW.trod_int Tryd.underlying5 h1
    have h2 := congrArg (fun l => l[j]?) hx2
    simp only [List.getElem?_map, List.getElem?_eq_getElem hxj, Option.map_some] at h2
    rw [List.getElem?_eq_getElem hj, Option.map_some] at h2
    have h3 := Option.some.inj h2
    rw [e2] at h3
    injection h3 with h3a
    injection h3a with _ h4
    have h5 := World.var?_cell hg0 hv0 j
    rw [Nat.mul_one] at e1
    have h6 : cs0.toList[j]? = some (.int .u8 n) := by
      have := congrArg (fun l => l[0]?) e1
      simpa using this
    rw [List.getD_eq_getElem?_getD, List.getElem?_eq_getElem hj, Option.getD_some, h5]
    rw [← h4] at h6
    exact (by simpa using h6)
  exact ⟨key, World.block_lt_of_cell? _ _ (key 0 (by decide))⟩
end Go.Proofs.YtdhnaldjofpeeaaDoor
