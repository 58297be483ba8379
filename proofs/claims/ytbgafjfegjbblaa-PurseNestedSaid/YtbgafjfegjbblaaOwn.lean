/- Two closed facts of the program that the rows' steps ask. -/
import Derived.Test.YtbgafjfegjbblaaOpen
namespace Go.Proofs.Ytbgafjfegjbblaa
theorem own : ownKnob Try.prog.godebug = none := by kernel_rfl
theorem laidOut : laidOutB Try.prog = true := by kernel_rfl
end Go.Proofs.Ytbgafjfegjbblaa
