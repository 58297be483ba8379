/- Two closed facts of the program that the rows' steps ask. -/
import Derived.Test.YtkpdggemhjhnbaaDoorOpen
namespace Go.Proofs.YtkpdggemhjhnbaaDoor
theorem own : ownKnob Tryd.prog.godebug = none := by kernel_rfl
theorem laidOut : laidOutB Tryd.prog = true := by kernel_rfl
end Go.Proofs.YtkpdggemhjhnbaaDoor
