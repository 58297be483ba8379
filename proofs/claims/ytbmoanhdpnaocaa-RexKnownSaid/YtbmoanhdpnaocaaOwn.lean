/- Two closed facts of the program that the rows' steps ask. -/
import Derived.Test.YtbmoanhdpnaocaaOpen
namespace Go.Proofs.Ytbmoanhdpnaocaa
theorem own : ownKnob Try.prog.godebug = none := by kernel_rfl
theorem laidOut : laidOutB Try.prog = true := by kernel_rfl
end Go.Proofs.Ytbmoanhdpnaocaa
