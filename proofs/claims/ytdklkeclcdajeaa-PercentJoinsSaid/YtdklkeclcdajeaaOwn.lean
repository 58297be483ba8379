/- Two closed facts of the program that the rows' steps ask. -/
import Derived.Test.YtdklkeclcdajeaaOpen
namespace Go.Proofs.Ytdklkeclcdajeaa
theorem own : ownKnob Try.prog.godebug = none := by kernel_rfl
theorem laidOut : laidOutB Try.prog = true := by kernel_rfl
end Go.Proofs.Ytdklkeclcdajeaa
