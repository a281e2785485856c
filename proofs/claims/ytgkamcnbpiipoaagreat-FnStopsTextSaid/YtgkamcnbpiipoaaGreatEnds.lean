/-
  The end of a law's row: what is closed, and a slice of bytes that came in, opened; for seats without graphs.
-/
import Derived.Test.YtgkamcnbpiipoaaGreatBase
import Derived.Test.YtgkamcnbpiipoaaGreatRows
import Derived.ProofKit
import Derived.ChangeSlices
import Derived.Deep.SlicePairs
namespace Go.Proofs.YtgkamcnbpiipoaaGreat
open Go.ChangeShapes Go.WideShapes Go.ChangeAt Go.RowKit Go.Deep Go.Sort

theorem own5 : ownKnob Tryz.prog.godebug = none := by kernel_rfl
theorem laidOut5 : laidOutB Tryz.prog = true := by kernel_rfl
end Go.Proofs.YtgkamcnbpiipoaaGreat
