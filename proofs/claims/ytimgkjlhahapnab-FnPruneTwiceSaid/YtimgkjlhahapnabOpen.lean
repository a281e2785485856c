/-
  A slice of blocks that came in, opened; the end of a law's row: what is returned is true, and what came in reads as it did.
-/
import Derived.Test.YtimgkjlhahapnabRows
import Derived.Test.YtimgkjlhahapnabGr
import Derived.ProofKit
import Derived.Deep.SlicePairs
namespace Go.Proofs.Ytimgkjlhahapnab
open Go.ChangeShapes Go.WideShapes Go.ChangeAt Go.RowKit Go.Deep

theorem own : ownKnob Try.prog.godebug = none := by kernel_rfl
theorem laidOut : laidOutB Try.prog = true := by kernel_rfl
theorem cellsString : Try.prog.cellsOf 9 = 1 := by kernel_rfl

end Go.Proofs.Ytimgkjlhahapnab
