/-
  Contracts of NextOf, the program's and the model's.
-/
import Derived.Test.YtgkamcnbpiipoaaNodes
namespace Go.Proofs.Ytgkamcnbpiipoaa
open Go.RowKit Go.Sort


end Go.Proofs.Ytgkamcnbpiipoaa
