/-
  Contracts of NextOf, the program's and the model's.
-/
import Derived.Test.YtgkamcnbpiipoaaGreatNodes
namespace Go.Proofs.YtgkamcnbpiipoaaGreat
open Go.RowKit Go.Sort


end Go.Proofs.YtgkamcnbpiipoaaGreat
