/-
  Contracts of NextOf, the program's and the model's.
-/
import Derived.Test.YtdolbmonmkjajaaGreatNodes
namespace Go.Proofs.YtdolbmonmkjajaaGreat
open Go.RowKit Go.Sort


end Go.Proofs.YtdolbmonmkjajaaGreat
