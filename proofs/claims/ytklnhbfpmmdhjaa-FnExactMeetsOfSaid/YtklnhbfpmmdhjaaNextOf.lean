/-
  Contracts of NextOf, the program's and the model's.
-/
import Derived.Test.YtklnhbfpmmdhjaaNodes
namespace Go.Proofs.Ytklnhbfpmmdhjaa
open Go.RowKit Go.Sort


end Go.Proofs.Ytklnhbfpmmdhjaa
