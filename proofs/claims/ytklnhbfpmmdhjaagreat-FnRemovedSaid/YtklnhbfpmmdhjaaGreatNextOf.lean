/-
  Contracts of NextOf, the program's and the model's.
-/
import Derived.Test.YtklnhbfpmmdhjaaGreatNodes
namespace Go.Proofs.YtklnhbfpmmdhjaaGreat
open Go.RowKit Go.Sort


end Go.Proofs.YtklnhbfpmmdhjaaGreat
