/-
  Contracts of NextOf, the program's and the model's.
-/
import Derived.Test.YtdolbmonmkjajaaNodes
namespace Go.Proofs.Ytdolbmonmkjajaa
open Go.RowKit Go.Sort


end Go.Proofs.Ytdolbmonmkjajaa
