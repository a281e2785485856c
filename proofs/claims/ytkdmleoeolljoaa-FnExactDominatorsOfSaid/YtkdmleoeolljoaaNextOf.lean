/-
  Contracts of NextOf, the program's and the model's.
-/
import Derived.Test.YtkdmleoeolljoaaNodes
namespace Go.Proofs.Ytkdmleoeolljoaa
open Go.RowKit Go.Sort


end Go.Proofs.Ytkdmleoeolljoaa
