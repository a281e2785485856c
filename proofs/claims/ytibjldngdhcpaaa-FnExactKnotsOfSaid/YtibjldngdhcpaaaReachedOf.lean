/-
  Contract of the program's ReachedOf.
-/
import Derived.Test.YtibjldngdhcpaaaReachedNodes
import Derived.Test.YtibjldngdhcpaaaSpecReached
namespace Go.Proofs.Ytibjldngdhcpaaa
open Go.RowKit Go.Sort

theorem reachS_lt (g : List Bl) : ∀ i ∈ reachS g, i < g.length := srt_lt (g := g) (l := reach g) (Nat.le_refl _)

end Go.Proofs.Ytibjldngdhcpaaa
