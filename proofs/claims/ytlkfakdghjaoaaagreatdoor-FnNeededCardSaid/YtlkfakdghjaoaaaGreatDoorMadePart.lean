import Derived.Test.YtlkfakdghjaoaaaGreatDoorMadeParts
import Derived.Laws.ResultCell
import Derived.Laws.Rows
namespace Go.Proofs.YtlkfakdghjaoaaaGreatDoor
open Go.RowKit Go.Sort Go.Shelf Go.Maps Go.WideMaps
attribute [local go_sem] Oper.semAt_some
end Go.Proofs.YtlkfakdghjaoaaaGreatDoor
