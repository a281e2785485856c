import Derived.Test.YtlkfakdghjaoaaaGreatDoorMadeLen
namespace Go.Proofs.YtlkfakdghjaoaaaGreatDoor
open Go.RowKit Go.Sort
end Go.Proofs.YtlkfakdghjaoaaaGreatDoor
