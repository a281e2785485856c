import Derived.Test.YtlkfakdghjaoaaaGreatDoorLoopMath
import Derived.Test.YtlkfakdghjaoaaaGreatDoorJ15
namespace Go.Proofs.YtlkfakdghjaoaaaGreatDoor
theorem Cy {g : List Bl} (hv : aa g = true) : (af g).length = (aj g).length := by
 have hsn : (aj g).Nodup := List.Pairwise.filter _ List.nodup_range
 exact List.Perm.length_eq ((List.perm_ext_iff_of_nodup (ba hv) hsn).2 fun x => by rw [aD hv, aN hv])
end Go.Proofs.YtlkfakdghjaoaaaGreatDoor
