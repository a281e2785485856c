import Derived.Test.YtlkfakdghjaoaaaGreatDoorMadeLeaves
import Derived.Test.YtlkfakdghjaoaaaGreatDoorMadePart
import Derived.Test.YtlkfakdghjaoaaaGreatDoorNeeded
import Derived.Test.YtlkfakdghjaoaaaGreatDoorOrderCount
namespace Go.Proofs.YtlkfakdghjaoaaaGreatDoor
open Go.RowKit Go.Sort
theorem Gq {g : List Bl} (hb : aY g = true) : fi g = [((ak g).length : Int), ((aL g).length : Int), ((ce 94 (iR g) : Nat) : Int)] := by
 have h := rX hb
 unfold fi
 rw [if_pos hb, io h rfl (by decide), io h rfl (by decide), io h rfl (by decide), Dp hb, zF hb]
theorem Di {α : Type} {l : List α} {k : Nat} (h : k < l.length) (q : α → Bool) : (l.take (k + 1)).countP q = (l.take k).countP q + (if q l[k] = true then 1 else 0) := by
 rw [List.take_succ_eq_append_getElem h, List.countP_append, List.countP_singleton]
end Go.Proofs.YtlkfakdghjaoaaaGreatDoor
