/-
  Contracts of FormatGraph, the program's and the model's.
-/
import Derived.Test.YtgebedbankibmaaGreatDoorNodes
import Derived.Deep.RegionHeld3
import Derived.Lib.Join
namespace Go.Proofs.YtgebedbankibmaaGreatDoor
open Go.RowKit Go.Sort

def mark (next : ByteArray) : ByteArray := if next.size = 1 then ⟨#[62]⟩ else if next.size = 2 then ⟨#[63]⟩ else ⟨#[46]⟩

def part (b : Bl) : ByteArray := b.1 ++ mark b.2 ++ b.2

/-- While the parts are written: the first k are there. -/
structure Parts (w : World) (PB : Nat) (g : List Bl) (k : Nat) : Prop where
  row : ∃ cs, Blk w PB 9 cs ∧ cs.size = g.length ∧ ∀ i (h : i < g.length), i < k → cs[i]? = some (.string (part g[i]))

theorem Parts.below {w w' : World} {PB : Nat} {g : List Bl} {k : Nat} (h : Parts w PB g k) (hb : Below w.heap.size w w') : Parts w' PB g k := by
  obtain ⟨cs, hbk, hr⟩ := h.row
  exact ⟨cs, hbk.below hb hbk.lt, hr⟩

theorem Parts.step {w : World} {PB : Nat} {g : List Bl} {k : Nat} {s : ByteArray} (h : Parts w PB g k) (hk : k < g.length) (hs : part g[k] = s) : Parts (w.setCell ⟨PB, k, none⟩ (.string s)) PB g (k + 1) := by
  obtain ⟨cs, hbk, hsz, hr⟩ := h.row
  refine ⟨_, hbk.set_ k _, by simpa using hsz, fun i hi hik => ?_⟩
  rw [Array.getElem?_setIfInBounds]
  by_cases e : k = i
  · subst e; rw [if_pos rfl, if_pos (by omega), hs]
  · rw [if_neg e]; exact hr i hi (by omega)

end Go.Proofs.YtgebedbankibmaaGreatDoor

/-
  Contracts of NextOf, the program's and the model's.
-/
namespace Go.Proofs.YtgebedbankibmaaGreatDoor
open Go.RowKit Go.Sort


end Go.Proofs.YtgebedbankibmaaGreatDoor
