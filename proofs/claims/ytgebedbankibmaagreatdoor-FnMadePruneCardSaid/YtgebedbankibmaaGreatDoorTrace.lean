/-
  Contracts of IsTrace, the program's and the model's.
-/
import Derived.Test.YtgebedbankibmaaGreatDoorSpecRun
import Derived.Test.YtgebedbankibmaaGreatDoorNextOf
import Derived.Test.YtgebedbankibmaaGreatDoorSpecReached
namespace Go.Proofs.YtgebedbankibmaaGreatDoor
open Go.RowKit Go.Sort

/-- Of some blocks, the one with this name. -/
def named (g : List Bl) (cs : List Nat) (s : ByteArray) : Option Nat := cs.find? fun i => decide (nthName g i = s)

/-- A slice of nodes by their numbers. -/
def PtsI (w : World) (A : Option Addr) (NB : Nat) (cs : List Nat) : Prop :=
  0 < cs.length → ∃ b off, A = some ⟨b, off, none⟩ ∧ b < w.heap.size ∧ ∀ k (h : k < cs.length), w.cell? ⟨b, off + k, none⟩ = some (nptr NB cs[k])

end Go.Proofs.YtgebedbankibmaaGreatDoor
