/-
  Contracts of the program's WayTo, StopsWith and CanStop.
-/
import Derived.Test.YtklnhbfpmmdhjabGreatWaysFrom
import Derived.Test.YtklnhbfpmmdhjabGreatSpecWays
namespace Go.Proofs.YtklnhbfpmmdhjabGreat
open Go.RowKit Go.Sort Go.Shelf

theorem is_stop (w : World) : (Instr.typeAssert (.iface 158 (.agg #[])) 72 158 true).run Tryz.prog w = .ok (.tuple #[.agg #[], .bool true]) w := by kernel_rfl
theorem jump_no_stop (u : Value) (w : World) : (Instr.typeAssert (.iface 132 (.agg #[u])) 72 158 true).run Tryz.prog w = .ok (.tuple #[.agg #[], .bool false]) w := by kernel_rfl
theorem branch_no_stop (u v : Value) (w : World) : (Instr.typeAssert (.iface 134 (.agg #[u, v])) 72 158 true).run Tryz.prog w = .ok (.tuple #[.agg #[], .bool false]) w := by kernel_rfl

def stopB (g : List Bl) (i : Nat) : Bool := (nxt g i).isEmpty

theorem stop_wanted {g : List Bl} (hv : validB g = true) {A : List Nat} (i : Nat) (h : ∃ c, Lab g A i c) : Wanted (stopB g) i ↔ Stops g i := by
  obtain ⟨c, hc⟩ := h
  have hi := hc.lt hv
  show stopB g i = true ↔ _
  unfold stopB
  rw [List.isEmpty_iff]
  exact ⟨fun h => ⟨hi, h⟩, fun h => h.2⟩

/-- What the program's search answers, and that a run comes there soon. -/
def WayPost2 (g : List Bl) (P : Nat → Prop) (w : World) (e : Ending) (w' : World) : Prop :=
  ∃ s ok, e = .returned (.tuple #[.string s, .bool ok]) ∧ WayAns g P s ok ∧ SoonAt g [] P s ok ∧ Below w.heap.size w w'

theorem SoonAt.same {g : List Bl} {A : List Nat} {P Q : Nat → Prop} {s : ByteArray} {ok : Bool} (h : SoonAt g A P s ok) (e : ∀ i, (∃ c, Lab g A i c) → (P i ↔ Q i)) : SoonAt g A Q s ok := fun ho => by
  obtain ⟨i, m, h1, h2, h3, h4⟩ := h ho
  exact ⟨i, m, (e i ⟨_, h2.1⟩).1 h1, h2, h3, h4⟩

/-- Named like that. -/
def nameIs (g : List Bl) (nm : ByteArray) (i : Nat) : Bool := (nthName g i).toList == nm.toList

theorem name_wanted {g : List Bl} (hv : validB g = true) {A : List Nat} {nm : ByteArray} (i : Nat) (h : ∃ c, Lab g A i c) : Wanted (nameIs g nm) i ↔ Named g nm i := by
  obtain ⟨c, hc⟩ := h
  have hi := hc.lt hv
  show nameIs g nm i = true ↔ _
  unfold nameIs
  rw [beq_toList]
  exact ⟨fun h => ⟨hi, h⟩, fun h => h.2⟩




end Go.Proofs.YtklnhbfpmmdhjabGreat
