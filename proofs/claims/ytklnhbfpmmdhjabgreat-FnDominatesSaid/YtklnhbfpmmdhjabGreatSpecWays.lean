/-
  Contracts of the model's WayTo, StopsWith and CanStop; what these answer.
-/
import Derived.Test.YtklnhbfpmmdhjabGreatL2Best
import Derived.Test.YtklnhbfpmmdhjabGreatRunGraph
import Derived.Deep.QuietTactic
import Derived.BigQuiet
namespace Go.Proofs.YtklnhbfpmmdhjabGreat
open Go.RowKit Go.Sort

/-- The blocks with a name; those that stop. -/
abbrev Named (g : List Bl) (nm : ByteArray) : Nat → Prop := fun j => j < g.length ∧ nthName g j = nm
abbrev Stops (g : List Bl) : Nat → Prop := fun j => j < g.length ∧ nxt g j = []

/-- The best choices to a wanted one, if the graph is valid. -/
def WayAns (g : List Bl) (P : Nat → Prop) (s : ByteArray) (ok : Bool) : Prop := (validB g = true ∧ FirstWay g [] P s ok) ∨ (validB g = false ∧ s = ⟨#[]⟩ ∧ ok = false)

theorem WayAns.unique {g : List Bl} {P : Nat → Prop} {s s' : ByteArray} {ok ok' : Bool} (h : WayAns g P s ok) (h' : WayAns g P s' ok') : s = s' ∧ ok = ok' := by
  rcases h with ⟨v, h⟩ | ⟨v, rfl, rfl⟩ <;> rcases h' with ⟨v', h'⟩ | ⟨v', rfl, rfl⟩
  · exact h.unique h'
  · rw [v] at v'; cases v'
  · rw [v] at v'; cases v'
  · exact ⟨rfl, rfl⟩

theorem WayAns.small {g : List Bl} {P : Nat → Prop} {s : ByteArray} {ok : Bool} (h : WayAns g P s ok) : s.size ≤ 26 := by
  rcases h with ⟨v, ⟨_, _, h, _⟩ | ⟨_, rfl, _⟩⟩ | ⟨_, rfl, _⟩
  · have := (valid_iff.1 v).2.1; omega
  · exact Nat.zero_le _
  · exact Nat.zero_le _

def WayPost (g : List Bl) (P : Nat → Prop) (w : World) (e : Ending) (w' : World) : Prop :=
  ∃ s ok, e = .returned (.tuple #[.string s, .bool ok]) ∧ WayAns g P s ok ∧ Below w.heap.size w w'

theorem named_one {g : List Bl} (hv : validB g = true) {nm : ByteArray} {i : Nat} (hp : posOf g nm = some i) (j : Nat) : j = i ↔ Named g nm j := by
  obtain ⟨hi, hn⟩ := posOf_is hp
  constructor
  · rintro rfl; exact ⟨hi, by rw [nthName_at hi, hn]⟩
  · rintro ⟨hj, hm⟩
    rw [nthName_at hj] at hm
    exact name_inj hv hj hi (hm.trans hn.symm)

theorem named_none {g : List Bl} {nm : ByteArray} (hp : posOf g nm = none) (j : Nat) : ¬ Named g nm j := by
  rintro ⟨hj, hm⟩
  obtain ⟨i, hi⟩ := posOf_has (g := g) (s := nm) (b := g[j]) (List.getElem_mem hj) (by rw [← hm, nthName_at hj])
  rw [hp] at hi; cases hi




end Go.Proofs.YtklnhbfpmmdhjabGreat
