/-
  The reached block with a name, by both ways.
-/
import Derived.Test.YtdolbmonmkjajaaDomSpec
import Derived.Test.YtdolbmonmkjajaaReachedNodes
namespace Go.Proofs.Ytdolbmonmkjajaa
open Go.RowKit Go.Sort

theorem named_live {g : List Bl} (hv : validB g = true) (s : ByteArray) : named g (reachS g) s = liveOf g s := by
  have hri : ∀ i, i ∈ reachS g ↔ i ∈ reach g := fun i => ⟨fun h => (reachS_perm hv).subset h, fun h => (reachS_perm hv).symm.subset h⟩
  cases hn : named g (reachS g) s with
  | some i =>
    obtain ⟨h1, h2⟩ := named_is hn
    have hil : i < g.length := reach_lt hv ((hri i).1 h1)
    rw [liveOf_some hv (by rw [← h2, nthName_at hil]; exact posOf_name hv hil) ((hri i).1 h1)]
  | none =>
    cases hl : liveOf g s with
    | none => rfl
    | some i =>
      obtain ⟨_, hp, hr⟩ := liveOf_is hl
      obtain ⟨hil, hnm⟩ := posOf_is hp
      unfold named at hn
      rw [List.find?_eq_none] at hn
      exact absurd (by rw [nthName_at hil, hnm]; simp) (hn i ((hri i).2 hr))
end Go.Proofs.Ytdolbmonmkjajaa
