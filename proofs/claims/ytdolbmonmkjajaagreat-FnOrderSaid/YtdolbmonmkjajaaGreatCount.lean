/-
  Contracts of CountJumps, the program's and the model's.
-/
import Derived.Test.YtdolbmonmkjajaaGreatNodes
namespace Go.Proofs.YtdolbmonmkjajaaGreat
open Go.RowKit Go.Sort

def nexts (g : List Bl) : Nat := (g.map (·.2.size)).sum

theorem nexts_take (g : List Bl) (k : Nat) (h : k < g.length) : nexts (g.take (k + 1)) = nexts (g.take k) + g[k].2.size := by
  unfold nexts
  rw [take_snoc' g k h, List.map_append, List.sum_append, List.map_cons, List.map_nil, List.sum_cons, List.sum_nil, Nat.add_zero]

theorem nexts_le (g : List Bl) : nexts g ≤ tot g := by
  induction g with
  | nil => exact Nat.le_refl 0
  | cons b g ih => unfold nexts at *; simp [tot]; omega

theorem nexts_take_le (g : List Bl) (k : Nat) : nexts (g.take k) ≤ tot g := Nat.le_trans (nexts_le _) (tot_take_le g k)

def countVal (g : List Bl) : Int := if validB g then nexts g else -1
theorem countVal_yes {g : List Bl} (h : validB g = true) : countVal g = nexts g := by unfold countVal; rw [if_pos h]
theorem countVal_no {g : List Bl} (h : validB g = false) : countVal g = -1 := by unfold countVal; rw [h]; rfl


end Go.Proofs.YtdolbmonmkjajaaGreat
