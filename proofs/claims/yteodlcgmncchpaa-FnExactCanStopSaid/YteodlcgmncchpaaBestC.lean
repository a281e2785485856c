/-
  The cells of the model's search; its first row of them.
-/
import Derived.Test.YteodlcgmncchpaaBest
import Derived.Test.YteodlcgmncchpaaShorter
import Derived.Test.YteodlcgmncchpaaNextOf
import Derived.Test.YteodlcgmncchpaaReach
import Derived.Deep.DeepCutAuto
import Derived.Deep.LoopGhost
namespace Go.Proofs.Yteodlcgmncchpaa
open Go.RowKit Go.Sort

def waysC (σ : Sg) (n : Nat) : Array Value := ((List.range n).map fun i => Value.string (atS σ i)).toArray
def thereC (σ : Sg) (n : Nat) : Array Value := ((List.range n).map fun i => Value.bool (σ i).isSome).toArray

theorem waysC_size (σ : Sg) (n : Nat) : (waysC σ n).size = n := by simp [waysC]
theorem thereC_size (σ : Sg) (n : Nat) : (thereC σ n).size = n := by simp [thereC]
theorem waysC_get (σ : Sg) {n i : Nat} (h : i < n) : (waysC σ n)[i]? = some (.string (atS σ i)) := by simp [waysC, h]
theorem thereC_get (σ : Sg) {n i : Nat} (h : i < n) : (thereC σ n)[i]? = some (.bool (σ i).isSome) := by simp [thereC, h]

theorem waysC_set (σ : Sg) (n t : Nat) (s : ByteArray) : (waysC σ n).setIfInBounds t (.string s) = waysC (putS σ t s) n := by
  apply Array.ext_getElem?
  intro j
  rw [Array.getElem?_setIfInBounds, waysC_size]
  by_cases hj : j < n
  · rw [waysC_get _ hj, waysC_get _ hj]
    by_cases e : t = j
    · subst e; rw [if_pos rfl, if_pos hj, atS_some (putS_same σ t s)]
    · rw [if_neg e]; unfold atS; rw [putS_other σ s (Ne.symm e)]
  · have h1 : (waysC σ n)[j]? = none := Array.getElem?_eq_none (by rw [waysC_size]; omega)
    have h2 : (waysC (putS σ t s) n)[j]? = none := Array.getElem?_eq_none (by rw [waysC_size]; omega)
    rw [h1, h2]
    split
    · rw [if_neg (by omega)]
    · rfl

theorem thereC_set (σ : Sg) (n t : Nat) (s : ByteArray) : (thereC σ n).setIfInBounds t (.bool true) = thereC (putS σ t s) n := by
  apply Array.ext_getElem?
  intro j
  rw [Array.getElem?_setIfInBounds, thereC_size]
  by_cases hj : j < n
  · rw [thereC_get _ hj, thereC_get _ hj]
    by_cases e : t = j
    · subst e; rw [if_pos rfl, if_pos hj, putS_same]; rfl
    · rw [if_neg e, putS_other σ s (Ne.symm e)]
  · have h1 : (thereC σ n)[j]? = none := Array.getElem?_eq_none (by rw [thereC_size]; omega)
    have h2 : (thereC (putS σ t s) n)[j]? = none := Array.getElem?_eq_none (by rw [thereC_size]; omega)
    rw [h1, h2]
    split
    · rw [if_neg (by omega)]
    · rfl

theorem waysC_zero (n : Nat) : madeCells #[.string ⟨#[]⟩] n = waysC (fun _ => none) n := by
  apply Array.ext_getElem?
  intro j
  rw [← Array.getElem?_toList, toList_madeCells_one]
  by_cases hj : j < n
  · rw [waysC_get _ hj, List.getElem?_replicate, if_pos hj]; rfl
  · rw [List.getElem?_replicate, if_neg hj, Array.getElem?_eq_none (by rw [waysC_size]; omega)]

theorem thereC_zero (n : Nat) : madeCells #[.bool false] n = thereC (fun _ => none) n := by
  apply Array.ext_getElem?
  intro j
  rw [← Array.getElem?_toList, toList_madeCells_one]
  by_cases hj : j < n
  · rw [thereC_get _ hj, List.getElem?_replicate, if_pos hj]; rfl
  · rw [List.getElem?_replicate, if_neg hj, Array.getElem?_eq_none (by rw [thereC_size]; omega)]

/-- The first row: the entry has the empty choices, or is to be avoided. -/
theorem begin_nil : beginS [] = putS (fun _ => none) 0 ⟨#[]⟩ := by
  funext i; unfold beginS putS; by_cases h : i = 0 <;> simp [h]
theorem waysC_begin (A : List Nat) (n : Nat) : waysC (beginS A) n = waysC (fun _ => none) n := by
  unfold waysC; congr 2; funext i; unfold atS beginS; split <;> rfl
theorem thereC_begin (A : List Nat) (n : Nat) : thereC (beginS A) n = (thereC (fun _ => none) n).setIfInBounds 0 (.bool (decide (0 ∉ A))) := by
  apply Array.ext_getElem?
  intro j
  rw [Array.getElem?_setIfInBounds, thereC_size]
  by_cases hj : j < n
  · rw [thereC_get _ hj, thereC_get _ hj]
    by_cases e : 0 = j
    · subst e; rw [if_pos rfl, if_pos hj]; unfold beginS
      by_cases ha : (0 : Nat) ∈ A <;> simp [ha]
    · rw [if_neg e]; unfold beginS; rw [if_neg (fun h => e h.1.symm)]
  · have h1 : (thereC (fun _ => none) n)[j]? = none := Array.getElem?_eq_none (by rw [thereC_size]; omega)
    have h2 : (thereC (beginS A) n)[j]? = none := Array.getElem?_eq_none (by rw [thereC_size]; omega)
    rw [h1, h2]
    split
    · rw [if_neg (by omega)]
    · rfl

theorem info_str : (Try.prog.info? 9).map (fun i => (i.zero, i.size, i.bytes)) = some (some (.string ⟨#[]⟩), 1, 16) := by kernel_rfl
theorem info_bool : (Try.prog.info? 4).map (fun i => (i.zero, i.size, i.bytes)) = some (some (.bool false), 1, 1) := by kernel_rfl

/-- What the model's search leaves: two rows of its own. -/
def BestPost (g : List Bl) (A : List Nat) (w : World) (e : Ending) (w' : World) : Prop :=
  ∃ WB TB σ, e = .returned (.tuple #[.slice (some ⟨WB, 0, none⟩) g.length g.length, .slice (some ⟨TB, 0, none⟩) g.length g.length]) ∧
    Blk w' WB 9 (waysC σ g.length) ∧ Blk w' TB 4 (thereC σ g.length) ∧ Final g A σ ∧ Below w.heap.size w w'

/-- The choices behind a jump, as the model writes them. -/
theorem way_two {s : ByteArray} {j : Nat} (h : j < 2) : s ++ (⟨#[108, 114]⟩ : ByteArray).extract j (j + 1) = wayc 2 j s := by
  have : j = 0 ∨ j = 1 := by omega
  rcases this with rfl | rfl <;> rfl

end Go.Proofs.Yteodlcgmncchpaa
