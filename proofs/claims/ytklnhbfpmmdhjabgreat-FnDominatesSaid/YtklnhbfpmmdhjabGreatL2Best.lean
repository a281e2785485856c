/-
  Contract: of two choices, which are better.
-/
import Derived.Test.YtklnhbfpmmdhjabGreatWays
import Derived.Test.YtklnhbfpmmdhjabGreatBase
import Derived.Sort.Walk0
import Derived.Test.YtklnhbfpmmdhjabGreatNextOf
import Derived.Test.YtklnhbfpmmdhjabGreatRuns
import Derived.Deep.DeepCutAuto
import Derived.Deep.LoopGhost
namespace Go.Proofs.YtklnhbfpmmdhjabGreat
open Go.RowKit Go.Sort

theorem lt_iff_code {a b : ByteArray} (ha : lrS a = true) (hb : lrS b = true) : cd a < cd b ↔ a.size < b.size ∨ (a.size = b.size ∧ a.data.toList < b.data.toList) := by
  unfold cd
  rcases Nat.lt_trichotomy a.size b.size with h | h | h
  · exact ⟨fun _ => .inl h, fun _ => code_shorter (by rw [list_of_size, list_of_size]; exact h)⟩
  · rw [code_lex (by rw [list_of_size, list_of_size]; exact h) ha hb]
    exact ⟨fun h2 => .inr ⟨h, h2⟩, fun h2 => h2.elim (fun h3 => by omega) fun h3 => h3.2⟩
  · have := code_shorter (s := b.data.toList) (t := a.data.toList) (by rw [list_of_size, list_of_size]; exact h)
    exact ⟨fun h2 => by omega, fun h2 => by omega⟩

def shorterB (a b : ByteArray) : Bool := decide (cd a < cd b)

theorem shorter_any (a b : ByteArray) (ha : lrS a = true) (hb : lrS b = true) (w : World) :
    Calls Tryz.prog 131 #[.string a, .string b] w fun e w' => e = .returned (.bool (shorterB a b)) ∧ w = w' := by
  have HI := Lib.hid (lt_iff_code ha hb)
  unfold shorterB
  by_cases h1 : a.size < b.size
  · have HR := Lib.hid (show true = decide (cd a < cd b) from (decide_eq_true (HI.out.2 (.inl h1))).symm)
    have q1 : ((a.size : Int) < b.size) := by omega
    go_enter Tryz.func131, Tryz.ntmps131
    go_wp2
    go_ret
    exact ⟨ret_bool HR.out, rfl⟩
  · by_cases h2 : a.size = b.size
    · have HR := Lib.hid (show decide (a.data.toList < b.data.toList) = decide (cd a < cd b) from decide_eq_decide.2 ⟨fun h => HI.out.2 (.inr ⟨h2, h⟩), fun h => (HI.out.1 h).elim (fun h => absurd h h1) fun h => h.2⟩)
      have q1 : ¬ ((a.size : Int) < b.size) := by omega
      have q2 : ((a.size : Int) == b.size) = true := by rw [h2]; simp
      have HB := Lib.hid (show Op.bytesLess a.toList b.toList = decide (cd a < cd b) by rw [bytesLess_eq, Lib.toList_data, Lib.toList_data]; exact HR.out)
      clear h1
      go_enter Tryz.func131, Tryz.ntmps131
      go_wp2
      go_ret
      exact ⟨ret_bool HB.out, rfl⟩
    · have HR := Lib.hid (show false = decide (cd a < cd b) from (decide_eq_false fun h => (HI.out.1 h).elim h1 fun h => h2 h.1).symm)
      have q1 : ¬ ((a.size : Int) < b.size) := by omega
      have q2 : ((a.size : Int) == b.size) = false := by simp; omega
      clear h1 h2
      go_enter Tryz.func131, Tryz.ntmps131
      go_wp2
      go_ret
      exact ⟨ret_bool HR.out, rfl⟩

end Go.Proofs.YtklnhbfpmmdhjabGreat

/-
  The cells of the model's search; its first row of them.
-/
namespace Go.Proofs.YtklnhbfpmmdhjabGreat
open Go.RowKit Go.Sort

def waysC (σ : Sg) (n : Nat) : Array Value := ((List.range n).map fun i => Value.string (atS σ i)).toArray
def thereC (σ : Sg) (n : Nat) : Array Value := ((List.range n).map fun i => Value.bool (σ i).isSome).toArray

theorem waysC_size (σ : Sg) (n : Nat) : (waysC σ n).size = n := by simp [waysC]
theorem thereC_size (σ : Sg) (n : Nat) : (thereC σ n).size = n := by simp [thereC]
theorem waysC_get (σ : Sg) {n i : Nat} (h : i < n) : (waysC σ n)[i]? = some (.string (atS σ i)) := by simp [waysC, h]
theorem thereC_get (σ : Sg) {n i : Nat} (h : i < n) : (thereC σ n)[i]? = some (.bool (σ i).isSome) := by simp [thereC, h]

theorem waysC_set (σ : Sg) (n t : Nat) (s : ByteArray) : (waysC σ n).setIfInBounds t (.string s) = waysC (putS σ t s) n := by
  apply Array.ext_getElem?
  intro j
  rw [Array.getElem?_setIfInBounds, waysC_size]
  by_cases hj : j < n
  · rw [waysC_get _ hj, waysC_get _ hj]
    by_cases e : t = j
    · subst e; rw [if_pos rfl, if_pos hj, atS_some (putS_same σ t s)]
    · rw [if_neg e]; unfold atS; rw [putS_other σ s (Ne.symm e)]
  · have h1 : (waysC σ n)[j]? = none := Array.getElem?_eq_none (by rw [waysC_size]; omega)
    have h2 : (waysC (putS σ t s) n)[j]? = none := Array.getElem?_eq_none (by rw [waysC_size]; omega)
    rw [h1, h2]
    split
    · rw [if_neg (by omega)]
    · rfl

theorem thereC_set (σ : Sg) (n t : Nat) (s : ByteArray) : (thereC σ n).setIfInBounds t (.bool true) = thereC (putS σ t s) n := by
  apply Array.ext_getElem?
  intro j
  rw [Array.getElem?_setIfInBounds, thereC_size]
  by_cases hj : j < n
  · rw [thereC_get _ hj, thereC_get _ hj]
    by_cases e : t = j
    · subst e; rw [if_pos rfl, if_pos hj, putS_same]; rfl
    · rw [if_neg e, putS_other σ s (Ne.symm e)]
  · have h1 : (thereC σ n)[j]? = none := Array.getElem?_eq_none (by rw [thereC_size]; omega)
    have h2 : (thereC (putS σ t s) n)[j]? = none := Array.getElem?_eq_none (by rw [thereC_size]; omega)
    rw [h1, h2]
    split
    · rw [if_neg (by omega)]
    · rfl

theorem waysC_zero (n : Nat) : madeCells #[.string ⟨#[]⟩] n = waysC (fun _ => none) n := by
  apply Array.ext_getElem?
  intro j
  rw [← Array.getElem?_toList, toList_madeCells_one]
  by_cases hj : j < n
  · rw [waysC_get _ hj, List.getElem?_replicate, if_pos hj]; rfl
  · rw [List.getElem?_replicate, if_neg hj, Array.getElem?_eq_none (by rw [waysC_size]; omega)]

theorem thereC_zero (n : Nat) : madeCells #[.bool false] n = thereC (fun _ => none) n := by
  apply Array.ext_getElem?
  intro j
  rw [← Array.getElem?_toList, toList_madeCells_one]
  by_cases hj : j < n
  · rw [thereC_get _ hj, List.getElem?_replicate, if_pos hj]; rfl
  · rw [List.getElem?_replicate, if_neg hj, Array.getElem?_eq_none (by rw [thereC_size]; omega)]

/-- The first row: the entry has the empty choices, or is to be avoided. -/
theorem begin_nil : beginS [] = putS (fun _ => none) 0 ⟨#[]⟩ := by
  funext i; unfold beginS putS; by_cases h : i = 0 <;> simp [h]
theorem waysC_begin (A : List Nat) (n : Nat) : waysC (beginS A) n = waysC (fun _ => none) n := by
  unfold waysC; congr 2; funext i; unfold atS beginS; split <;> rfl
theorem thereC_begin (A : List Nat) (n : Nat) : thereC (beginS A) n = (thereC (fun _ => none) n).setIfInBounds 0 (.bool (decide (0 ∉ A))) := by
  apply Array.ext_getElem?
  intro j
  rw [Array.getElem?_setIfInBounds, thereC_size]
  by_cases hj : j < n
  · rw [thereC_get _ hj, thereC_get _ hj]
    by_cases e : 0 = j
    · subst e; rw [if_pos rfl, if_pos hj]; unfold beginS
      by_cases ha : (0 : Nat) ∈ A <;> simp [ha]
    · rw [if_neg e]; unfold beginS; rw [if_neg (fun h => e h.1.symm)]
  · have h1 : (thereC (fun _ => none) n)[j]? = none := Array.getElem?_eq_none (by rw [thereC_size]; omega)
    have h2 : (thereC (beginS A) n)[j]? = none := Array.getElem?_eq_none (by rw [thereC_size]; omega)
    rw [h1, h2]
    split
    · rw [if_neg (by omega)]
    · rfl

theorem info_str : (Tryz.prog.info? 9).map (fun i => (i.zero, i.size, i.bytes)) = some (some (.string ⟨#[]⟩), 1, 16) := by kernel_rfl
theorem info_bool : (Tryz.prog.info? 4).map (fun i => (i.zero, i.size, i.bytes)) = some (some (.bool false), 1, 1) := by kernel_rfl

/-- What the model's search leaves: two rows of its own. -/
def BestPost (g : List Bl) (A : List Nat) (w : World) (e : Ending) (w' : World) : Prop :=
  ∃ WB TB σ, e = .returned (.tuple #[.slice (some ⟨WB, 0, none⟩) g.length g.length, .slice (some ⟨TB, 0, none⟩) g.length g.length]) ∧
    Blk w' WB 9 (waysC σ g.length) ∧ Blk w' TB 4 (thereC σ g.length) ∧ Final g A σ ∧ Below w.heap.size w w'

/-- The choices behind a jump, as the model writes them. -/
theorem way_two {s : ByteArray} {j : Nat} (h : j < 2) : s ++ (⟨#[108, 114]⟩ : ByteArray).extract j (j + 1) = wayc 2 j s := by
  have : j = 0 ∨ j = 1 := by omega
  rcases this with rfl | rfl <;> rfl

end Go.Proofs.YtklnhbfpmmdhjabGreat

/-
  Contract of the model's search for the best choices to each block.
-/
namespace Go.Proofs.YtklnhbfpmmdhjabGreat
open Go.RowKit Go.Sort

theorem blk_ne {w : World} {a b : Nat} {t u : TypeId} {cs ds : Array Value} (h : Blk w a t cs) (k : Blk w b u ds) (hne : t ≠ u) : a ≠ b := by
  rintro rfl
  unfold Blk at h k
  rw [h] at k
  injection k with k
  injection k with _ k
  exact hne k

/-- What holds between two jumps of a pass. -/
structure InPass (g : List Bl) (A : List Nat) (w wr : World) (WB TB : Nat) (σ0 σ : Sg) (b : Bool) (i k : Nat) : Prop where
  pass : Pass g A σ0 σ b i k
  ways : Blk wr WB 9 (waysC σ g.length)
  there : Blk wr TB 4 (thereC σ g.length)
  below : Below w.heap.size w wr


end Go.Proofs.YtklnhbfpmmdhjabGreat
