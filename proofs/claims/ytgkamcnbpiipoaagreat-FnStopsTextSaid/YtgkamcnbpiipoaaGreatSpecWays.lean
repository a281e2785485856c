/-
  Contract: of two choices, which are better.
-/
import Derived.Test.YtgkamcnbpiipoaaGreatWays
import Derived.Test.YtgkamcnbpiipoaaGreatBase
import Derived.Sort.Walk0
import Derived.Test.YtgkamcnbpiipoaaGreatNextOf
import Derived.Test.YtgkamcnbpiipoaaGreatRuns
import Derived.Deep.DeepCutAuto
import Derived.Deep.LoopGhost
import Derived.Test.YtgkamcnbpiipoaaGreatSpecRun
import Derived.Deep.QuietTactic
import Derived.BigQuiet
namespace Go.Proofs.YtgkamcnbpiipoaaGreat
open Go.RowKit Go.Sort

theorem lt_iff_code {a b : ByteArray} (ha : lrS a = true) (hb : lrS b = true) : cd a < cd b ↔ a.size < b.size ∨ (a.size = b.size ∧ a.data.toList < b.data.toList) := by
  unfold cd
  rcases Nat.lt_trichotomy a.size b.size with h | h | h
  · exact ⟨fun _ => .inl h, fun _ => code_shorter (by rw [list_of_size, list_of_size]; exact h)⟩
  · rw [code_lex (by rw [list_of_size, list_of_size]; exact h) ha hb]
    exact ⟨fun h2 => .inr ⟨h, h2⟩, fun h2 => h2.elim (fun h3 => by omega) fun h3 => h3.2⟩
  · have := code_shorter (s := b.data.toList) (t := a.data.toList) (by rw [list_of_size, list_of_size]; exact h)
    exact ⟨fun h2 => by omega, fun h2 => by omega⟩

def shorterB (a b : ByteArray) : Bool := decide (cd a < cd b)


end Go.Proofs.YtgkamcnbpiipoaaGreat

/-
  The cells of the model's search; its first row of them.
-/
namespace Go.Proofs.YtgkamcnbpiipoaaGreat
open Go.RowKit Go.Sort

def waysC (σ : Sg) (n : Nat) : Array Value := ((List.range n).map fun i => Value.string (atS σ i)).toArray
def thereC (σ : Sg) (n : Nat) : Array Value := ((List.range n).map fun i => Value.bool (σ i).isSome).toArray

theorem waysC_size (σ : Sg) (n : Nat) : (waysC σ n).size = n := by simp [waysC]
theorem thereC_size (σ : Sg) (n : Nat) : (thereC σ n).size = n := by simp [thereC]
theorem waysC_get (σ : Sg) {n i : Nat} (h : i < n) : (waysC σ n)[i]? = some (.string (atS σ i)) := by simp [waysC, h]
theorem thereC_get (σ : Sg) {n i : Nat} (h : i < n) : (thereC σ n)[i]? = some (.bool (σ i).isSome) := by simp [thereC, h]

theorem waysC_set (σ : Sg) (n t : Nat) (s : ByteArray) : (waysC σ n).setIfInBounds t (.string s) = waysC (putS σ t s) n := by
  apply Array.ext_getElem?
  intro j
  rw [Array.getElem?_setIfInBounds, waysC_size]
  by_cases hj : j < n
  · rw [waysC_get _ hj, waysC_get _ hj]
    by_cases e : t = j
    · subst e; rw [if_pos rfl, if_pos hj, atS_some (putS_same σ t s)]
    · rw [if_neg e]; unfold atS; rw [putS_other σ s (Ne.symm e)]
  · have h1 : (waysC σ n)[j]? = none := Array.getElem?_eq_none (by rw [waysC_size]; omega)
    have h2 : (waysC (putS σ t s) n)[j]? = none := Array.getElem?_eq_none (by rw [waysC_size]; omega)
    rw [h1, h2]
    split
    · rw [if_neg (by omega)]
    · rfl

theorem thereC_set (σ : Sg) (n t : Nat) (s : ByteArray) : (thereC σ n).setIfInBounds t (.bool true) = thereC (putS σ t s) n := by
  apply Array.ext_getElem?
  intro j
  rw [Array.getElem?_setIfInBounds, thereC_size]
  by_cases hj : j < n
  · rw [thereC_get _ hj, thereC_get _ hj]
    by_cases e : t = j
    · subst e; rw [if_pos rfl, if_pos hj, putS_same]; rfl
    · rw [if_neg e, putS_other σ s (Ne.symm e)]
  · have h1 : (thereC σ n)[j]? = none := Array.getElem?_eq_none (by rw [thereC_size]; omega)
    have h2 : (thereC (putS σ t s) n)[j]? = none := Array.getElem?_eq_none (by rw [thereC_size]; omega)
    rw [h1, h2]
    split
    · rw [if_neg (by omega)]
    · rfl

theorem waysC_zero (n : Nat) : madeCells #[.string ⟨#[]⟩] n = waysC (fun _ => none) n := by
  apply Array.ext_getElem?
  intro j
  rw [← Array.getElem?_toList, toList_madeCells_one]
  by_cases hj : j < n
  · rw [waysC_get _ hj, List.getElem?_replicate, if_pos hj]; rfl
  · rw [List.getElem?_replicate, if_neg hj, Array.getElem?_eq_none (by rw [waysC_size]; omega)]

theorem thereC_zero (n : Nat) : madeCells #[.bool false] n = thereC (fun _ => none) n := by
  apply Array.ext_getElem?
  intro j
  rw [← Array.getElem?_toList, toList_madeCells_one]
  by_cases hj : j < n
  · rw [thereC_get _ hj, List.getElem?_replicate, if_pos hj]; rfl
  · rw [List.getElem?_replicate, if_neg hj, Array.getElem?_eq_none (by rw [thereC_size]; omega)]

/-- The first row: the entry has the empty choices, or is to be avoided. -/
theorem begin_nil : beginS [] = putS (fun _ => none) 0 ⟨#[]⟩ := by
  funext i; unfold beginS putS; by_cases h : i = 0 <;> simp [h]
theorem waysC_begin (A : List Nat) (n : Nat) : waysC (beginS A) n = waysC (fun _ => none) n := by
  unfold waysC; congr 2; funext i; unfold atS beginS; split <;> rfl
theorem thereC_begin (A : List Nat) (n : Nat) : thereC (beginS A) n = (thereC (fun _ => none) n).setIfInBounds 0 (.bool (decide (0 ∉ A))) := by
  apply Array.ext_getElem?
  intro j
  rw [Array.getElem?_setIfInBounds, thereC_size]
  by_cases hj : j < n
  · rw [thereC_get _ hj, thereC_get _ hj]
    by_cases e : 0 = j
    · subst e; rw [if_pos rfl, if_pos hj]; unfold beginS
      by_cases ha : (0 : Nat) ∈ A <;> simp [ha]
    · rw [if_neg e]; unfold beginS; rw [if_neg (fun h => e h.1.symm)]
  · have h1 : (thereC (fun _ => none) n)[j]? = none := Array.getElem?_eq_none (by rw [thereC_size]; omega)
    have h2 : (thereC (beginS A) n)[j]? = none := Array.getElem?_eq_none (by rw [thereC_size]; omega)
    rw [h1, h2]
    split
    · rw [if_neg (by omega)]
    · rfl

theorem info_str : (Tryz.prog.info? 9).map (fun i => (i.zero, i.size, i.bytes)) = some (some (.string ⟨#[]⟩), 1, 16) := by kernel_rfl
theorem info_bool : (Tryz.prog.info? 4).map (fun i => (i.zero, i.size, i.bytes)) = some (some (.bool false), 1, 1) := by kernel_rfl

/-- What the model's search leaves: two rows of its own. -/
def BestPost (g : List Bl) (A : List Nat) (w : World) (e : Ending) (w' : World) : Prop :=
  ∃ WB TB σ, e = .returned (.tuple #[.slice (some ⟨WB, 0, none⟩) g.length g.length, .slice (some ⟨TB, 0, none⟩) g.length g.length]) ∧
    Blk w' WB 9 (waysC σ g.length) ∧ Blk w' TB 4 (thereC σ g.length) ∧ Final g A σ ∧ Below w.heap.size w w'

/-- The choices behind a jump, as the model writes them. -/
theorem way_two {s : ByteArray} {j : Nat} (h : j < 2) : s ++ (⟨#[108, 114]⟩ : ByteArray).extract j (j + 1) = wayc 2 j s := by
  have : j = 0 ∨ j = 1 := by omega
  rcases this with rfl | rfl <;> rfl

end Go.Proofs.YtgkamcnbpiipoaaGreat

/-
  Contract of the model's search for the best choices to each block.
-/
namespace Go.Proofs.YtgkamcnbpiipoaaGreat
open Go.RowKit Go.Sort

theorem blk_ne {w : World} {a b : Nat} {t u : TypeId} {cs ds : Array Value} (h : Blk w a t cs) (k : Blk w b u ds) (hne : t ≠ u) : a ≠ b := by
  rintro rfl
  unfold Blk at h k
  rw [h] at k
  injection k with k
  injection k with _ k
  exact hne k

/-- What holds between two jumps of a pass. -/
structure InPass (g : List Bl) (A : List Nat) (w wr : World) (WB TB : Nat) (σ0 σ : Sg) (b : Bool) (i k : Nat) : Prop where
  pass : Pass g A σ0 σ b i k
  ways : Blk wr WB 9 (waysC σ g.length)
  there : Blk wr TB 4 (thereC σ g.length)
  below : Below w.heap.size w wr


end Go.Proofs.YtgkamcnbpiipoaaGreat

/-
  Contracts of the model's WayTo, StopsWith and CanStop; what these answer.
-/
namespace Go.Proofs.YtgkamcnbpiipoaaGreat
open Go.RowKit Go.Sort

/-- The blocks with a name; those that stop. -/
abbrev Named (g : List Bl) (nm : ByteArray) : Nat → Prop := fun j => j < g.length ∧ nthName g j = nm
abbrev Stops (g : List Bl) : Nat → Prop := fun j => j < g.length ∧ nxt g j = []

/-- The best choices to a wanted one, if the graph is valid. -/
def WayAns (g : List Bl) (P : Nat → Prop) (s : ByteArray) (ok : Bool) : Prop := (validB g = true ∧ FirstWay g [] P s ok) ∨ (validB g = false ∧ s = ⟨#[]⟩ ∧ ok = false)

theorem WayAns.unique {g : List Bl} {P : Nat → Prop} {s s' : ByteArray} {ok ok' : Bool} (h : WayAns g P s ok) (h' : WayAns g P s' ok') : s = s' ∧ ok = ok' := by
  rcases h with ⟨v, h⟩ | ⟨v, rfl, rfl⟩ <;> rcases h' with ⟨v', h'⟩ | ⟨v', rfl, rfl⟩
  · exact h.unique h'
  · rw [v] at v'; cases v'
  · rw [v] at v'; cases v'
  · exact ⟨rfl, rfl⟩

theorem WayAns.small {g : List Bl} {P : Nat → Prop} {s : ByteArray} {ok : Bool} (h : WayAns g P s ok) : s.size ≤ 26 := by
  rcases h with ⟨v, ⟨_, _, h, _⟩ | ⟨_, rfl, _⟩⟩ | ⟨_, rfl, _⟩
  · have := (valid_iff.1 v).2.1; omega
  · exact Nat.zero_le _
  · exact Nat.zero_le _

def WayPost (g : List Bl) (P : Nat → Prop) (w : World) (e : Ending) (w' : World) : Prop :=
  ∃ s ok, e = .returned (.tuple #[.string s, .bool ok]) ∧ WayAns g P s ok ∧ Below w.heap.size w w'

theorem named_one {g : List Bl} (hv : validB g = true) {nm : ByteArray} {i : Nat} (hp : posOf g nm = some i) (j : Nat) : j = i ↔ Named g nm j := by
  obtain ⟨hi, hn⟩ := posOf_is hp
  constructor
  · rintro rfl; exact ⟨hi, by rw [nthName_at hi, hn]⟩
  · rintro ⟨hj, hm⟩
    rw [nthName_at hj] at hm
    exact name_inj hv hj hi (hm.trans hn.symm)

theorem named_none {g : List Bl} {nm : ByteArray} (hp : posOf g nm = none) (j : Nat) : ¬ Named g nm j := by
  rintro ⟨hj, hm⟩
  obtain ⟨i, hi⟩ := posOf_has (g := g) (s := nm) (b := g[j]) (List.getElem_mem hj) (by rw [← hm, nthName_at hj])
  rw [hp] at hi; cases hi




end Go.Proofs.YtgkamcnbpiipoaaGreat
