/-
  What LoopOf and DepthIn answer: plain facts.
-/
import Derived.Test.YtdolbmonmkjajaaGreatLoopMath
import Derived.Test.YtdolbmonmkjajaaGreatKids
namespace Go.Proofs.YtdolbmonmkjajaaGreat

/-- The header with a name. -/
def headOf (g : List Bl) (s : ByteArray) : Option Nat := match liveOf g s with | some i => if i ∈ headL g then some i else none | none => none

theorem headOf_no {g : List Bl} {s : ByteArray} (h : validB g = false) : headOf g s = none := by unfold headOf; rw [liveOf_no h]
theorem headOf_none {g : List Bl} {s : ByteArray} (hp : posOf g s = none) : headOf g s = none := by unfold headOf; rw [liveOf_none hp]
theorem headOf_some {g : List Bl} {s : ByteArray} {i : Nat} (hv : validB g = true) (hp : posOf g s = some i) (hh : i ∈ headL g) : headOf g s = some i := by
  unfold headOf; rw [liveOf_some hv hp ((mem_reach hv).2 (head_live hv hh))]; simp [hh]
theorem headOf_is {g : List Bl} {s : ByteArray} {i : Nat} (h : headOf g s = some i) : validB g = true ∧ posOf g s = some i ∧ i ∈ headL g := by
  unfold headOf at h
  cases hl : liveOf g s with
  | none => rw [hl] at h; cases h
  | some j =>
    rw [hl] at h
    by_cases hj : j ∈ headL g
    · simp [hj] at h
      subst h
      obtain ⟨h1, h2, _⟩ := liveOf_is hl
      exact ⟨h1, h2, hj⟩
    · simp [hj] at h
theorem headOf_out {g : List Bl} {s : ByteArray} {i : Nat} (hp : posOf g s = some i) (hh : i ∉ headL g) : headOf g s = none := by
  cases h : headOf g s with
  | none => rfl
  | some j =>
    obtain ⟨_, h2, h3⟩ := headOf_is h
    rw [hp] at h2
    exact absurd (by rw [Option.some.inj h2]; exact h3) hh

def loopV (g : List Bl) (s : ByteArray) : ByteArray := match headOf g s with | some h => namesAt g (loopL g h) | none => ⟨#[]⟩
def loopB (g : List Bl) (s : ByteArray) : Bool := (headOf g s).isSome
theorem loopV_some {g : List Bl} {s : ByteArray} {h : Nat} (e : headOf g s = some h) : loopV g s = namesAt g (loopL g h) := by unfold loopV; rw [e]
theorem loopV_none {g : List Bl} {s : ByteArray} (e : headOf g s = none) : loopV g s = ⟨#[]⟩ := by unfold loopV; rw [e]
theorem loopB_some {g : List Bl} {s : ByteArray} {h : Nat} (e : headOf g s = some h) : loopB g s = true := by unfold loopB; rw [e]; rfl
theorem loopB_none {g : List Bl} {s : ByteArray} (e : headOf g s = none) : loopB g s = false := by unfold loopB; rw [e]; rfl

def depthV (g : List Bl) (s : ByteArray) : Int := match liveOf g s with | some n => (depthN g n : Int) | none => -1
theorem depthV_some {g : List Bl} {s : ByteArray} {n : Nat} (e : liveOf g s = some n) : depthV g s = (depthN g n : Int) := by unfold depthV; rw [e]
theorem depthV_none {g : List Bl} {s : ByteArray} (e : liveOf g s = none) : depthV g s = -1 := by unfold depthV; rw [e]

theorem countP_take {p : Nat → Bool} {l : List Nat} {k : Nat} (h : k < l.length) : (l.take (k + 1)).countP p = (l.take k).countP p + (if p l[k] = true then 1 else 0) := by
  rw [List.take_succ_eq_append_getElem h, List.countP_append]
  simp [List.countP_cons]

theorem head_small {g : List Bl} (hv : validB g = true) : (headL g).length ≤ 26 := Nat.le_trans (goalL_len 1 backK) (reachS_small hv)
theorem head_lt {g : List Bl} : ∀ i ∈ headL g, i < g.length := goalL_lt 1 backK
theorem loop_small {g : List Bl} (hv : validB g = true) (h : Nat) : (loopL g h).length ≤ 26 := by
  have := nodup_lt_len _ _ (loop_nodup g h) (loopL_lt h)
  have := (valid_iff.1 hv).2.1
  omega

theorem ret_tsb {a a' : ByteArray} {b b' : Bool} (h : a = a') (k : b = b') : Ending.returned (.tuple #[.string a, .bool b]) = .returned (.tuple #[.string a', .bool b']) := by rw [h, k]
end Go.Proofs.YtdolbmonmkjajaaGreat
