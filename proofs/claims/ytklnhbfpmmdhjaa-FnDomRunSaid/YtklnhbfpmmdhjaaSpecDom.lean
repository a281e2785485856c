/-
  Contracts of the model: DominatorsOf, ParentOf, ChildrenOf, Dominates.
-/
import Derived.Test.YtklnhbfpmmdhjaaSpecOrder
namespace Go.Proofs.Ytklnhbfpmmdhjaa
open Go.RowKit Go.Sort

theorem beq_emp {s : ByteArray} (h : 0 < s.size) : (s.toList == ([] : List UInt8)) = false := by
  have hl := list_of_size (s := s)
  rw [Lib.toList_data]
  cases hd : s.data.toList with
  | nil => rw [hd] at hl; simp at hl; omega
  | cons c r => rfl

def domV (g : List Bl) (s : ByteArray) : ByteArray := match liveOf g s with | some n => namesAt g (domL g n) | none => ⟨#[]⟩
def liveB (g : List Bl) (s : ByteArray) : Bool := (liveOf g s).isSome
theorem domV_some {g : List Bl} {s : ByteArray} {n : Nat} (h : liveOf g s = some n) : domV g s = namesAt g (domL g n) := by unfold domV; rw [h]
theorem domV_none {g : List Bl} {s : ByteArray} (h : liveOf g s = none) : domV g s = ⟨#[]⟩ := by unfold domV; rw [h]
theorem liveB_some {g : List Bl} {s : ByteArray} {n : Nat} (h : liveOf g s = some n) : liveB g s = true := by unfold liveB; rw [h]; rfl
theorem liveB_none {g : List Bl} {s : ByteArray} (h : liveOf g s = none) : liveB g s = false := by unfold liveB; rw [h]; rfl

/-- A live block's name. -/
theorem live_name {g : List Bl} {s : ByteArray} {n : Nat} (h : liveOf g s = some n) : validB g = true ∧ n < g.length ∧ s = nthName g n ∧ Rch g [] n := by
  obtain ⟨hv, hp, hr⟩ := liveOf_is h
  obtain ⟨hl, e⟩ := posOf_is hp
  exact ⟨hv, hl, by rw [nthName_at hl, e], (mem_reach hv).1 hr⟩


def parV (g : List Bl) (s : ByteArray) : ByteArray := match liveOf g s with | some n => parS g n | none => ⟨#[]⟩
def parO (g : List Bl) (s : ByteArray) : Bool := match liveOf g s with | some n => (parL g n).isSome | none => false


theorem parS_is {g : List Bl} (hv : validB g = true) {n c : Nat} (hn : n < g.length) (hc : Rch g [] c) : ((parS g c).toList == (nthName g n).toList) = decide (parL g c = some n) := by
  rw [Bool.eq_iff_iff, beq_toList, decide_eq_true_iff]
  cases hp : parL g c with
  | none =>
    rw [parS_none hp]
    constructor
    · intro e
      have := congrArg ByteArray.size e
      rw [one_size hv hn] at this; cases this
    · intro e; cases e
  | some p =>
    rw [parS_some hp]
    have hpl := ((parL_iff hv hc).1 hp).2.1.lt hv
    constructor
    · intro e
      rw [nthName_at hpl, nthName_at hn] at e
      rw [name_inj hv hpl hn e]
    · intro e; cases e; rfl

theorem kids_dm {g : List Bl} (hv : validB g = true) {n c : Nat} (hc : Rch g [] c) (h : dmB g n c = false) : decide (parL g c = some n) = false := by
  rw [decide_eq_false_iff_not]
  intro e
  have := ((parL_iff hv hc).1 e).2.2 n
  have h2 : dmB g n c = true := (dmB_iff hv).2 (this.2 (.inr (.refl g n)))
  rw [h] at h2; cases h2


def kidsV (g : List Bl) (s : ByteArray) : ByteArray := match liveOf g s with | some n => namesAt g (kidsL g n) | none => ⟨#[]⟩


def domB (g : List Bl) (s t : ByteArray) : Bool := match liveOf g s, liveOf g t with | some a, some b => dmB g a b | _, _ => false
theorem domB_none1 {g : List Bl} {s t : ByteArray} (h : liveOf g s = none) : domB g s t = false := by unfold domB; rw [h]
theorem domB_none2 {g : List Bl} {s t : ByteArray} (h : liveOf g t = none) : domB g s t = false := by unfold domB; rw [h]; split <;> simp_all
theorem domB_some {g : List Bl} {s t : ByteArray} {a b : Nat} (h : liveOf g s = some a) (k : liveOf g t = some b) : domB g s t = dmB g a b := by unfold domB; rw [h, k]

end Go.Proofs.Ytklnhbfpmmdhjaa
