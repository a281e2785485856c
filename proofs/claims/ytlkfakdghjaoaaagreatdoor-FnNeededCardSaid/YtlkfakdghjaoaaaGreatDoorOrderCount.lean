import Derived.Test.YtlkfakdghjaoaaaGreatDoorLoopMath
import Derived.Test.YtlkfakdghjaoaaaGreatDoorJ14
namespace Go.Proofs.YtlkfakdghjaoaaaGreatDoor
theorem oQ {l k : List Nat} (hl : l.Nodup) (hk : k.Nodup) {p q : Nat → Bool} (h : ∀ x, (x ∈ l ∧ p x = true) ↔ (x ∈ k ∧ q x = true)) : l.countP p = k.countP q := by
 rw [List.countP_eq_length_filter, List.countP_eq_length_filter]
 refine List.Perm.length_eq ((List.perm_ext_iff_of_nodup (hl.filter _) (hk.filter _)).2 fun x => ?_)
 rw [List.mem_filter, List.mem_filter]; exact h x
theorem BP {g : List Bl} {t p : Nat} : p ∈ dN g t g.length ↔ p < g.length ∧ t ∈ ai g p := by
 unfold dN; rw [List.mem_filter, List.mem_range, decide_eq_true_iff]
theorem xK (g : List Bl) (t k : Nat) : (dN g t k).Nodup := List.Pairwise.filter _ List.nodup_range
def iJ (g : List Bl) (t p : Nat) : Bool := decide (p ∈ ac g) && decide (ah g p < ah g t)
theorem yA {g : List Bl} (hv : aa g = true) (t : Nat) : (dN g t g.length).countP (iJ g t) = (dg g bD t).length := by
 have e : (dg g bD t).length = (dg g bD t).countP fun _ => true := by simp
 rw [e]
 have hsn : (dg g bD t).Nodup := List.Pairwise.filter _ (List.Pairwise.filter _ List.nodup_range)
 refine oQ (xK g t _) hsn fun x => ?_
 rw [BP, gM hv]
 unfold iJ
 rw [Bool.and_eq_true_iff, decide_eq_true_iff, decide_eq_true_iff, aA hv]
 constructor
 ·rintro ⟨⟨_, h2⟩, h3, h4⟩
  exact ⟨⟨h3, h2, by rw [gL h4]; rfl⟩, rfl⟩
 ·rintro ⟨⟨h1, h2, h3⟩, _⟩
  refine ⟨⟨h1.lt hv, h2⟩, h1, ?_⟩
  have : aG g x t = 0 := by simpa [bD] using h3
  rcases Nat.lt_or_ge (ah g x) (ah g t) with h | h
  ·exact h
  ·exact absurd this (kw.2 h)
end Go.Proofs.YtlkfakdghjaoaaaGreatDoor
