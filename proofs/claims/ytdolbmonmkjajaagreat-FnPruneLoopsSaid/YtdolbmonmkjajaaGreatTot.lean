/-
  How much a valid graph holds: plain facts.
-/
import Derived.Test.YtdolbmonmkjajaaGreatValids
import Derived.Test.YtdolbmonmkjajaaGreatNodes
namespace Go.Proofs.YtdolbmonmkjajaaGreat

theorem tot_small : ∀ l : List Bl, (∀ b ∈ l, b.1.size ≤ 1 ∧ b.2.size ≤ 2) → tot l ≤ 3 * l.length
  | [], _ => Nat.le_refl _
  | b :: l, h => by
    have ih := tot_small l (fun c hc => h c (by simp [hc]))
    have := h b (by simp)
    show b.1.size + b.2.size + tot l ≤ 3 * (l.length + 1)
    omega

theorem valid_tot {g : List Bl} (hv : validB g = true) : g.length + tot g ≤ 104 := by
  have h := tot_small g (fun b hb => by
    obtain ⟨k, hk, rfl⟩ := List.getElem_of_mem hb
    obtain ⟨c, hc, _⟩ := valid_one hv (List.getElem_mem hk)
    exact ⟨by rw [hc]; exact Nat.le_refl _, (nextB_iff.1 (nextsB_iff.1 (valid_iff.1 hv).2.2.2 k hk)).1⟩)
  have := (valid_iff.1 hv).2.1
  omega
end Go.Proofs.YtdolbmonmkjajaaGreat
