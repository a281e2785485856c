/-
  What PruneGraph leaves of a graph, more plain facts: how many names, how many jumps, when it is the same.
-/
import Derived.Test.YteodlcgmncchpaaPruneFacts
import Derived.Test.YteodlcgmncchpaaSpecPrune
import Derived.Test.YteodlcgmncchpaaCount
import Derived.Test.YteodlcgmncchpaaNamesOf
import Derived.Test.YteodlcgmncchpaaLaw
namespace Go.Proofs.Yteodlcgmncchpaa
open Go.RowKit Go.Sort

theorem srt_self {g : List Bl} (hv : validB g = true) : srt g (reachS g) g.length = reachS g := by
  conv => rhs; rw [reachS_srt]
  unfold srt
  apply List.filter_congr
  intro i _
  rw [Bool.eq_iff_iff, decide_eq_true_iff, decide_eq_true_iff]
  exact reachS_in hv i

theorem srt_prefix (g : List Bl) (l : List Nat) (k : Nat) : srt g l k <+: srt g l (k + 1) := by
  by_cases h : k ∈ l
  · rw [srt_yes h]; exact List.prefix_append _ _
  · rw [srt_no h]; exact List.prefix_refl _

theorem srt_prefixes (g : List Bl) (l : List Nat) (k : Nat) : ∀ d, srt g l k <+: srt g l (k + d)
  | 0 => List.prefix_refl _
  | d + 1 => (srt_prefixes g l k d).trans (srt_prefix g l (k + d))

/-- How many of the first k blocks are left. -/
def leftN (g : List Bl) (k : Nat) : Nat := (srt g (reachS g) k).length

theorem leftN_zero (g : List Bl) : leftN g 0 = 0 := rfl
theorem leftN_all {g : List Bl} (hv : validB g = true) : leftN g g.length = (reachS g).length := by unfold leftN; rw [srt_self hv]
theorem leftN_yes {g : List Bl} {k : Nat} (h : k ∈ reachS g) : leftN g (k + 1) = leftN g k + 1 := by unfold leftN; rw [srt_yes h]; simp
theorem leftN_no {g : List Bl} {k : Nat} (h : k ∉ reachS g) : leftN g (k + 1) = leftN g k := by unfold leftN; rw [srt_no h]
theorem leftN_le (g : List Bl) (k : Nat) : leftN g k ≤ k := srt_len g _ k

theorem leftN_at {g : List Bl} (hv : validB g = true) {k : Nat} (hk : k < g.length) (h : k ∈ reachS g) : ∃ hl : leftN g k < (reachS g).length, (reachS g)[leftN g k] = k := by
  have hp := srt_prefixes g (reachS g) (k + 1) (g.length - (k + 1))
  rw [show k + 1 + (g.length - (k + 1)) = g.length by omega, srt_self hv, srt_yes h] at hp
  obtain ⟨r, hr⟩ := hp
  have hlen : leftN g k < (reachS g).length := by
    rw [← hr]; unfold leftN; simp
  refine ⟨hlen, ?_⟩
  have h1 : (reachS g)[leftN g k]? = some k := by
    rw [← hr, List.append_assoc]
    show (srt g (reachS g) k ++ ([k] ++ r))[(srt g (reachS g) k).length]? = some k
    rw [List.getElem?_append_right (Nat.le_refl _)]
    simp
  exact Option.some.inj ((List.getElem?_eq_getElem hlen).symm.trans h1)

/-- The k-th letter of all names beside the letter of the names that are left: the same just where the block is left. -/
theorem left_byte {g : List Bl} (hv : validB g = true) {a b : ByteArray} (ha : a = names g) (hb : b = namesAt g (reachS g)) {k : Nat} (hk : k < g.length) :
    ∃ hka : k < a.size, (k ∈ reachS g → ∃ hm : leftN g k < b.size, a[k] = b[leftN g k]) ∧ (k ∉ reachS g → ∀ hm : leftN g k < b.size, a[k] ≠ b[leftN g k]) := by
  have ha2 : a = namesAt g (List.range g.length) := by rw [ha, namesAt_all g g.length (Nat.le_refl _), List.take_length]
  have hr : ∀ i ∈ List.range g.length, i < g.length := fun i hi => List.mem_range.1 hi
  subst ha2
  subst hb
  obtain ⟨h1, h2, h3⟩ := namesAt_byte hv hr (k := k) (by simpa using hk)
  have h3' : g[k].1 = ⟨#[(namesAt g (List.range g.length))[k]'h2]⟩ := by rw [← h3]; congr 2; simp
  refine ⟨h2, fun hin => ?_, fun hin hm => ?_⟩
  · obtain ⟨hl, e⟩ := leftN_at hv hk hin
    obtain ⟨q1, q2, q3⟩ := namesAt_byte hv (reachS_lt g) hl
    refine ⟨q2, ?_⟩
    have q3' : g[k].1 = ⟨#[(namesAt g (reachS g))[leftN g k]'q2]⟩ := by rw [← q3]; congr 2; exact e.symm
    rw [h3'] at q3'
    injection q3' with q
    simpa using q
  · intro e
    have hl : leftN g k < (reachS g).length := by rw [namesAt_size hv _ (reachS_lt g)] at hm; exact hm
    obtain ⟨q1, q2, q3⟩ := namesAt_byte hv (reachS_lt g) hl
    have := name_inj hv hk q1 (by rw [h3', q3, e])
    exact hin (this ▸ List.getElem_mem hl)

theorem prune_same {g : List Bl} : decide ((reachS g).length = g.length) = eqG g (pruneG g) := by
  by_cases h : (reachS g).length = g.length
  · have hf : reachS g = List.range g.length := by
      rw [reachS_srt] at h ⊢
      unfold srt at h ⊢
      have hs : List.filter (fun i => decide (i ∈ reach g)) (List.range g.length) = List.range g.length :=
        List.Sublist.eq_of_length List.filter_sublist (by rw [h]; simp)
      exact hs
    have : pruneG g = g := by
      unfold pruneG
      rw [hf]
      apply List.ext_getElem
      · simp
      · intro i h1 h2
        simp only [List.getElem_map, List.getElem_range]
        rw [nthName_at h2, nthNext_at h2]
    rw [decide_eq_true h, this, eqG_iff.2 rfl]
  · rw [decide_eq_false h]
    cases hx : eqG g (pruneG g) with
    | false => rfl
    | true =>
      have := congrArg List.length (eqG_iff.1 hx)
      rw [pruneG_length] at this
      exact absurd this.symm h

theorem nexts_prune (g : List Bl) : ∀ k, k ≤ g.length → nexts (pruneTo g k) ≤ nexts (g.take k)
  | 0, _ => Nat.le_refl _
  | k + 1, h => by
    have ih := nexts_prune g k (by omega)
    rw [nexts_take g k (by omega)]
    by_cases hin : k ∈ reachS g
    · rw [pruneTo_yes (by omega) hin]
      unfold nexts at ih ⊢
      rw [List.map_append, List.sum_append]
      simp only [List.map_cons, List.map_nil, List.sum_cons, List.sum_nil]
      omega
    · rw [pruneTo_no hin]; omega

theorem nexts_pruned {g : List Bl} (hv : validB g = true) : nexts (pruneG g) ≤ nexts g := by
  have := nexts_prune g g.length (Nat.le_refl _)
  rwa [pruneTo_all hv, List.take_length] at this

theorem tot_small : ∀ l : List Bl, (∀ b ∈ l, b.1.size ≤ 1 ∧ b.2.size ≤ 2) → tot l ≤ 3 * l.length
  | [], _ => Nat.le_refl _
  | b :: l, h => by
    have ih := tot_small l (fun c hc => h c (by simp [hc]))
    have := h b (by simp)
    show b.1.size + b.2.size + tot l ≤ 3 * (l.length + 1)
    omega

theorem valid_tot {g : List Bl} (hv : validB g = true) : g.length + tot g ≤ 104 := by
  have h := tot_small g (fun b hb => by
    obtain ⟨k, hk, rfl⟩ := List.getElem_of_mem hb
    obtain ⟨c, hc, _⟩ := valid_one hv (List.getElem_mem hk)
    exact ⟨by rw [hc]; exact Nat.le_refl _, (nextB_iff.1 (nextsB_iff.1 (valid_iff.1 hv).2.2.2 k hk)).1⟩)
  have := (valid_iff.1 hv).2.1
  omega
end Go.Proofs.Yteodlcgmncchpaa
