/-
  Which blocks are left when blocks are left out, and how they go on: plain facts.
-/
import Derived.Test.YtklnhbfpmmdhjaaGreatPruneFacts
namespace Go.Proofs.YtklnhbfpmmdhjaaGreat
open Go.RowKit Go.Sort

/-- Which block of a graph is the j-th that is left. -/
def rho (g : List Bl) (j : Nat) : Nat := (reachS g).getD j 0

section
variable {g : List Bl}

theorem rho_at {j : Nat} (hj : j < (reachS g).length) : rho g j = (reachS g)[j] := by unfold rho; rw [List.getD_eq_getElem?_getD, List.getElem?_eq_getElem hj]; rfl
theorem rho_mem {j : Nat} (hj : j < (reachS g).length) : rho g j ∈ reachS g := by rw [rho_at hj]; exact List.getElem_mem hj
theorem rho_lt {j : Nat} (hj : j < (reachS g).length) : rho g j < g.length := reachS_lt g _ (rho_mem hj)
theorem rho_of {t : Nat} (ht : t ∈ reachS g) : ∃ j, j < (reachS g).length ∧ rho g j = t := by
  obtain ⟨j, hj, e⟩ := List.getElem_of_mem ht
  exact ⟨j, hj, by rw [rho_at hj, e]⟩
theorem rho_inj {i j : Nat} (hi : i < (reachS g).length) (hj : j < (reachS g).length) (h : rho g i = rho g j) : i = j := by
  rw [rho_at hi, rho_at hj] at h
  exact (List.getElem_inj (reachS_sep g)).1 h

theorem prune_at {j : Nat} (hj : j < (reachS g).length) : ∃ h : j < (pruneG g).length, (pruneG g)[j] = g[rho g j]'(rho_lt hj) :=
  ⟨by rw [pruneG_length]; exact hj, pruneG_at hj (rho_at hj).symm (rho_lt hj)⟩

theorem prune_name' {j : Nat} (hj : j < (reachS g).length) : nthName (pruneG g) j = nthName g (rho g j) := by
  obtain ⟨h, e⟩ := prune_at hj
  rw [nthName_at h, nthName_at (rho_lt hj), e]

theorem prune_nxts (hv : validB g = true) {j : Nat} (hj : j < (reachS g).length) : (nxt (pruneG g) j).map (rho g) = nxt g (rho g j) := by
  obtain ⟨h, e⟩ := prune_at hj
  have hx := rho_lt hj
  have hpv := prune_valid hv
  unfold nxt
  rw [nthNext_at h, nthNext_at hx, e, List.map_map]
  refine List.map_congr_left fun c hc => ?_
  obtain ⟨k, hk, ec⟩ := List.getElem_of_mem hc
  have hk' : k < (g[rho g j]'hx).2.size := by rw [← list_of_size]; exact hk
  obtain ⟨t, ht, hget, hpos, hn⟩ := nxt_get hv hx hk'
  have hb : (g[rho g j]'hx).2[k]'hk' = c := by
    have h1 := byte_at (g[rho g j]'hx).2 k hk'
    rw [List.getElem?_eq_getElem hk, ec] at h1
    exact (Option.some.inj h1).symm
  rw [hb] at hpos hn
  have htr : t ∈ reachS g := reachS_closed hv (rho_mem hj) (List.mem_of_getElem? hget)
  obtain ⟨j', hj', ej⟩ := rho_of htr
  obtain ⟨h', e'⟩ := prune_at hj'
  have hnm : (pruneG g)[j'].1 = ⟨#[c]⟩ := by
    rw [e']
    have : g[rho g j']'(rho_lt hj') = g[t] := by congr 1
    rw [this, hn]
  have hpp : posOf (pruneG g) ⟨#[c]⟩ = some j' := by rw [← hnm]; exact posOf_name hpv h'
  simp only [Function.comp, hpp, hpos, Option.getD_some, ej]

theorem prune_lt (hv : validB g = true) {j t : Nat} (hj : j < (reachS g).length) (ht : t ∈ nxt (pruneG g) j) : t < (reachS g).length := by
  have := nxt_lt (prune_valid hv) (by rw [pruneG_length]; exact hj) ht
  rwa [pruneG_length] at this

theorem rho_zero (hv : validB g = true) : rho g 0 = 0 ∧ 0 < (reachS g).length := by
  obtain ⟨h, e⟩ := reachS_first hv
  exact ⟨by rw [rho_at h, e], h⟩

end
end Go.Proofs.YtklnhbfpmmdhjaaGreat
