/-
  What PruneGraph leaves of a graph: plain facts.
-/
import Derived.Test.YtibjldngdhcpaaaPrune
namespace Go.Proofs.Ytibjldngdhcpaaa
open Go.RowKit Go.Sort

/-- What a block that can be come to goes on to can be come to. -/
theorem reach_closed {g : List Bl} (hv : validB g = true) {i t : Nat} (hi : i ∈ reach g) (ht : t ∈ nxt g i) : t ∈ reach g := by
  obtain ⟨k, hk, e⟩ := List.getElem_of_mem hi
  have hlen := reach_len hv
  have hkb : k < (bfs g k).length := by
    rcases Nat.lt_or_ge k (bfs g k).length with h | h
    · exact h
    · have := bfs_more h (g.length - k)
      rw [show k + (g.length - k) = g.length by omega] at this
      unfold reach at hk
      rw [this] at hk
      omega
  have hg := bfs_get (g := g) (k := k) (by omega) hkb
  have he : (bfs g k)[k] = i := by
    have h1 : ((bfs g k).take (k + 1))[k]? = ((reach g).take (k + 1))[k]? := by rw [hg]
    rw [List.getElem?_take_of_lt (by omega), List.getElem?_take_of_lt (by omega), List.getElem?_eq_getElem hkb, List.getElem?_eq_getElem hk, e] at h1
    exact Option.some.inj h1
  have hs := bfs_step hkb
  rw [he] at hs
  have hm : t ∈ bfs g (k + 1) := by rw [hs]; exact (stepL_mem _ _ _).2 (.inr ht)
  exact (bfs_reach (g := g) (k := k + 1) (by omega)).subset hm

theorem reachS_closed {g : List Bl} (hv : validB g = true) {i t : Nat} (hi : i ∈ reachS g) (ht : t ∈ nxt g i) : t ∈ reachS g := by
  have key : ∀ j, j ∈ reachS g ↔ j ∈ reach g := fun j => by
    rw [reachS_srt]; unfold srt
    rw [List.mem_filter, List.mem_range]
    constructor
    · rintro ⟨_, h⟩; simpa using h
    · intro h; exact ⟨reach_lt hv h, by simpa using h⟩
  exact (key t).2 (reach_closed hv ((key i).1 hi) ht)

/-- The names of what is left are those of the blocks that are reached. -/
theorem names_prune (g : List Bl) : ∀ l : List Nat, names (l.map fun i => (nthName g i, nthNext g i)) = namesAt g l
  | [] => rfl
  | i :: l => by
    have ih := names_prune g l
    simp only [List.map_cons, namesAt]
    rw [← ih]
    rfl

theorem reachS_in {g : List Bl} (hv : validB g = true) (j : Nat) : j ∈ reachS g ↔ j ∈ reach g := by
  rw [reachS_srt]; unfold srt
  rw [List.mem_filter, List.mem_range]
  constructor
  · rintro ⟨_, h⟩; simpa using h
  · intro h; exact ⟨reach_lt hv h, by simpa using h⟩

theorem reachS_sep (g : List Bl) : (reachS g).Nodup := by
  rw [reachS_srt]; unfold srt
  exact List.Pairwise.filter _ List.nodup_range

theorem reachS_zero {g : List Bl} (hv : validB g = true) : 0 ∈ reachS g := by
  rw [reachS_in hv]
  exact (bfs_reach (g := g) (k := 0) (by omega)).subset (by simp [bfs])

theorem prune_names (g : List Bl) (k : Nat) : names ((pruneG g).take k) = namesAt g ((reachS g).take k) := by
  unfold pruneG
  rw [← List.map_take, names_prune]

theorem prune_names_all (g : List Bl) : names (pruneG g) = namesAt g (reachS g) := names_prune g _

theorem prune_valid {g : List Bl} (hv : validB g = true) : validB (pruneG g) = true := by
  have hle : (reachS g).length ≤ 26 := by have := srt_len g (reach g) g.length; rw [← reachS_srt] at this; have := (valid_iff.1 hv).2.1; omega
  have h0 : 0 < (reachS g).length := List.length_pos_of_mem (reachS_zero hv)
  refine valid_iff.2 ⟨by rw [pruneG_length]; exact h0, by rw [pruneG_length]; exact hle, newsB_iff.2 fun k hk => ?_, nextsB_iff.2 fun k hk => ?_⟩
  all_goals
    have hkr : k < (reachS g).length := by rw [← pruneG_length]; exact hk
    have hxl : (reachS g)[k] < g.length := reachS_lt g _ (List.getElem_mem hkr)
    have hP := pruneG_at hkr rfl hxl
    rw [hP]
  · have hn := newsB_iff.1 (valid_iff.1 hv).2.2.1 _ hxl
    obtain ⟨c, hc, _⟩ := valid_one hv (List.getElem_mem hxl)
    unfold newB at hn ⊢
    rw [(Bool.and_eq_true_iff.1 hn).1, Bool.true_and, prune_names, hc]
    simp only [Bool.not_eq_true']
    rw [Bool.eq_false_iff]
    intro h
    have hm : c ∈ (namesAt g ((reachS g).take k)).data.toList := by simpa using h
    obtain ⟨i, hi, hci⟩ := mem_namesAt.1 hm
    obtain ⟨j, hj, hji⟩ := List.getElem_of_mem hi
    have hjk : j < k := by simp at hj; omega
    have hjl : j < (reachS g).length := by omega
    have hji' : (reachS g)[j] = i := by rw [← hji]; simp
    have hil : i < g.length := hji' ▸ reachS_lt g _ (List.getElem_mem hjl)
    obtain ⟨d, hd, _⟩ := valid_one hv (List.getElem_mem hil)
    rw [nthName_at hil, hd] at hci
    have hcd : c = d := by simpa using hci
    have := name_inj hv hil hxl (by rw [hd, hc, hcd])
    rw [← hji'] at this
    have := (List.getElem_inj (reachS_sep g)).1 this
    omega
  · have hn := nextB_iff.1 (nextsB_iff.1 (valid_iff.1 hv).2.2.2 _ hxl)
    refine nextB_iff.2 ⟨hn.1, fun j hj => ?_, hn.2.2⟩
    obtain ⟨t, htl, hget, _, hnm⟩ := nxt_get hv hxl hj
    rw [idx_mem, prune_names_all]
    refine mem_namesAt.2 ⟨t, reachS_closed hv (List.getElem_mem hkr) (List.mem_of_getElem? hget), ?_⟩
    rw [nthName_at htl, hnm]
    simp

/-- The search finds no more than any set that is closed. -/
theorem reach_least {g : List Bl} (S : Nat → Prop) (h0 : S 0) (hc : ∀ i t, S i → t ∈ nxt g i → S t) : ∀ i, i ∈ reach g → S i := by
  have key : ∀ k, ∀ i ∈ bfs g k, S i := by
    intro k
    induction k with
    | zero => intro i hi; simp [bfs] at hi; subst hi; exact h0
    | succ k ih =>
      intro i hi
      by_cases h : k < (bfs g k).length
      · rw [bfs_step h] at hi
        rcases (stepL_mem _ _ _).1 hi with h1 | h1
        · exact ih i h1
        · exact hc _ _ (ih _ (List.getElem_mem h)) h1
      · rw [bfs_stay (by omega)] at hi
        exact ih i hi
  exact key _

theorem prune_name {g : List Bl} {j t : Nat} (hj : j < (reachS g).length) (e : (reachS g)[j] = t) (ht : t < g.length) : ∃ h : j < (pruneG g).length, (pruneG g)[j] = g[t] :=
  ⟨by rw [pruneG_length]; exact hj, pruneG_at hj e ht⟩

/-- To what goes a block of what is left: as before, by the new numbers. -/
theorem prune_nxt {g : List Bl} (hv : validB g = true) {k x t : Nat} (hk : k < (reachS g).length) (e : (reachS g)[k] = x) (ht : t ∈ nxt g x) : ∃ j, ∃ hj : j < (reachS g).length, (reachS g)[j] = t ∧ j ∈ nxt (pruneG g) k := by
  have hxl : x < g.length := e ▸ reachS_lt g _ (List.getElem_mem hk)
  have htl := nxt_lt hv hxl ht
  have htr := reachS_closed hv (e ▸ List.getElem_mem hk) ht
  obtain ⟨j, hj, hjt⟩ := List.getElem_of_mem htr
  obtain ⟨hk', hkx⟩ := prune_name hk e hxl
  obtain ⟨hj', hjx⟩ := prune_name hj hjt htl
  obtain ⟨c, hc, _⟩ := valid_one hv (List.getElem_mem htl)
  refine ⟨j, hj, hjt, ?_⟩
  rw [nxt_mem (prune_valid hv) hk' hj' (c := c) (by rw [hjx, hc]), hkx]
  exact (nxt_mem hv hxl htl hc).1 ht

theorem reachS_first {g : List Bl} (hv : validB g = true) : ∃ h : 0 < (reachS g).length, (reachS g)[0] = 0 := by
  have h0 := reachS_zero hv
  have hp := List.length_pos_of_mem h0
  refine ⟨hp, ?_⟩
  have hpos := (valid_iff.1 hv).1
  obtain ⟨m, hm⟩ : ∃ m, g.length = m + 1 := ⟨g.length - 1, by omega⟩
  have h0r := (reachS_in hv 0).1 h0
  have : reachS g = 0 :: ((List.range' 1 m).filter fun i => decide (i ∈ reach g)) := by
    rw [reachS_srt]; unfold srt
    rw [hm, List.range_eq_range', List.range'_succ, List.filter_cons, if_pos (by simpa using h0r)]
  simp only [this, List.getElem_cons_zero]

/-- All that is left can be come to. -/
theorem prune_reach {g : List Bl} (hv : validB g = true) {j : Nat} (hj : j < (reachS g).length) : j ∈ reach (pruneG g) := by
  have hPv := prune_valid hv
  obtain ⟨hz, h0⟩ := reachS_first hv
  have hS := reach_least (g := g) (fun i => ∃ j, ∃ hj : j < (reachS g).length, (reachS g)[j] = i ∧ j ∈ reach (pruneG g))
    ⟨0, hz, h0, (reachS_in hPv 0).1 (reachS_zero hPv)⟩
    (fun i t ⟨k, hk, e, hkr⟩ ht => by
      obtain ⟨j, hj, e2, hjn⟩ := prune_nxt hv hk e ht
      exact ⟨j, hj, e2, reach_closed hPv hkr hjn⟩)
  obtain ⟨j', hj', e, hr⟩ := hS _ ((reachS_in hv _).1 (List.getElem_mem hj))
  have := (List.getElem_inj (reachS_sep g)).1 e
  subst this
  exact hr

theorem prune_reachS {g : List Bl} (hv : validB g = true) : reachS (pruneG g) = List.range (pruneG g).length := by
  rw [reachS_srt]; unfold srt
  refine List.filter_eq_self.2 fun i hi => ?_
  have := List.mem_range.1 hi
  rw [pruneG_length] at this
  simpa using prune_reach hv this

/-- Pruned twice is pruned once. -/
theorem prune_twice {g : List Bl} (hv : validB g = true) : pruneG (pruneG g) = pruneG g := by
  show (reachS (pruneG g)).map (fun i => (nthName (pruneG g) i, nthNext (pruneG g) i)) = pruneG g
  rw [prune_reachS hv]
  apply List.ext_getElem
  · simp
  · intro i h1 h2
    simp only [List.getElem_map, List.getElem_range]
    rw [nthName_at h2, nthNext_at h2]
end Go.Proofs.Ytibjldngdhcpaaa

/-
  Which blocks are left when blocks are left out, and how they go on: plain facts.
-/
namespace Go.Proofs.Ytibjldngdhcpaaa
open Go.RowKit Go.Sort

/-- Which block of a graph is the j-th that is left. -/
def rho (g : List Bl) (j : Nat) : Nat := (reachS g).getD j 0

section
variable {g : List Bl}

theorem rho_at {j : Nat} (hj : j < (reachS g).length) : rho g j = (reachS g)[j] := by unfold rho; rw [List.getD_eq_getElem?_getD, List.getElem?_eq_getElem hj]; rfl
theorem rho_mem {j : Nat} (hj : j < (reachS g).length) : rho g j ∈ reachS g := by rw [rho_at hj]; exact List.getElem_mem hj
theorem rho_lt {j : Nat} (hj : j < (reachS g).length) : rho g j < g.length := reachS_lt g _ (rho_mem hj)
theorem rho_of {t : Nat} (ht : t ∈ reachS g) : ∃ j, j < (reachS g).length ∧ rho g j = t := by
  obtain ⟨j, hj, e⟩ := List.getElem_of_mem ht
  exact ⟨j, hj, by rw [rho_at hj, e]⟩
theorem rho_inj {i j : Nat} (hi : i < (reachS g).length) (hj : j < (reachS g).length) (h : rho g i = rho g j) : i = j := by
  rw [rho_at hi, rho_at hj] at h
  exact (List.getElem_inj (reachS_sep g)).1 h

theorem prune_at {j : Nat} (hj : j < (reachS g).length) : ∃ h : j < (pruneG g).length, (pruneG g)[j] = g[rho g j]'(rho_lt hj) :=
  ⟨by rw [pruneG_length]; exact hj, pruneG_at hj (rho_at hj).symm (rho_lt hj)⟩

theorem prune_name' {j : Nat} (hj : j < (reachS g).length) : nthName (pruneG g) j = nthName g (rho g j) := by
  obtain ⟨h, e⟩ := prune_at hj
  rw [nthName_at h, nthName_at (rho_lt hj), e]

theorem prune_nxts (hv : validB g = true) {j : Nat} (hj : j < (reachS g).length) : (nxt (pruneG g) j).map (rho g) = nxt g (rho g j) := by
  obtain ⟨h, e⟩ := prune_at hj
  have hx := rho_lt hj
  have hpv := prune_valid hv
  unfold nxt
  rw [nthNext_at h, nthNext_at hx, e, List.map_map]
  refine List.map_congr_left fun c hc => ?_
  obtain ⟨k, hk, ec⟩ := List.getElem_of_mem hc
  have hk' : k < (g[rho g j]'hx).2.size := by rw [← list_of_size]; exact hk
  obtain ⟨t, ht, hget, hpos, hn⟩ := nxt_get hv hx hk'
  have hb : (g[rho g j]'hx).2[k]'hk' = c := by
    have h1 := byte_at (g[rho g j]'hx).2 k hk'
    rw [List.getElem?_eq_getElem hk, ec] at h1
    exact (Option.some.inj h1).symm
  rw [hb] at hpos hn
  have htr : t ∈ reachS g := reachS_closed hv (rho_mem hj) (List.mem_of_getElem? hget)
  obtain ⟨j', hj', ej⟩ := rho_of htr
  obtain ⟨h', e'⟩ := prune_at hj'
  have hnm : (pruneG g)[j'].1 = ⟨#[c]⟩ := by
    rw [e']
    have : g[rho g j']'(rho_lt hj') = g[t] := by congr 1
    rw [this, hn]
  have hpp : posOf (pruneG g) ⟨#[c]⟩ = some j' := by rw [← hnm]; exact posOf_name hpv h'
  simp only [Function.comp, hpp, hpos, Option.getD_some, ej]

theorem prune_lt (hv : validB g = true) {j t : Nat} (hj : j < (reachS g).length) (ht : t ∈ nxt (pruneG g) j) : t < (reachS g).length := by
  have := nxt_lt (prune_valid hv) (by rw [pruneG_length]; exact hj) ht
  rwa [pruneG_length] at this

theorem rho_zero (hv : validB g = true) : rho g 0 = 0 ∧ 0 < (reachS g).length := by
  obtain ⟨h, e⟩ := reachS_first hv
  exact ⟨by rw [rho_at h, e], h⟩

end
end Go.Proofs.Ytibjldngdhcpaaa
