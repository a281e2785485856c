/-
  The nest's parts are the model's: plain facts.
-/
import Derived.Test.YtdpjdhllaokbfaaGreatNestTops
import Derived.Test.YtdpjdhllaokbfaaGreatDomSpec
namespace Go.Proofs.YtdpjdhllaokbfaaGreat
open Go.RowKit Go.Sort Go.Shelf

theorem mem_reachS {g : List Bl} (hv : validB g = true) {i : Nat} : i ∈ reachS g ↔ i ∈ reach g := ⟨fun h => (reachS_perm hv).subset h, fun h => (reachS_perm hv).symm.subset h⟩
theorem named_liveP {g : List Bl} (hv : validB g = true) (s : ByteArray) : named g (reachS g) s = liveOf g s := by
  cases hn : named g (reachS g) s with
  | some i =>
    obtain ⟨h1, h2⟩ := named_is hn
    have hil : i < g.length := reach_lt hv ((mem_reachS hv).1 h1)
    rw [liveOf_some hv (by rw [← h2, nthName_at hil]; exact posOf_name hv hil) ((mem_reachS hv).1 h1)]
  | none =>
    cases hl : liveOf g s with
    | none => rfl
    | some i =>
      obtain ⟨_, hp, hr⟩ := liveOf_is hl
      obtain ⟨hil, hnm⟩ := posOf_is hp
      unfold named at hn
      rw [List.find?_eq_none] at hn
      exact absurd (by rw [nthName_at hil, hnm]; simp) (hn i ((mem_reachS hv).2 hr))
/-- Whether a block's name is among those of some blocks. -/
theorem hasB_is {g : List Bl} (hv : validB g = true) {r : PT} (hr : ∀ x ∈ r.1, x < g.length) {i : Nat} (hi : i < g.length) : hasB g r (nthName g i) = decide (i ∈ r.1) := by
  unfold hasB
  rw [Bool.eq_iff_iff, decide_eq_true_eq]
  constructor
  · intro h
    obtain ⟨k, hk⟩ := Option.isSome_iff_exists.1 h
    obtain ⟨h1, h2⟩ := named_is hk
    have hkl := hr k h1
    rw [nthName_at hkl, nthName_at hi] at h2
    have := name_inj hv hkl hi h2
    subst this; exact h1
  · intro h
    unfold named
    rw [List.find?_isSome]
    exact ⟨i, h, by simp⟩
theorem hasB_no {g : List Bl} (hv : validB g = true) {r : PT} (hr : ∀ x ∈ r.1, x ∈ reachS g) {s : ByteArray} (h : liveOf g s = none) : hasB g r s = false := by
  unfold hasB
  cases hn : named g r.1 s with
  | none => rfl
  | some i =>
    obtain ⟨h1, h2⟩ := named_is hn
    rw [← named_liveP hv] at h
    unfold named at h
    rw [List.find?_eq_none] at h
    exact absurd (by simp [h2]) (h i (hr i h1))

/-- The item of a block that is the first of its part. -/
theorem itemO_part {g : List Bl} {S : List Nat} {f : List Nat → List NI} {i : Nat} {P D : List Nat} {W : List NI} (h : itemO g S f i = some (.part P D W)) : P = partL g S i ∧ P ≠ [] ∧ P.head? = some i ∧ D = doorsL g P ∧ W = if (doorsL g P).length = 1 then f (restL P (doorsL g P)) else [] := by
  unfold itemO at h
  by_cases hp : partL g S i = []
  · rw [if_pos hp] at h; cases h
  · rw [if_neg hp] at h
    by_cases hh : (partL g S i).head? = some i
    · rw [if_pos hh] at h
      have := Option.some.inj h
      injection this with e1 e2 e3
      subst e1
      exact ⟨rfl, hp, hh, e2.symm, e3.symm⟩
    · rw [if_neg hh] at h; cases h
theorem mem_outer {g : List Bl} {m : Nat} {S : List Nat} {r : PT} (h : r ∈ outerP (nestF g (m + 1) S)) : ∃ j ∈ S, r.1 = partL g S j ∧ r.1 ≠ [] ∧ r.1.head? = some j ∧ r.2.1 = doorsL g r.1 ∧ r.2.2 = if (doorsL g r.1).length = 1 then nestF g m (restL r.1 (doorsL g r.1)) else [] := by
  obtain ⟨x, hx, hr⟩ := List.mem_flatMap.1 h
  rw [nestF_succ] at hx
  obtain ⟨j, hj, hit⟩ := List.mem_filterMap.1 hx
  cases x with
  | blk k => cases hr
  | part P D W =>
    have e := List.mem_singleton.1 hr
    obtain ⟨h1, h2, h3, h4, h5⟩ := itemO_part hit
    subst e
    exact ⟨j, hj, h1, h2, h3, h4, h5⟩
theorem outer_has {g : List Bl} {m : Nat} {S : List Nat} (hS : ∀ x ∈ S, x < g.length) {i : Nat} (hp : partL g S i ≠ []) : (partL g S i, doorsL g (partL g S i), if (doorsL g (partL g S i)).length = 1 then nestF g m (restL (partL g S i) (doorsL g (partL g S i))) else []) ∈ outerP (nestF g (m + 1) S) := by
  cases hq : partL g S i with
  | nil => exact absurd hq hp
  | cons j js =>
    have hj : j ∈ partL g S i := by rw [hq]; exact List.mem_cons_self
    have hjS := partL_sub hS hj
    have e := partL_same hS hj
    rw [nestF_succ]
    refine List.mem_flatMap.2 ⟨.part (partL g S i) (doorsL g (partL g S i)) (if (doorsL g (partL g S i)).length = 1 then nestF g m (restL (partL g S i) (doorsL g (partL g S i))) else []), List.mem_filterMap.2 ⟨j, hjS, ?_⟩, ?_⟩
    · unfold itemO
      rw [e, if_neg hp, if_pos (by rw [hq]; rfl)]
    · rw [hq]; exact List.mem_singleton.2 rfl
/-- The part among some blocks in which one is. -/
theorem outer_find {g : List Bl} {m : Nat} {S : List Nat} (hS : ∀ x ∈ S, x < g.length) (i : Nat) : (outerP (nestF g (m + 1) S)).find? (fun r => decide (i ∈ r.1)) = if partL g S i = [] then none else some (partL g S i, doorsL g (partL g S i), if (doorsL g (partL g S i)).length = 1 then nestF g m (restL (partL g S i) (doorsL g (partL g S i))) else []) := by
  by_cases hp : partL g S i = []
  · rw [if_pos hp, List.find?_eq_none]
    intro r hr h
    obtain ⟨j, hj, e, _⟩ := mem_outer hr
    rw [decide_eq_true_eq, e] at h
    have e2 := partL_same hS h
    rw [hp] at e2
    rw [← e2] at h; cases h
  · rw [if_neg hp]
    cases hf : (outerP (nestF g (m + 1) S)).find? (fun r => decide (i ∈ r.1)) with
    | none =>
      rw [List.find?_eq_none] at hf
      have := hf _ (outer_has (m := m) hS hp)
      cases hq : partL g S i with
      | nil => exact absurd hq hp
      | cons j js =>
        have hj : j ∈ partL g S i := by rw [hq]; exact List.mem_cons_self
        exact absurd (by simpa using partL_self hS hj) this
    | some r =>
      have h1 := List.find?_some hf
      have h2 := List.mem_of_find?_eq_some hf
      rw [decide_eq_true_eq] at h1
      obtain ⟨j, hj, e, _, _, e4, e5⟩ := mem_outer h2
      have e2 : r.1 = partL g S i := by rw [e] at h1 ⊢; exact (partL_same hS h1).symm
      obtain ⟨P, D, W⟩ := r
      simp only at e2 e4 e5
      subst e2 e4 e5
      rfl

theorem reach_ok {g : List Bl} (hv : validB g = true) : ∀ x ∈ reachS g, x < g.length := fun _ h => reachS_lt hv h
theorem outerV_live {g : List Bl} {s : ByteArray} {i : Nat} (h : liveOf g s = some i) : outerV g s = if partL g (reachS g) i = [] then none else some (partL g (reachS g) i, doorsL g (partL g (reachS g) i), if (doorsL g (partL g (reachS g) i)).length = 1 then nestF g 25 (restL (partL g (reachS g) i) (doorsL g (partL g (reachS g) i))) else []) := by
  obtain ⟨hv, hp, hr⟩ := liveOf_is h
  obtain ⟨hi, hnm⟩ := posOf_is hp
  unfold outerV outerO nestG
  rw [if_pos hv, ← outer_find (m := 25) (reach_ok hv) i]
  have key : ∀ l : List PT, (∀ r ∈ l, ∀ x ∈ r.1, x < g.length) → l.find? (fun r => hasB g r s) = l.find? (fun r => decide (i ∈ r.1)) := by
    intro l
    induction l with
    | nil => intro _; rfl
    | cons a l ih =>
      intro hl
      rw [List.find?_cons, List.find?_cons, ih fun r hr => hl r (List.mem_cons_of_mem _ hr)]
      rw [show hasB g a s = decide (i ∈ a.1) by rw [← hnm, ← nthName_at hi]; exact hasB_is hv (hl a List.mem_cons_self) hi]
  exact key _ fun r hr x hx => by
    obtain ⟨j, _, e, _⟩ := mem_outer hr
    rw [e] at hx
    exact reach_ok hv _ (partL_sub (reach_ok hv) hx)
theorem outerV_dead {g : List Bl} {s : ByteArray} (h : liveOf g s = none) : outerV g s = none := by
  unfold outerV
  by_cases hv : validB g = true
  · rw [if_pos hv]
    unfold outerO
    rw [List.find?_eq_none]
    intro r hr
    obtain ⟨j, _, e, _⟩ := mem_outer (m := 25) hr
    rw [hasB_no hv (fun x hx => by rw [e] at hx; exact partL_sub (reach_ok hv) hx) h]
    simp
  · rw [if_neg hv]

/-- The part of a block of a graph. -/
def partV (g : List Bl) (s : ByteArray) : List Nat := match liveOf g s with | none => [] | some i => partL g (reachS g) i
theorem partV_dead {g : List Bl} {s : ByteArray} (h : liveOf g s = none) : partV g s = [] := by unfold partV; rw [h]
theorem partV_live {g : List Bl} {s : ByteArray} {i : Nat} (h : liveOf g s = some i) : partV g s = partL g (reachS g) i := by unfold partV; rw [h]
theorem partV_lt {g : List Bl} {s : ByteArray} : ∀ x ∈ partV g s, x < g.length ∧ x ∈ reachS g := by
  intro x hx
  cases hl : liveOf g s with
  | none => rw [partV_dead hl] at hx; cases hx
  | some i =>
    obtain ⟨hv, _, _⟩ := liveOf_is hl
    rw [partV_live hl] at hx
    have := partL_sub (reach_ok hv) hx
    exact ⟨reach_ok hv _ this, this⟩
theorem outerV_text (g : List Bl) (s : ByteArray) : textO (fun r => namesAt g r.1) (outerV g s) = namesAt g (partV g s) ∧ (outerV g s).isSome = !(partV g s).isEmpty ∧ textO (fun r => namesAt g r.2.1) (outerV g s) = namesAt g (doorsL g (partV g s)) := by
  cases hl : liveOf g s with
  | none => rw [outerV_dead hl, partV_dead hl]; exact ⟨rfl, rfl, rfl⟩
  | some i =>
    rw [outerV_live hl, partV_live hl]
    by_cases hp : partL g (reachS g) i = []
    · rw [if_pos hp, hp]; exact ⟨rfl, rfl, rfl⟩
    · rw [if_neg hp]
      refine ⟨rfl, ?_, rfl⟩
      cases hq : partL g (reachS g) i with
      | nil => exact absurd hq hp
      | cons j js => rfl
end Go.Proofs.YtdpjdhllaokbfaaGreat
