/-
  What is left when blocks are left out has the same runs and the same ways: plain facts.
-/
import Derived.Test.YteodlcgmncchpaaPruneFacts
import Derived.Test.YteodlcgmncchpaaWayFacts
namespace Go.Proofs.Yteodlcgmncchpaa
open Go.RowKit Go.Sort

/-- Which block of a graph is the j-th that is left. -/
def rho (g : List Bl) (j : Nat) : Nat := (reachS g).getD j 0

section
variable {g : List Bl}

theorem rho_at {j : Nat} (hj : j < (reachS g).length) : rho g j = (reachS g)[j] := by unfold rho; rw [List.getD_eq_getElem?_getD, List.getElem?_eq_getElem hj]; rfl
theorem rho_mem {j : Nat} (hj : j < (reachS g).length) : rho g j ∈ reachS g := by rw [rho_at hj]; exact List.getElem_mem hj
theorem rho_lt {j : Nat} (hj : j < (reachS g).length) : rho g j < g.length := reachS_lt g _ (rho_mem hj)
theorem rho_of {t : Nat} (ht : t ∈ reachS g) : ∃ j, j < (reachS g).length ∧ rho g j = t := by
  obtain ⟨j, hj, e⟩ := List.getElem_of_mem ht
  exact ⟨j, hj, by rw [rho_at hj, e]⟩
theorem rho_inj {i j : Nat} (hi : i < (reachS g).length) (hj : j < (reachS g).length) (h : rho g i = rho g j) : i = j := by
  rw [rho_at hi, rho_at hj] at h
  exact (List.getElem_inj (reachS_sep g)).1 h

theorem prune_at {j : Nat} (hj : j < (reachS g).length) : ∃ h : j < (pruneG g).length, (pruneG g)[j] = g[rho g j]'(rho_lt hj) :=
  ⟨by rw [pruneG_length]; exact hj, pruneG_at hj (rho_at hj).symm (rho_lt hj)⟩

theorem prune_name' {j : Nat} (hj : j < (reachS g).length) : nthName (pruneG g) j = nthName g (rho g j) := by
  obtain ⟨h, e⟩ := prune_at hj
  rw [nthName_at h, nthName_at (rho_lt hj), e]

theorem prune_nxts (hv : validB g = true) {j : Nat} (hj : j < (reachS g).length) : (nxt (pruneG g) j).map (rho g) = nxt g (rho g j) := by
  obtain ⟨h, e⟩ := prune_at hj
  have hx := rho_lt hj
  have hpv := prune_valid hv
  unfold nxt
  rw [nthNext_at h, nthNext_at hx, e, List.map_map]
  refine List.map_congr_left fun c hc => ?_
  obtain ⟨k, hk, ec⟩ := List.getElem_of_mem hc
  have hk' : k < (g[rho g j]'hx).2.size := by rw [← list_of_size]; exact hk
  obtain ⟨t, ht, hget, hpos, hn⟩ := nxt_get hv hx hk'
  have hb : (g[rho g j]'hx).2[k]'hk' = c := by
    have h1 := byte_at (g[rho g j]'hx).2 k hk'
    rw [List.getElem?_eq_getElem hk, ec] at h1
    exact (Option.some.inj h1).symm
  rw [hb] at hpos hn
  have htr : t ∈ reachS g := reachS_closed hv (rho_mem hj) (List.mem_of_getElem? hget)
  obtain ⟨j', hj', ej⟩ := rho_of htr
  obtain ⟨h', e'⟩ := prune_at hj'
  have hnm : (pruneG g)[j'].1 = ⟨#[c]⟩ := by
    rw [e']
    have : g[rho g j']'(rho_lt hj') = g[t] := by congr 1
    rw [this, hn]
  have hpp : posOf (pruneG g) ⟨#[c]⟩ = some j' := by rw [← hnm]; exact posOf_name hpv h'
  simp only [Function.comp, hpp, hpos, Option.getD_some, ej]

theorem prune_lt (hv : validB g = true) {j t : Nat} (hj : j < (reachS g).length) (ht : t ∈ nxt (pruneG g) j) : t < (reachS g).length := by
  have := nxt_lt (prune_valid hv) (by rw [pruneG_length]; exact hj) ht
  rwa [pruneG_length] at this

theorem rho_zero (hv : validB g = true) : rho g 0 = 0 ∧ 0 < (reachS g).length := by
  obtain ⟨h, e⟩ := reachS_first hv
  exact ⟨by rw [rho_at h, e], h⟩

theorem prune_runL (hv : validB g = true) : ∀ (M j : Nat) (left : List UInt8), j < (reachS g).length → (runL (pruneG g) M j left).map (fun x => (rho g x.1, x.2)) = runL g M (rho g j) left ∧ ∀ x ∈ runL (pruneG g) M j left, x.1 < (reachS g).length
  | 0, _, _, _ => ⟨rfl, by simp [runL]⟩
  | M + 1, j, left, hj => by
    have ih := prune_runL hv M
    have hn := prune_nxts hv hj
    have hl := fun t => prune_lt hv (t := t) hj
    cases hp : nxt (pruneG g) j with
    | nil =>
      rw [hp] at hn
      rw [runL_stop hp, runL_stop hn.symm]
      exact ⟨rfl, fun x hx => by simp at hx; subst hx; exact hj⟩
    | cons t r =>
      rw [hp] at hn hl
      have htl := hl t (by simp)
      cases r with
      | nil =>
        have hn' : nxt g (rho g j) = [rho g t] := hn.symm
        obtain ⟨i1, i2⟩ := ih t left htl
        rw [runL_jump hp, runL_jump hn', List.map_cons, i1]
        exact ⟨rfl, fun x hx => by
          rcases List.mem_cons.1 hx with rfl | hx
          · exact hj
          · exact i2 x hx⟩
      | cons u r =>
        have hr : r = [] := by
          rcases goes (prune_valid hv) (i := j) (by rw [pruneG_length]; exact hj) with ⟨e, _⟩ | ⟨p, _, e, _⟩ | ⟨p, q, _, _, e, _⟩
          · rw [e] at hp; cases hp
          · rw [e] at hp; cases hp
          · rw [e] at hp; injection hp with _ hp; injection hp with _ hp; exact hp.symm
        subst hr
        have hul := hl u (by simp)
        have hn' : nxt g (rho g j) = [rho g t, rho g u] := hn.symm
        cases left with
        | nil =>
          rw [runL_ask hp, runL_ask hn']
          exact ⟨rfl, fun x hx => by simp at hx; subst hx; exact hj⟩
        | cons c l =>
          have hcl : (if c = 108 then t else u) < (reachS g).length := by split <;> assumption
          obtain ⟨i1, i2⟩ := ih (if c = 108 then t else u) l hcl
          rw [runL_go hp, runL_go hn', List.map_cons, i1]
          refine ⟨by congr 2; split <;> rfl, fun x hx => ?_⟩
          rcases List.mem_cons.1 hx with rfl | hx
          · exact hj
          · exact i2 x hx

theorem prune_run (hv : validB g = true) (c : ByteArray) : runT (pruneG g) c = runT g c ∧ runE (pruneG g) c = runE g c ∧ runB (pruneG g) c = runB g c := by
  have hpv := prune_valid hv
  have hb : runB (pruneG g) c = runB g c := by unfold runB; rw [hpv, hv]
  obtain ⟨h0, hpos⟩ := rho_zero hv
  obtain ⟨h1, h2⟩ := prune_runL hv 60 0 c.data.toList hpos
  rw [h0] at h1
  have hlast : lastEnd (runOf (pruneG g) c) = lastEnd (runOf g c) := by
    unfold runOf
    rw [← h1]
    unfold lastEnd
    rw [List.getLast?_map]
    cases (runL (pruneG g) 60 0 c.data.toList).getLast? <;> rfl
  have hnames : ∀ l : List (Nat × Nat), (∀ x ∈ l, x.1 < (reachS g).length) → namesAt (pruneG g) (l.map (·.1)) = namesAt g ((l.map fun x => (rho g x.1, x.2)).map (·.1)) := by
    intro l
    induction l with
    | nil => intro _; rfl
    | cons x l ih =>
      intro hl
      simp only [List.map_cons, namesAt]
      rw [prune_name' (hl x (by simp)), ih fun y hy => hl y (by simp [hy])]
  cases hr : runB g c with
  | true =>
    have hr' := hb.trans hr
    refine ⟨?_, ?_, hr'⟩
    · rw [runT_yes hr', runT_yes hr]
      unfold traceOf runOf
      rw [hnames _ h2, h1]
    · rw [runE_yes hr', runE_yes hr]
      unfold endOf
      rw [hlast]
  | false =>
    have hr' := hb.trans hr
    exact ⟨by rw [runT_no hr', runT_no hr], by rw [runE_no hr', runE_no hr], hr'⟩

theorem lab_up (hv : validB g = true) {j c : Nat} (h : Lab (pruneG g) [] j c) : j < (reachS g).length ∧ Lab g [] (rho g j) c := by
  induction h with
  | start _ =>
    obtain ⟨h0, hpos⟩ := rho_zero hv
    exact ⟨hpos, by rw [h0]; exact .start (by simp)⟩
  | jump _ hn _ ih =>
    have e := prune_nxts hv ih.1
    have hl := fun t h => prune_lt hv (t := t) ih.1 h
    rw [hn] at e hl
    exact ⟨hl _ (by simp), .jump ih.2 e.symm (by simp)⟩
  | left _ hn _ ih =>
    have e := prune_nxts hv ih.1
    have hl := fun t h => prune_lt hv (t := t) ih.1 h
    rw [hn] at e hl
    exact ⟨hl _ (by simp), .left ih.2 e.symm (by simp)⟩
  | right _ hn _ ih =>
    have e := prune_nxts hv ih.1
    have hl := fun t h => prune_lt hv (t := t) ih.1 h
    rw [hn] at e hl
    exact ⟨hl _ (by simp), .right ih.2 e.symm (by simp)⟩

theorem lab_down (hv : validB g = true) {i c : Nat} (h : Lab g [] i c) : ∃ j, j < (reachS g).length ∧ rho g j = i ∧ Lab (pruneG g) [] j c := by
  induction h with
  | start _ =>
    obtain ⟨h0, hpos⟩ := rho_zero hv
    exact ⟨0, hpos, h0, .start (by simp)⟩
  | jump _ hn _ ih =>
    obtain ⟨j, hj, ej, hl⟩ := ih
    have e := prune_nxts hv hj
    rw [ej, hn] at e
    obtain ⟨t, ht, rfl⟩ := List.map_eq_singleton_iff.1 e
    exact ⟨t, prune_lt hv hj (by rw [ht]; simp), rfl, .jump hl ht (by simp)⟩
  | left _ hn _ ih =>
    obtain ⟨j, hj, ej, hl⟩ := ih
    have e := prune_nxts hv hj
    rw [ej, hn] at e
    obtain ⟨t, r, ht, rfl, hr⟩ := List.map_eq_cons_iff.1 e
    obtain ⟨u, rfl, rfl⟩ := List.map_eq_singleton_iff.1 hr
    exact ⟨t, prune_lt hv hj (by rw [ht]; simp), rfl, .left hl ht (by simp)⟩
  | right _ hn _ ih =>
    obtain ⟨j, hj, ej, hl⟩ := ih
    have e := prune_nxts hv hj
    rw [ej, hn] at e
    obtain ⟨t, r, ht, rfl, hr⟩ := List.map_eq_cons_iff.1 e
    obtain ⟨u, rfl, rfl⟩ := List.map_eq_singleton_iff.1 hr
    exact ⟨u, prune_lt hv hj (by rw [ht]; simp), rfl, .right hl ht (by simp)⟩

theorem stops_up (hv : validB g = true) {j : Nat} (hj : j < (reachS g).length) : Stops (pruneG g) j ↔ Stops g (rho g j) := by
  have e := prune_nxts hv hj
  constructor
  · rintro ⟨_, h⟩
    rw [h] at e
    exact ⟨rho_lt hj, e.symm⟩
  · rintro ⟨_, h⟩
    rw [h] at e
    exact ⟨by rw [pruneG_length]; exact hj, List.map_eq_nil_iff.1 e⟩

/-- The same ways stop. -/
theorem prune_stops (hv : validB g = true) {s : ByteArray} {ok : Bool} (h : WayAns (pruneG g) (Stops (pruneG g)) s ok) : WayAns g (Stops g) s ok := by
  have hpv := prune_valid hv
  rcases h with ⟨_, h⟩ | ⟨e, _⟩
  · refine .inl ⟨hv, ?_⟩
    rcases h with ⟨rfl, h1, h2, j, hj, hb, hm⟩ | ⟨rfl, rfl, hno⟩
    · obtain ⟨hjl, hlg⟩ := lab_up hv hb.1
      refine .inl ⟨rfl, h1, ?_, rho g j, (stops_up hv hjl).1 hj, ⟨hlg, fun c hc => ?_⟩, fun i c hi hl => ?_⟩
      · have h3 : s.size < (reachS g).length := by rw [← pruneG_length]; exact h2
        have h4 := srt_len g (reach g) g.length
        rw [← reachS_srt] at h4
        omega
      · obtain ⟨j', hj', e, hl'⟩ := lab_down hv hc
        have := rho_inj hj' hjl e
        subst this
        exact hb.2 c hl'
      · obtain ⟨j', hj', rfl, hl'⟩ := lab_down hv hl
        exact hm j' c ((stops_up hv hj').2 hi) hl'
    · refine .inr ⟨rfl, rfl, fun i c hi hl => ?_⟩
      obtain ⟨j', hj', rfl, hl'⟩ := lab_down hv hl
      exact hno j' c ((stops_up hv hj').2 hi) hl'
  · rw [hpv] at e; cases e
end

end Go.Proofs.Yteodlcgmncchpaa
