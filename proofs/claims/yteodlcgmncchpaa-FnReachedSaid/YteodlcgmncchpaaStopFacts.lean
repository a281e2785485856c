/-
  What the laws say of runs that stop: plain facts.
-/
import Derived.Test.YteodlcgmncchpaaWayFacts
namespace Go.Proofs.Yteodlcgmncchpaa
open Go.RowKit Go.Sort

/-- A way to a block that stops. -/
structure FoundStop (g : List Bl) (s : ByteArray) (i : Nat) : Prop where
  lt : i < g.length
  stop : nxt g i = []
  best : Best g [] i (cd s)
  least : ∀ j c, Stops g j → Lab g [] j c → cd s ≤ c
  path : ∃ m, m ≤ g.length ∧ Path g [] i s m
  lr : lrS s = true
  short : s.size < g.length

theorem foundStop_of {g : List Bl} {s : ByteArray} (hv : validB g = true) (h : WayAns g (Stops g) s true) (hs : SoonAt g [] (Stops g) s true) : ∃ i, FoundStop g s i := by
  obtain ⟨i, m, hi, hb, hm, hp⟩ := hs rfl
  rcases h with ⟨_, h⟩ | ⟨h, _⟩
  · rcases h with ⟨_, h1, h2, _, _, _, hl⟩ | ⟨h, _⟩
    · exact ⟨i, hi.1, hi.2, hb, hl, ⟨m, hm, hp⟩, h1, h2⟩
    · cases h
  · rw [hv] at h; cases h

theorem FoundStop.end_ {g : List Bl} {s : ByteArray} {i : Nat} (hv : validB g = true) (h : FoundStop g s i) (hb : runB g s = true) : runE g s = 0 := by
  obtain ⟨m, hm, hp⟩ := h.path
  have h26 := (valid_iff.1 hv).2.1
  rw [runE_yes hb, path_stop hp (by omega) h.stop]; rfl

theorem runT_pos {g : List Bl} {s : ByteArray} (hb : runB g s = true) : 0 < (runT g s).size := by
  have hv : validB g = true := by unfold runB at hb; exact (Bool.and_eq_true_iff.1 hb).1
  rw [runT_yes hb]
  unfold traceOf
  rw [namesAt_size hv _ (run_names hv s), List.length_map]
  obtain ⟨e, r, hr⟩ := runL_head' g 59 0 s.data.toList
  unfold runOf; rw [hr]; simp

/-- Fewer of its choices do not stop. -/
theorem FoundStop.less {g : List Bl} {s : ByteArray} {i : Nat} (hv : validB g = true) (h : FoundStop g s i) {k : Nat} (hk : k < s.size) (hb : runB g (s.extract 0 k) = true) : runE g (s.extract 0 k) ≠ 0 := by
  intro he
  rw [runE_yes hb] at he
  obtain ⟨j, t, hj, ht, hl⟩ := stop_lab hv (s := s.extract 0 k) (by omega)
  rw [extract_prefix] at ht
  have h1 := prefix_code ht (by rw [list_of_size]; exact hk)
  have h2 := h.least j _ ⟨hl.lt hv, hj⟩ hl
  unfold cd at h2
  omega

/-- No other block that stops has better choices. -/
theorem FoundStop.first {g : List Bl} {s : ByteArray} {i : Nat} (hv : validB g = true) (h : FoundStop g s i) {j : Nat} (hj : Stops g j) {s2 : ByteArray} (h2 : WayAns g (Named g (nthName g j)) s2 true) : cd s ≤ cd s2 ∧ lrS s2 = true := by
  rcases h2 with ⟨_, h2⟩ | ⟨e, _⟩
  · rcases h2 with ⟨_, hl, _, y, hy, hb, _⟩ | ⟨h, _⟩
    · have e : y = j := name_inj hv hy.1 hj.1 (by rw [← nthName_at hy.1, ← nthName_at hj.1, hy.2])
      rw [e] at hb
      exact ⟨h.least j _ hj hb.1, hl⟩
    · cases h
  · rw [hv] at e; cases e

/-- If there is none, no reached block stops, and no run does. -/
theorem no_stop {g : List Bl} {s : ByteArray} (h : WayAns g (Stops g) s false) : s = ⟨#[]⟩ ∧ (validB g = false ∨ (∀ i ∈ reachS g, nxt g i ≠ []) ∧ ∀ c, runB g c = true → runE g c ≠ 0) := by
  rcases h with ⟨hv, h⟩ | ⟨hv, rfl, _⟩
  · rcases h with ⟨h, _⟩ | ⟨_, rfl, hno⟩
    · cases h
    · refine ⟨rfl, .inr ⟨fun i hi e => ?_, fun c hb he => ?_⟩⟩
      · have hr : i ∈ reach g := (reachS_perm hv).subset hi
        obtain ⟨c, hc⟩ := ((mem_reach hv).1 hr).lab hv
        exact hno i c ⟨reachS_lt g i hi, e⟩ hc
      · rw [runE_yes hb] at he
        obtain ⟨j, t, hj, _, hl⟩ := stop_lab hv (s := c) (by omega)
        exact hno j _ ⟨hl.lt hv, hj⟩ hl
  · exact ⟨rfl, .inl hv⟩

theorem reachV_size' {g : List Bl} : (reachV g).size ≤ 26 := by
  cases hv : validB g with
  | false => rw [reachV_no hv]; exact Nat.zero_le _
  | true => rw [reachV_yes hv, namesAt_size hv _ (reachS_lt g)]; have := srt_len g (reach g) g.length; rw [← reachS_srt] at this; have := (valid_iff.1 hv).2.1; omega

/-- Where the k-th reached block goes on. -/
theorem reach_next {g : List Bl} (hv : validB g = true) {k : Nat} (hk : k < (reachV g).size) : ∃ i, i ∈ reachS g ∧ ∃ h : i < g.length, (reachV g).extract k (k + 1) = nthName g i ∧ nextVal g ((reachV g).extract k (k + 1)) = g[i].2 := by
  rw [reachV_yes hv, namesAt_size hv _ (reachS_lt g)] at hk
  obtain ⟨h, e⟩ := namesAt_cut hv (reachS_lt g) hk
  refine ⟨_, List.getElem_mem hk, h, ?_, ?_⟩
  · rw [reachV_yes hv, e, nthName_at h]
  · rw [reachV_yes hv, e]; exact nextVal_some hv (posOf_name hv h) h

theorem next_pos {g : List Bl} {i : Nat} (hi : i < g.length) (h : nxt g i ≠ []) : 0 < g[i].2.size := by
  rw [← nxt_length hi]; exact List.length_pos_iff.2 h

end Go.Proofs.Yteodlcgmncchpaa
