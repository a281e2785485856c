/-
  What a run's names say of its blocks, step by step: plain facts; and that a run's names can be a run's.
-/
import Derived.Test.YteodlcgmncchpaaDoorSpecRun
import Derived.Test.YteodlcgmncchpaaDoorTrace
import Derived.Test.YteodlcgmncchpaaDoorLaw
namespace Go.Proofs.YteodlcgmncchpaaDoor
open Go.RowKit Go.Sort

/-- The run is at its k-th block, u choices are used. -/
def RunAt (g : List Bl) (s : ByteArray) (k u x : Nat) : Prop := ∃ pre, pre.length = k ∧ u ≤ s.size ∧ Going g s pre x (s.data.toList.drop u)

theorem runAt_start {g : List Bl} {s : ByteArray} (hb : runB g s = true) : RunAt g s 0 0 0 := by
  unfold runB at hb
  exact ⟨[], rfl, Nat.zero_le _, Going.start (Bool.and_eq_true_iff.1 hb).1 s⟩

theorem run_size {g : List Bl} {s : ByteArray} (hb : runB g s = true) : (runT g s).size = (runOf g s).length := by
  rw [runT_yes hb]
  unfold runB at hb
  have hv := (Bool.and_eq_true_iff.1 hb).1
  unfold traceOf
  rw [namesAt_size hv _ fun i hi => by
    obtain ⟨x, hx, rfl⟩ := List.mem_map.1 hi
    exact runL_lt hv _ _ _ (valid_iff.1 hv).1 x hx, List.length_map]

theorem run_cut {g : List Bl} {s : ByteArray} {pre r : List (Nat × Nat)} {x e : Nat} (hb : runB g s = true) (h : runOf g s = pre ++ (x, e) :: r) :
    (runT g s).extract pre.length (pre.length + 1) = nthName g x := by
  rw [runT_yes hb]
  unfold runB at hb
  have hv := (Bool.and_eq_true_iff.1 hb).1
  have hall : ∀ i ∈ (runOf g s).map (·.1), i < g.length := fun i hi => by
    obtain ⟨x, hx, rfl⟩ := List.mem_map.1 hi
    exact runL_lt hv _ _ _ (valid_iff.1 hv).1 x hx
  have hk : pre.length < ((runOf g s).map (·.1)).length := by rw [h]; simp
  obtain ⟨hlt, hc⟩ := namesAt_cut hv hall hk
  unfold traceOf
  rw [hc]
  have : ((runOf g s).map (·.1))[pre.length]'hk = x := by simp [h]
  rw [← nthName_at hlt, this]

theorem runL_pos {g : List Bl} {m x : Nat} {left : List UInt8} : ∃ e r, runL g (m + 1) x left = (x, e) :: r := by
  unfold runL
  split
  · exact ⟨_, _, rfl⟩
  · exact ⟨_, _, rfl⟩
  · split
    · exact ⟨_, _, rfl⟩
    · exact ⟨_, _, rfl⟩

/-- Where the run goes on with one step more. -/
theorem run_next {g : List Bl} {s : ByteArray} {pre : List (Nat × Nat)} {x y : Nat} {left : List UInt8} (hb : runB g s = true) (hl : pre.length < 60) (hG : Going g s (pre ++ [(x, 2)]) y left) :
    (pre.length + 1 = (runT g s).size ∧ runE g s = 2 ∧ (runT g s).size = 60) ∨ (pre.length + 1 < (runT g s).size ∧ (runT g s).extract (pre.length + 1) (pre.length + 2) = nthName g y) := by
  have hsz := run_size hb
  by_cases h60 : pre.length + 1 = 60
  · left
    have hf := hG.full (by simp; omega)
    rw [hsz, hf]
    refine ⟨by simp, ?_, by simp; omega⟩
    rw [runE_yes hb]
    unfold endOf
    rw [hf, lastEnd_snoc]
    rfl
  · right
    obtain ⟨m, hm⟩ : ∃ m, 60 - (pre ++ [((x : Nat), (2 : Nat))]).length = m + 1 := ⟨58 - pre.length, by simp; omega⟩
    obtain ⟨e, r, hr⟩ := runL_pos (g := g) (m := m) (x := y) (left := left)
    have ha := hG.all
    rw [hm, hr] at ha
    refine ⟨by rw [hsz, ha]; simp, ?_⟩
    have := run_cut hb ha
    simpa using this

theorem left_cons {s : ByteArray} {u : Nat} (h : u < s.size) : s.data.toList.drop u = s[u] :: s.data.toList.drop (u + 1) := drop_byte h

/-- The k-th step of a run. -/
theorem runAt_round {g : List Bl} {s : ByteArray} {k u x : Nat} (hb : runB g s = true) (h : RunAt g s k u x) (hk : k < (runT g s).size) :
    ∃ hx : x < g.length, (runT g s).extract k (k + 1) = g[x].1 ∧
      ((k + 1 = (runT g s).size ∧ ((g[x].2.size = 0 ∧ runE g s = 0) ∨ (g[x].2.size = 1 ∧ runE g s = 2 ∧ (runT g s).size = 60) ∨ (g[x].2.size = 2 ∧ runE g s = 1 ∧ u = s.size) ∨ (g[x].2.size = 2 ∧ runE g s = 2 ∧ u < s.size ∧ (runT g s).size = 60))) ∨
       (k + 1 < (runT g s).size ∧ ((g[x].2.size = 1 ∧ (runT g s).extract (k + 1) (k + 2) = g[x].2 ∧ ∃ y, RunAt g s (k + 1) u y) ∨
         (g[x].2.size = 2 ∧ ∃ hu : u < s.size, (∃ y, RunAt g s (k + 1) (u + 1) y) ∧ hasB g[x].2 ((runT g s).extract (k + 1) (k + 2)) = true ∧
           ((s[u] = 108 ∧ (runT g s).extract (k + 1) (k + 2) = g[x].2.extract 0 1) ∨ (s[u] ≠ 108 ∧ (runT g s).extract (k + 1) (k + 2) ≠ g[x].2.extract 0 1)))))) := by
  obtain ⟨pre, rfl, hu, hG⟩ := h
  have hb0 := hb
  unfold runB at hb0
  have hv := (Bool.and_eq_true_iff.1 hb0).1
  have hx := hG.lt
  have hsz := run_size hb
  have hle := runOf_le g s
  have hl : pre.length < 60 := by omega
  obtain ⟨m, hm⟩ : ∃ m, 60 - pre.length = m + 1 := ⟨59 - pre.length, by omega⟩
  obtain ⟨e0, r0, hr0⟩ := runL_pos (g := g) (m := m) (x := x) (left := s.data.toList.drop u)
  have ha := hG.all
  rw [hm, hr0] at ha
  refine ⟨hx, by rw [run_cut hb ha, nthName_at hx], ?_⟩
  rcases goes hv hx with ⟨hn, hs0⟩ | ⟨p, hp, hn, hs1, _, hnm⟩ | ⟨p, q, hp, hq, hn, hs2, _, hnm, _, hnm', hne⟩
  · have hst := hG.stop hl hn
    refine .inl ⟨by rw [hsz, hst]; simp, .inl ⟨hs0, ?_⟩⟩
    rw [runE_yes hb, (trace_end hst).2]; rfl
  · have hG2 := hG.jump hv hl hn
    rcases run_next hb hl hG2 with ⟨h1, h2, h3⟩ | ⟨h1, h2⟩
    · exact .inl ⟨h1, .inr (.inl ⟨hs1, h2, h3⟩)⟩
    · exact .inr ⟨h1, .inl ⟨hs1, by rw [h2, nthName_at hp, hnm], p, pre ++ [(x, 2)], by simp, hu, hG2⟩⟩
  · by_cases hus : u < s.size
    · rw [left_cons hus] at hG
      have hG2 := hG.go hv hl hn
      rcases run_next hb hl hG2 with ⟨h1, h2, h3⟩ | ⟨h1, h2⟩
      · exact .inl ⟨h1, .inr (.inr (.inr ⟨hs2, h2, hus, h3⟩))⟩
      · refine .inr ⟨h1, .inr ⟨hs2, hus, ⟨_, pre ++ [(x, 2)], by simp, by omega, hG2⟩, ?_, ?_⟩⟩
        · rw [h2]
          by_cases hc : s[u] = 108
          · rw [if_pos hc, nthName_at hp, hnm]
            exact hasB_yes (i := 0) (by omega) rfl
          · rw [if_neg hc, nthName_at hq, hnm']
            exact hasB_yes (i := 1) (by omega) (by rw [hs2])
        · rw [h2]
          by_cases hc : s[u] = 108
          · exact .inl ⟨hc, by rw [if_pos hc, nthName_at hp, hnm]⟩
          · refine .inr ⟨hc, ?_⟩
            rw [if_neg hc, nthName_at hq, ← hnm]
            exact fun e => hne (name_inj hv hq hp e).symm
    · have hue : u = s.size := by omega
      have hd : s.data.toList.drop u = [] := List.drop_eq_nil_of_le (by rw [list_of_size]; omega)
      rw [hd] at hG
      have hst := hG.ask hl hn
      refine .inl ⟨by rw [hsz, hst]; simp, .inr (.inr (.inl ⟨hs2, ?_, hue⟩))⟩
      rw [runE_yes hb, (trace_end hst).2]; rfl

theorem named_mem {g : List Bl} (hv : validB g = true) {cs : List Nat} {i : Nat} (hi : i ∈ cs) (hc : ∀ c ∈ cs, c < g.length) (hlt : i < g.length) : named g cs (nthName g i) = some i := by
  cases hf : named g cs (nthName g i) with
  | none =>
    unfold named at hf
    have := List.find?_eq_none.1 hf i hi
    simp at this
  | some j =>
    obtain ⟨hj, hn⟩ := named_is hf
    have hjl := hc j hj
    rw [nthName_at hjl, nthName_at hlt] at hn
    rw [name_inj hv hjl hlt hn]

theorem trace_runL {g : List Bl} (hv : validB g = true) : ∀ (m i : Nat) (left : List UInt8) (cs : List Nat), i ∈ cs → (∀ c ∈ cs, c < g.length) → traceGo g cs (namesAt g ((runL g m i left).map (·.1))).data.toList = true
  | 0, _, _, cs, _, _ => by cases cs <;> rfl
  | m + 1, i, left, cs, hi, hc => by
    have hlt := hc i hi
    obtain ⟨c, hcn, _⟩ := valid_one hv (List.getElem_mem hlt)
    have step : ∀ (e : Nat) (r : List (Nat × Nat)), traceGo g (nxt g i) (namesAt g (r.map (·.1))).data.toList = true → traceGo g cs (namesAt g (((i, e) :: r).map (·.1))).data.toList = true := by
      intro e r h
      rw [List.map_cons, namesAt, ba_append_toList, nthName_at hlt, hcn]
      show traceGo g cs (c :: (namesAt g (r.map (·.1))).data.toList) = true
      have hnm := named_mem hv hi hc hlt
      rw [nthName_at hlt, hcn] at hnm
      unfold traceGo
      rw [hnm]
      exact h
    have hnl : ∀ c ∈ nxt g i, c < g.length := fun c h => nxt_lt hv hlt h
    have nil : traceGo g (nxt g i) (namesAt g (([] : List (Nat × Nat)).map (·.1))).data.toList = true := by cases nxt g i <;> rfl
    unfold runL
    split
    · exact step _ _ nil
    · rename_i j hj
      exact step _ _ (trace_runL hv m j left _ (by rw [hj]; simp) hnl)
    · rename_i j k r hj
      split
      · exact step _ _ nil
      · rename_i c l
        refine step _ _ (trace_runL hv m _ l _ ?_ hnl)
        rw [hj]
        split <;> simp

/-- A run's names can be a run's. -/
theorem trace_run {g : List Bl} {s : ByteArray} (hb : runB g s = true) : traceB g (runT g s) = true := by
  have hsz := run_size hb
  have hle := runOf_le g s
  have hb0 := hb
  unfold runB at hb0
  have hv := (Bool.and_eq_true_iff.1 hb0).1
  rw [traceB_yes hv (by omega), runT_yes hb]
  exact trace_runL hv 60 0 _ [0] (by simp) fun c h => by
    simp at h; subst h; exact (valid_iff.1 hv).1
end Go.Proofs.YteodlcgmncchpaaDoor
