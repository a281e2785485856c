/-
  Facts for the law FnDominates: what AvoidsIn finds, and a run with it.
-/
import Derived.Test.YtklnhbfpmmdhjabGreatWayFacts
import Derived.Test.YtklnhbfpmmdhjabGreatAvoids
import Derived.Test.YtklnhbfpmmdhjabGreatSpecDom
import Derived.Test.YtklnhbfpmmdhjabGreatPrevN
namespace Go.Proofs.YtklnhbfpmmdhjabGreat
open Go.RowKit Go.Sort

theorem avoid_none {g : List Bl} {sa sb s : ByteArray} {ok : Bool} (h : AvoidAns g sa sb s ok) (hn : liveOf g sa = none ∨ liveOf g sb = none) : s = ⟨#[]⟩ ∧ ok = false := by
  cases ha : liveOf g sa with
  | none => exact h.unique (.inr ⟨ha, rfl, rfl⟩)
  | some a =>
    rcases hn with hn | hn
    · rw [hn] at ha; cases ha
    · exact h.unique (avoid_dead ha hn)

theorem avoid_ok {g : List Bl} {sa sb s : ByteArray} {ok : Bool} {a b : Nat} (h : AvoidAns g sa sb s ok) (ha : liveOf g sa = some a) (hb : liveOf g sb = some b) : ok = !dmB g a b := by
  obtain ⟨hv, hp, _⟩ := liveOf_is hb
  cases hd : dmB g a b with
  | true => exact (h.unique (avoid_dom ha hb hd)).2
  | false =>
    cases ok with
    | true => rfl
    | false =>
      exfalso
      have hnd : ¬ Dm g a b := fun k => by rw [(dmB_iff hv).2 k] at hd; cases hd
      have hr : Rch g [a] b := by
        by_cases e : Rch g [a] b
        · exact e
        · exact absurd (.inr e) hnd
      obtain ⟨c, hc⟩ := hr.lab hv
      rcases h with ⟨a', ha', h⟩ | ⟨hn, _⟩
      · rw [ha] at ha'; obtain rfl := Option.some.inj ha'
        rcases h with ⟨e, _⟩ | ⟨_, _, hno⟩
        · cases e
        · exact hno b c ((named_one hv hp b).1 rfl) hc
      · rw [hn] at ha; cases ha

/-- The way that was found. -/
structure Avoided (g : List Bl) (a b : Nat) (s : ByteArray) : Prop where
  lr : lrS s = true
  short : s.size < g.length
  path : ∃ m, m ≤ g.length ∧ Path g [a] b s m

theorem avoid_yes {g : List Bl} {sa sb s : ByteArray} {a b : Nat} (h : AvoidAns g sa sb s true) (hs : AvoidSoon g sa sb s true) (ha : liveOf g sa = some a) (hb : liveOf g sb = some b) : Avoided g a b s := by
  obtain ⟨hv, hp, _⟩ := liveOf_is hb
  obtain ⟨i, m, hi, _, hm, hpath⟩ := hs a ha rfl
  have e : i = b := (named_one hv hp i).2 hi
  subst e
  rcases h with ⟨a', ha', h⟩ | ⟨hn, _⟩
  · rcases h with ⟨_, h1, h2, _⟩ | ⟨e, _⟩
    · exact ⟨h1, h2, m, hm, hpath⟩
    · cases e
  · rw [hn] at ha; cases ha

/-- The names of a run. -/
def runN (g : List Bl) (s : ByteArray) : List Nat := (runOf g s).map (·.1)

/-- The run comes to b, and ahead of that not to a. -/
theorem Avoided.run {g : List Bl} (hv : validB g = true) {a b : Nat} {s : ByteArray} (h : Avoided g a b s) : ∃ k, ∃ hk : k < (runN g s).length, (runN g s)[k] = b ∧ ∀ j (hj : j < k), (runN g s)[j]'(by omega) ≠ a := by
  obtain ⟨m, hm, hp⟩ := h.path
  have h26 := (valid_iff.1 hv).2.1
  obtain ⟨p, h1, _, h3, h4⟩ := runOf_path hp (by omega)
  obtain ⟨e, r, hr⟩ := runL_head' g (60 - m) b []
  have hR : runN g s = p.map (·.1) ++ b :: r.map (·.1) := by unfold runN; rw [h1, hr]; simp
  have hk : p.length < (runN g s).length := by rw [hR]; simp
  refine ⟨p.length, hk, ?_, fun j hj e => ?_⟩
  · have e1 : (runN g s)[p.length]? = some b := by
      rw [hR, List.getElem?_append_right (by simp)]; simp
    rw [List.getElem?_eq_getElem hk] at e1
    exact Option.some.inj e1
  · have hj' : j < (runN g s).length := by omega
    have e1 : (runN g s)[j]? = some p[j].1 := by
      rw [hR, List.getElem?_append_left (by simpa using hj), List.getElem?_map, List.getElem?_eq_getElem hj]; rfl
    rw [List.getElem?_eq_getElem hj'] at e1
    have e2 := Option.some.inj e1
    obtain ⟨t, m', hq⟩ := h4 p[j] (List.getElem_mem hj)
    have := hq.lab.out
    rw [← e2, e] at this
    simp at this

theorem Avoided.long {g : List Bl} (hv : validB g = true) {a b : Nat} {s : ByteArray} (h : Avoided g a b s) (hb : b < g.length) (hr : runB g s = true) (he : runE g s = 2) : g[b].2.size = 1 := by
  obtain ⟨m, hm, hp⟩ := h.path
  have h26 := (valid_iff.1 hv).2.1
  rw [runE_yes hr] at he
  rcases goes hv hb with ⟨e, hs⟩ | ⟨p, _, e, hs, _⟩ | ⟨p, q, _, _, e, hs, _⟩
  · rw [path_stop hp (by omega) e] at he; cases he
  · exact hs
  · rw [path_ask hp (by omega) e] at he; cases he

theorem names_take' (g : List Bl) (l : List Nat) {k : Nat} (hv : validB g = true) (hl : ∀ i ∈ l, i < g.length) (hk : k ≤ l.length) : (namesAt g l).extract 0 k = namesAt g (l.take k) := by
  have e : namesAt g l = namesAt g (l.take k) ++ namesAt g (l.drop k) := by rw [← namesAt_append, List.take_append_drop]
  have hz : (namesAt g (l.take k)).size = k := by rw [namesAt_size hv _ fun i hi => hl i ((List.take_subset _ _) hi), List.length_take]; omega
  rw [e]
  apply ba_ext
  have hl2 : (namesAt g (l.take k)).data.toList.length = k := by rw [Array.length_toList]; exact hz
  rw [← Lib.toList_data, Lib.extract_toList]
  simp only [List.drop_zero, Nat.sub_zero, ByteArray.data_append, Array.toList_append]
  rw [List.take_append_of_le_length (by omega), List.take_of_length_le (by omega)]

/-- The line of what dominates begins that of what is dominated. -/
theorem dom_prefix {g : List Bl} (hv : validB g = true) {a b : Nat} (hb : Rch g [] b) (h : Dm g a b) : (namesAt g (domL g b)).extract 0 (namesAt g (domL g a)).size = namesAt g (domL g a) := by
  have ha := h.live hb
  have hlt : ∀ {n}, Rch g [] n → ∀ x ∈ domL g n, x < g.length := fun hn x hx => (((mem_domL hv hn).1 hx).live hn).lt hv
  obtain ⟨i, hi, e⟩ := List.getElem_of_mem ((mem_domL hv hb).2 h)
  have ht := domL_take hv hb hi
  rw [e] at ht
  have hz : (namesAt g (domL g a)).size = i + 1 := by
    rw [namesAt_size hv _ (hlt ha), ← ht, List.length_take]; omega
  rw [hz, names_take' g _ hv (hlt hb) (by omega), ht]
end Go.Proofs.YtklnhbfpmmdhjabGreat
