/-
  The ways that a search hands out, one behind the other; what is the first of the wanted ones: plain facts.
-/
import Derived.Test.YteodlcgmncchpaaWays
namespace Go.Proofs.Yteodlcgmncchpaa
open Go.RowKit Go.Sort

/-- The number of choices that are a string. -/
def cd (s : ByteArray) : Nat := code s.data.toList
def lrS (s : ByteArray) : Bool := isLR s.data.toList
def chL : ByteArray := ⟨#[108]⟩
def chR : ByteArray := ⟨#[114]⟩

theorem data_app (s t : ByteArray) : (s ++ t).data.toList = s.data.toList ++ t.data.toList := by rw [ByteArray.data_append, Array.toList_append]
theorem cd_nil : cd ⟨#[]⟩ = 1 := rfl
theorem cd_l (s : ByteArray) : cd (s ++ chL) = 2 * cd s := by unfold cd; rw [data_app]; exact code_l _
theorem cd_r (s : ByteArray) : cd (s ++ chR) = 2 * cd s + 1 := by unfold cd; rw [data_app]; exact code_r _
theorem lrS_nil : lrS ⟨#[]⟩ = true := rfl
theorem lrS_l {s : ByteArray} (h : lrS s = true) : lrS (s ++ chL) = true := by unfold lrS at h ⊢; rw [data_app]; exact isLR_l h
theorem lrS_r {s : ByteArray} (h : lrS s = true) : lrS (s ++ chR) = true := by unfold lrS at h ⊢; rw [data_app]; exact isLR_r h
theorem cd_inj {s t : ByteArray} (hs : lrS s = true) (ht : lrS t = true) (h : cd s = cd t) : s = t := ba_ext (code_inj hs ht h)
theorem cd_pos (s : ByteArray) : 1 ≤ cd s := code_pos _
theorem cd_size (s : ByteArray) : 2 ^ s.size ≤ cd s := by
  unfold cd; rw [code_eq, list_of_size]; omega

/-- The number that a block has among those that were handed out. -/
def dOf (pre : List (Nat × ByteArray)) : Nat → Option Nat := fun i => (pre.find? fun x => x.1 == i).map fun x => cd x.2

theorem dOf_nil : dOf [] = fun _ => none := rfl
theorem dOf_none {pre : List (Nat × ByteArray)} {i : Nat} : dOf pre i = none ↔ i ∉ pre.map (·.1) := by
  unfold dOf
  simp only [Option.map_eq_none_iff, List.find?_eq_none, List.mem_map, not_exists, not_and, beq_iff_eq]
theorem dOf_some {pre : List (Nat × ByteArray)} {i c : Nat} (h : dOf pre i = some c) : ∃ s, (i, s) ∈ pre ∧ c = cd s := by
  unfold dOf at h
  obtain ⟨x, hx, rfl⟩ := Option.map_eq_some_iff.1 h
  have h1 := List.mem_of_find?_eq_some hx
  have h2 := List.find?_some hx
  simp only [beq_iff_eq] at h2
  exact ⟨x.2, by rw [← h2]; exact h1, rfl⟩
theorem dOf_snoc {pre : List (Nat × ByteArray)} {n : Nat} (s : ByteArray) (h : n ∉ pre.map (·.1)) : dOf (pre ++ [(n, s)]) = put (dOf pre) n (cd s) := by
  funext i
  have hn := dOf_none.2 h
  unfold dOf at hn ⊢
  rw [List.find?_append]
  by_cases e : i = n
  · subst e
    rw [put_same]
    rw [Option.map_eq_none_iff] at hn
    rw [hn]; simp
  · rw [put_other _ _ e]
    have : ([(n, s)] : List (Nat × ByteArray)).find? (fun x => x.1 == i) = none := by simp [Ne.symm e]
    rw [this, Option.or_none]

/-- A run comes to block i at its m-th block when it has made the choices s. -/
inductive Path (g : List Bl) (A : List Nat) : Nat → ByteArray → Nat → Prop where
  | start (ha : 0 ∉ A) : Path g A 0 ⟨#[]⟩ 1
  | jump {i t m : Nat} {s : ByteArray} (h : Path g A i s m) (hn : nxt g i = [t]) (ha : t ∉ A) : Path g A t s (m + 1)
  | left {i t u m : Nat} {s : ByteArray} (h : Path g A i s m) (hn : nxt g i = [t, u]) (ha : t ∉ A) : Path g A t (s ++ chL) (m + 1)
  | right {i t u m : Nat} {s : ByteArray} (h : Path g A i s m) (hn : nxt g i = [t, u]) (ha : u ∉ A) : Path g A u (s ++ chR) (m + 1)

/-- What is handed out next. -/
structure NextWay (g : List Bl) (A : List Nat) (pre : List (Nat × ByteArray)) (x : Nat × ByteArray) : Prop where
  best : Best g A x.1 (cd x.2)
  lr : lrS x.2 = true
  before : ∀ j c, Lab g A j c → c < cd x.2 → ∃ s, (j, s) ∈ pre
  lt : x.1 < g.length
  short : x.2.size < g.length
  path : ∃ m, m ≤ g.length ∧ Path g A x.1 x.2 m

def AllWays (g : List Bl) (A : List Nat) (xs : List (Nat × ByteArray)) : Prop := ∀ j c, Lab g A j c → ∃ s, (j, s) ∈ xs

/-- What holds at each time. -/
structure Known (g : List Bl) (A : List Nat) (pre qs : List (Nat × ByteArray)) : Prop where
  nodup : (pre.map (·.1)).Nodup
  lt : ∀ x ∈ pre, x.1 < g.length
  qlt : ∀ x ∈ qs, x.1 < g.length
  lr : ∀ x ∈ qs, lrS x.2 = true
  short : ∀ x ∈ qs, x.2.size ≤ pre.length
  paths : ∀ x ∈ qs, x.1 ∉ A → ∃ m, m ≤ pre.length + 1 ∧ Path g A x.1 x.2 m

theorem Known.len {g : List Bl} {A : List Nat} {pre qs : List (Nat × ByteArray)} (h : Known g A pre qs) : pre.length ≤ g.length := by
  have := nodup_lt_len g.length _ h.nodup fun i hi => by
    obtain ⟨x, hx, rfl⟩ := List.mem_map.1 hi
    exact h.lt x hx
  simpa using this

def codes (qs : List (Nat × ByteArray)) : List (Nat × Nat) := qs.map fun x => (x.1, cd x.2)

/-- Between two chains. -/
structure Outer (g : List Bl) (A : List Nat) (pre qs : List (Nat × ByteArray)) : Prop where
  known : Known g A pre qs
  seek : ∃ c0, Seek g A (dOf pre) (codes qs) c0

/-- Within a chain. -/
structure Inner (g : List Bl) (A : List Nat) (pre qs : List (Nat × ByteArray)) (n : Nat) (s : ByteArray) : Prop where
  known : Known g A pre qs
  chain : Chain g A (dOf pre) (codes qs) (cd s) n
  nlt : n < g.length
  slr : lrS s = true
  sshort : s.size ≤ pre.length
  spath : n ∉ A → ∃ m, m ≤ pre.length + 1 ∧ Path g A n s m

section
variable {g : List Bl} {A : List Nat} {pre qs : List (Nat × ByteArray)} {n : Nat} {s : ByteArray}

theorem Outer.first (hv : validB g = true) (A : List Nat) : Outer g A [] [(0, ⟨#[]⟩)] :=
  ⟨⟨by simp, by simp, fun x hx => by simp at hx; subst hx; exact (valid_iff.1 hv).1, fun x hx => by simp at hx; subst hx; rfl, fun x hx => by simp at hx; subst hx; simp [ByteArray.size], fun x hx ha => by simp at hx; subst hx; exact ⟨1, by simp, .start ha⟩⟩, 0, Seek.first g A⟩

theorem Outer.pop (h : Outer g A pre ((n, s) :: qs)) : Inner g A pre qs n s := by
  obtain ⟨k, c0, hs⟩ := h
  exact ⟨⟨k.nodup, k.lt, fun x hx => k.qlt x (by simp [hx]), fun x hx => k.lr x (by simp [hx]), fun x hx => k.short x (by simp [hx]), fun x hx => k.paths x (by simp [hx])⟩, hs.pop, k.qlt (n, s) (by simp), k.lr (n, s) (by simp), k.short (n, s) (by simp), k.paths (n, s) (by simp)⟩

theorem Inner.seen (h : Inner g A pre qs n s) (hn : n ∈ A ++ pre.map (·.1)) : Outer g A pre qs := by
  refine ⟨h.known, _, h.chain.seen ?_⟩
  rcases List.mem_append.1 hn with hn | hn
  · exact .inl hn
  · refine .inr ?_
    cases hd : dOf pre n with
    | none => exact absurd hn (dOf_none.1 hd)
    | some c => exact ⟨c, rfl⟩

theorem Inner.grow (h : Inner g A pre qs n s) (hn : n ∉ A ++ pre.map (·.1)) : Known g A (pre ++ [(n, s)]) qs := by
  have h2 : n ∉ pre.map (·.1) := fun e => hn (List.mem_append_right _ e)
  refine ⟨?_, fun x hx => ?_, h.known.qlt, h.known.lr, fun x hx => ?_, fun x hx ha => ?_⟩
  · rw [List.map_append]
    refine List.nodup_append.2 ⟨h.known.nodup, by simp, fun a ha b hb => ?_⟩
    simp at hb; subst hb
    intro e; subst e; exact h2 ha
  · rcases List.mem_append.1 hx with hx | hx
    · exact h.known.lt x hx
    · simp at hx; subst hx; exact h.nlt
  · have := h.known.short x hx
    rw [List.length_append]; omega
  · obtain ⟨m, hm, hp⟩ := h.known.paths x hx ha
    exact ⟨m, by rw [List.length_append]; omega, hp⟩

theorem Inner.next (h : Inner g A pre qs n s) (hn : n ∉ A ++ pre.map (·.1)) : NextWay g A pre (n, s) := by
  have h1 : n ∉ A := fun e => hn (List.mem_append_left _ e)
  have h2 : n ∉ pre.map (·.1) := fun e => hn (List.mem_append_right _ e)
  have hl := (h.grow hn).len
  rw [List.length_append] at hl
  simp only [List.length_cons, List.length_nil] at hl
  refine ⟨h.chain.best (dOf_none.2 h2) h1, h.slr, fun j c hj hc => ?_, h.nlt, ?_, ?_⟩
  · obtain ⟨c2, h3, _⟩ := h.chain.before j c hj hc
    obtain ⟨t, ht, _⟩ := dOf_some h3
    exact ⟨t, ht⟩
  · have := h.sshort; show s.size < g.length; omega
  · obtain ⟨m, hm, hp⟩ := h.spath h1
    exact ⟨m, by omega, hp⟩

theorem Inner.stop (h : Inner g A pre qs n s) (hn : n ∉ A ++ pre.map (·.1)) (h0 : nxt g n = []) : Outer g A (pre ++ [(n, s)]) qs := by
  have h1 : n ∉ A := fun e => hn (List.mem_append_left _ e)
  have h2 : n ∉ pre.map (·.1) := fun e => hn (List.mem_append_right _ e)
  refine ⟨h.grow hn, cd s, ?_⟩
  rw [dOf_snoc s h2]
  exact (h.chain.mark (dOf_none.2 h2) h1).1 h0

theorem Inner.jump (hv : validB g = true) (h : Inner g A pre qs n s) (hn : n ∉ A ++ pre.map (·.1)) {t : Nat} (h0 : nxt g n = [t]) : Inner g A (pre ++ [(n, s)]) qs t s := by
  have h1 : n ∉ A := fun e => hn (List.mem_append_left _ e)
  have h2 : n ∉ pre.map (·.1) := fun e => hn (List.mem_append_right _ e)
  refine ⟨h.grow hn, ?_, nxt_lt hv h.nlt (by rw [h0]; simp), h.slr, by have := h.sshort; rw [List.length_append]; omega, fun ha => ?_⟩
  · rw [dOf_snoc s h2]
    exact (h.chain.mark (dOf_none.2 h2) h1).2.1 t h0
  · obtain ⟨m, hm, hp⟩ := h.spath h1
    exact ⟨m + 1, by rw [List.length_append]; simp only [List.length_cons, List.length_nil]; omega, .jump hp h0 ha⟩

theorem Inner.branch (hv : validB g = true) (h : Inner g A pre qs n s) (hn : n ∉ A ++ pre.map (·.1)) {t u : Nat} (h0 : nxt g n = [t, u]) : Outer g A (pre ++ [(n, s)]) (qs ++ [(t, s ++ chL), (u, s ++ chR)]) := by
  have h1 : n ∉ A := fun e => hn (List.mem_append_left _ e)
  have h2 : n ∉ pre.map (·.1) := fun e => hn (List.mem_append_right _ e)
  have k := h.grow hn
  have hs := h.sshort
  have hz1 : (s ++ chL).size = s.size + 1 := by rw [ByteArray.size_append]; rfl
  have hz2 : (s ++ chR).size = s.size + 1 := by rw [ByteArray.size_append]; rfl
  obtain ⟨m, hm, hp⟩ := h.spath h1
  refine ⟨⟨k.nodup, k.lt, fun x hx => ?_, fun x hx => ?_, fun x hx => ?_, fun x hx ha => ?_⟩, cd s, ?_⟩
  · rcases List.mem_append.1 hx with hx | hx
    · exact k.qlt x hx
    · simp only [List.mem_cons, List.not_mem_nil, or_false] at hx
      rcases hx with rfl | rfl
      · exact nxt_lt hv h.nlt (by rw [h0]; simp)
      · exact nxt_lt hv h.nlt (by rw [h0]; simp)
  · rcases List.mem_append.1 hx with hx | hx
    · exact k.lr x hx
    · simp only [List.mem_cons, List.not_mem_nil, or_false] at hx
      rcases hx with rfl | rfl
      · exact lrS_l h.slr
      · exact lrS_r h.slr
  · rcases List.mem_append.1 hx with hx | hx
    · exact k.short x hx
    · simp only [List.mem_cons, List.not_mem_nil, or_false] at hx
      rw [List.length_append]
      rcases hx with rfl | rfl
      · show (s ++ chL).size ≤ _
        rw [hz1]; simp only [List.length_cons, List.length_nil]; omega
      · show (s ++ chR).size ≤ _
        rw [hz2]; simp only [List.length_cons, List.length_nil]; omega
  · rcases List.mem_append.1 hx with hx | hx
    · exact k.paths x hx ha
    · simp only [List.mem_cons, List.not_mem_nil, or_false] at hx
      rw [List.length_append]
      simp only [List.length_cons, List.length_nil]
      rcases hx with rfl | rfl
      · exact ⟨m + 1, by omega, .left hp h0 ha⟩
      · exact ⟨m + 1, by omega, .right hp h0 ha⟩
  · rw [dOf_snoc s h2]
    have := (h.chain.mark (dOf_none.2 h2) h1).2.2 t u h0
    have e : codes (qs ++ [(t, s ++ chL), (u, s ++ chR)]) = codes qs ++ [(t, 2 * cd s), (u, 2 * cd s + 1)] := by
      unfold codes; rw [List.map_append]; simp only [List.map_cons, List.map_nil, cd_l, cd_r]
    rw [e]; exact this

theorem Outer.done (h : Outer g A pre []) : AllWays g A pre := by
  obtain ⟨_, c0, hs⟩ := h
  intro j c hj
  cases hd : dOf pre j with
  | none => exact absurd hj (hs.done.2 j hd c)
  | some c' =>
    obtain ⟨t, ht, _⟩ := dOf_some hd
    exact ⟨t, ht⟩
end

/-- What the search for the first of those that are wanted answers. -/
def FirstWay (g : List Bl) (A : List Nat) (P : Nat → Prop) (s : ByteArray) (ok : Bool) : Prop :=
  (ok = true ∧ lrS s = true ∧ s.size < g.length ∧ ∃ i, P i ∧ Best g A i (cd s) ∧ ∀ j c, P j → Lab g A j c → cd s ≤ c) ∨ (ok = false ∧ s = ⟨#[]⟩ ∧ ∀ j c, P j → ¬ Lab g A j c)

theorem FirstWay.unique {g : List Bl} {A : List Nat} {P : Nat → Prop} {s s' : ByteArray} {ok ok' : Bool} (h : FirstWay g A P s ok) (h' : FirstWay g A P s' ok') : s = s' ∧ ok = ok' := by
  rcases h with ⟨rfl, h1, _, i, hi, hb, hm⟩ | ⟨rfl, rfl, hn⟩ <;> rcases h' with ⟨rfl, h1', _, i', hi', hb', hm'⟩ | ⟨rfl, rfl, hn'⟩
  · exact ⟨cd_inj h1 h1' (Nat.le_antisymm (hm _ _ hi' hb'.1) (hm' _ _ hi hb.1)), rfl⟩
  · exact absurd hb.1 (hn' _ _ hi)
  · exact absurd hb'.1 (hn _ _ hi')
  · exact ⟨rfl, rfl⟩

theorem FirstWay.same {g : List Bl} {A : List Nat} {P Q : Nat → Prop} {s : ByteArray} {ok : Bool} (h : FirstWay g A P s ok) (e : ∀ i, (∃ c, Lab g A i c) → (P i ↔ Q i)) : FirstWay g A Q s ok := by
  rcases h with ⟨rfl, h1, h2, i, hi, hb, hm⟩ | ⟨rfl, rfl, hn⟩
  · exact .inl ⟨rfl, h1, h2, i, (e i ⟨_, hb.1⟩).1 hi, hb, fun j c hj hl => hm j c ((e j ⟨c, hl⟩).2 hj) hl⟩
  · exact .inr ⟨rfl, rfl, fun j c hj hl => hn j c ((e j ⟨c, hl⟩).2 hj) hl⟩

/-- The first one that is wanted, behind those that were not. -/
theorem first_hit {g : List Bl} {A : List Nat} {P : Nat → Prop} {pre : List (Nat × ByteArray)} {x : Nat × ByteArray} (hp : ∀ y ∈ pre, ¬ P y.1) (hx : NextWay g A pre x) (hP : P x.1) : FirstWay g A P x.2 true :=
  .inl ⟨rfl, hx.lr, hx.short, x.1, hP, hx.best, fun j c hj hl => by
    rcases Nat.lt_or_ge c (cd x.2) with h | h
    · obtain ⟨s, hs⟩ := hx.before j c hl h
      exact absurd hj (hp _ hs)
    · exact h⟩

/-- With the choices that were found a run comes to a wanted one soon. -/
def SoonAt (g : List Bl) (A : List Nat) (P : Nat → Prop) (s : ByteArray) (ok : Bool) : Prop := ok = true → ∃ i m, P i ∧ Best g A i (cd s) ∧ m ≤ g.length ∧ Path g A i s m

theorem soon_hit {g : List Bl} {A : List Nat} {P : Nat → Prop} {pre : List (Nat × ByteArray)} {x : Nat × ByteArray} (hx : NextWay g A pre x) (hP : P x.1) : SoonAt g A P x.2 true := fun _ => by
  obtain ⟨m, hm, hp⟩ := hx.path
  exact ⟨x.1, m, hP, hx.best, hm, hp⟩

theorem soon_none (g : List Bl) (A : List Nat) (P : Nat → Prop) (s : ByteArray) : SoonAt g A P s false := fun h => by cases h

theorem first_none {g : List Bl} {A : List Nat} {P : Nat → Prop} {xs : List (Nat × ByteArray)} (hp : ∀ y ∈ xs, ¬ P y.1) (hx : AllWays g A xs) : FirstWay g A P ⟨#[]⟩ false :=
  .inr ⟨rfl, rfl, fun j c hj hl => by
    obtain ⟨s, hs⟩ := hx j c hl
    exact hp _ hs hj⟩

end Go.Proofs.Yteodlcgmncchpaa
