/-
  Going through blocks, the deeper ones first: plain facts (what is come to, the order, what dominates comes ahead; the line of dominators).
-/
import Derived.Test.YtklnhbfpmmdhjaaGreatDomMath
import Derived.Test.YtklnhbfpmmdhjaaGreatDomLink
namespace Go.Proofs.YtklnhbfpmmdhjaaGreat

/-- Go through a block: those that have been begun, and those that have been put, the last one first. -/
def visit (nx : Nat → List Nat) : Nat → Nat → List Nat × List Nat → List Nat × List Nat
  | 0, _, st => st
  | m + 1, i, st =>
    let s := (nx i).reverse.foldl (fun st t => if t ∈ st.1 then st else visit nx m t st) (st.1 ++ [i], st.2)
    (s.1, i :: s.2)

def visits (nx : Nat → List Nat) (m : Nat) (st : List Nat × List Nat) (ts : List Nat) : List Nat × List Nat :=
  ts.foldl (fun st t => if t ∈ st.1 then st else visit nx m t st) st

theorem visit_succ (nx : Nat → List Nat) (m i : Nat) (st : List Nat × List Nat) :
    visit nx (m + 1) i st = ((visits nx m (st.1 ++ [i], st.2) (nx i).reverse).1, i :: (visits nx m (st.1 ++ [i], st.2) (nx i).reverse).2) := rfl
theorem visits_nil (nx : Nat → List Nat) (m : Nat) (st : List Nat × List Nat) : visits nx m st [] = st := rfl
theorem visits_cons (nx : Nat → List Nat) (m : Nat) (st : List Nat × List Nat) (t : Nat) (ts : List Nat) : visits nx m st (t :: ts) = visits nx m (if t ∈ st.1 then st else visit nx m t st) ts := rfl
theorem visits_snoc (nx : Nat → List Nat) (m : Nat) (st : List Nat × List Nat) (t : Nat) (ts : List Nat) :
    visits nx m st (ts ++ [t]) = if t ∈ (visits nx m st ts).1 then visits nx m st ts else visit nx m t (visits nx m st ts) := by
  unfold visits; rw [List.foldl_append]; rfl

structure Seen (g : List Bl) (s : List Nat) : Prop where
  nodup : s.Nodup
  lt : ∀ x ∈ s, x < g.length

theorem Seen.len {g : List Bl} {s : List Nat} (h : Seen g s) : s.length ≤ g.length := nodup_lt_len _ _ h.nodup h.lt
theorem Seen.snoc {g : List Bl} {s : List Nat} (h : Seen g s) {i : Nat} (hi : i < g.length) (hn : i ∉ s) : Seen g (s ++ [i]) :=
  ⟨List.nodup_append.2 ⟨h.nodup, by simp, fun a ha b hb e => by simp at hb; subst hb; subst e; exact hn ha⟩, fun x hx => (List.mem_append.1 hx).elim (h.lt x) fun e => by simp at e; omega⟩

/-- What going from (s, d) to (s', d') has put. P: what stands on the way to where it began. -/
structure Went (g : List Bl) (P s d s' d' D : List Nat) : Prop where
  put : d' = D ++ d
  seen : ∃ S, s' = s ++ S ∧ S.Perm D
  ok : Seen g s'
  live : ∀ x ∈ D, Rch g [] x
  order : ∀ x ∈ D, ∀ a, Dm g a x → a = x ∨ a ∈ P ∨ [a, x].Sublist D
  closed : ∀ x ∈ D, ∀ t ∈ nxt g x, t ∈ s'

theorem Went.refl {g : List Bl} {P s d : List Nat} (h : Seen g s) : Went g P s d s d [] :=
  ⟨rfl, ⟨[], by simp, .refl _⟩, h, by simp, by simp, by simp⟩

theorem Went.grows {g : List Bl} {P s d s' d' D : List Nat} (h : Went g P s d s' d' D) {x : Nat} (hx : x ∈ s) : x ∈ s' := by
  obtain ⟨S, e, _⟩ := h.seen
  rw [e]; exact List.mem_append_left _ hx

theorem Went.len {g : List Bl} {P s d s' d' D : List Nat} (h : Went g P s d s' d' D) : s.length ≤ s'.length := by
  obtain ⟨S, e, _⟩ := h.seen
  rw [e, List.length_append]; omega

theorem Went.trans {g : List Bl} {P s d s1 d1 D1 s2 d2 D2 : List Nat} (h : Went g P s d s1 d1 D1) (k : Went g P s1 d1 s2 d2 D2) : Went g P s d s2 d2 (D2 ++ D1) := by
  obtain ⟨S1, e1, p1⟩ := h.seen
  obtain ⟨S2, e2, p2⟩ := k.seen
  refine ⟨by rw [k.put, h.put, List.append_assoc], ⟨S1 ++ S2, by rw [e2, e1, List.append_assoc], (p1.append p2).trans List.perm_append_comm⟩, k.ok, fun x hx => ?_, fun x hx a ha => ?_, fun x hx t ht => ?_⟩
  · exact (List.mem_append.1 hx).elim (k.live x) (h.live x)
  · rcases List.mem_append.1 hx with hx | hx
    · exact (k.order x hx a ha).imp id fun q => q.imp id fun q => q.trans (List.sublist_append_left _ _)
    · exact (h.order x hx a ha).imp id fun q => q.imp id fun q => q.trans (List.sublist_append_right _ _)
  · rcases List.mem_append.1 hx with hx | hx
    · exact k.closed x hx t ht
    · exact k.grows (h.closed x hx t ht)

theorem visit_went {g : List Bl} (hv : validB g = true) : ∀ (m i : Nat) (s d P : List Nat), i ∉ s → i < g.length → Seen g s → g.length ≤ m + s.length → Rch g [] i → (∀ a, a ∉ P → a ≠ i → Rch g [a] i) →
    ∃ D, Went g P s d (visit (nxt g) m i (s, d)).1 (visit (nxt g) m i (s, d)).2 (i :: D)
  | 0, i, s, d, P, hi, hl, hs, hm, _, _ => by
    have := (hs.snoc hl hi).len
    simp at this; omega
  | m + 1, i, s, d, P, hi, hl, hs, hm, hr, hP => by
    have ih := visit_went hv m
    have inner : ∀ (ts s1 d1 : List Nat), (∀ t ∈ ts, t ∈ nxt g i) → Seen g s1 → g.length ≤ m + s1.length →
        ∃ D, Went g (i :: P) s1 d1 (visits (nxt g) m (s1, d1) ts).1 (visits (nxt g) m (s1, d1) ts).2 D ∧ ∀ t ∈ ts, t ∈ (visits (nxt g) m (s1, d1) ts).1 := by
      intro ts
      induction ts with
      | nil => intro s1 d1 _ h1 _; exact ⟨[], by rw [visits_nil]; exact .refl h1, by simp⟩
      | cons t ts iht =>
        intro s1 d1 hts h1 hm1
        rw [visits_cons]
        by_cases ht : t ∈ s1
        · rw [if_pos ht]
          obtain ⟨D, hD, hin⟩ := iht s1 d1 (fun x hx => hts x (List.mem_cons_of_mem _ hx)) h1 hm1
          refine ⟨D, hD, fun x hx => ?_⟩
          rcases List.mem_cons.1 hx with rfl | hx
          · exact hD.grows ht
          · exact hin x hx
        · rw [if_neg ht]
          have htn := hts t (by simp)
          have htl := nxt_lt hv hl htn
          obtain ⟨D1, hD1⟩ := ih t s1 d1 (i :: P) ht htl h1 hm1 (.step hr htn (by simp)) fun a ha hat =>
            .step (hP a (fun e => ha (List.mem_cons_of_mem _ e)) (fun e => ha (by simp [e]))) htn (by simpa using fun e => hat e.symm)
          obtain ⟨D, hD, hin⟩ := iht (visit (nxt g) m t (s1, d1)).1 (visit (nxt g) m t (s1, d1)).2 (fun x hx => hts x (List.mem_cons_of_mem _ hx)) hD1.ok (by have := hD1.len; omega)
          refine ⟨_, hD1.trans hD, fun x hx => ?_⟩
          rcases List.mem_cons.1 hx with rfl | hx
          · obtain ⟨S, e, p⟩ := hD1.seen
            exact hD.grows (by rw [e]; exact List.mem_append_right _ (p.mem_iff.2 (by simp)))
          · exact hin x hx
    obtain ⟨D, hD, hin⟩ := inner (nxt g i).reverse (s ++ [i]) d (fun t ht => List.mem_reverse.1 ht) (hs.snoc hl hi) (by simp; omega)
    rw [visit_succ]
    obtain ⟨S, e, p⟩ := hD.seen
    refine ⟨D, ⟨by rw [hD.put]; rfl, ⟨i :: S, by rw [e]; simp, p.cons i⟩, hD.ok, fun x hx => ?_, fun x hx a ha => ?_, fun x hx t ht => ?_⟩⟩
    · rcases List.mem_cons.1 hx with rfl | hx
      · exact hr
      · exact hD.live x hx
    · rcases List.mem_cons.1 hx with rfl | hxD
      · by_cases e : a = x
        · exact .inl e
        · refine .inr (.inl ?_)
          by_cases h : a ∈ P
          · exact h
          · rcases ha with ha | ha
            · exact absurd ha e
            · exact absurd (hP a h e) ha
      · rcases hD.order x hxD a ha with q | q | q
        · exact .inl q
        · rcases List.mem_cons.1 q with rfl | q
          · exact .inr (.inr (List.Sublist.cons_cons a (List.singleton_sublist.2 hxD)))
          · exact .inr (.inl q)
        · exact .inr (.inr (q.cons i))
    · rcases List.mem_cons.1 hx with rfl | hx
      · exact hin t (List.mem_reverse.2 ht)
      · exact hD.closed x hx t ht

/-- The way order. -/
def wayOrd (g : List Bl) : List Nat := (visit (nxt g) g.length 0 ([], [])).2
def wayOrdSeen (g : List Bl) : List Nat := (visit (nxt g) g.length 0 ([], [])).1

theorem wayOrd_went {g : List Bl} (hv : validB g = true) : ∃ D, wayOrd g = 0 :: D ∧ Went g [] [] [] (wayOrdSeen g) (wayOrd g) (0 :: D) := by
  obtain ⟨D, h⟩ := visit_went hv g.length 0 [] [] [] (by simp) (valid_iff.1 hv).1 ⟨.nil, by simp⟩ (by simp) (.start (by simp)) fun a _ h0 => .start (by simpa using fun e => h0 e.symm)
  exact ⟨D, by have := h.put; rw [List.append_nil] at this; exact this, h⟩

theorem wayOrd_nodup {g : List Bl} (hv : validB g = true) : (wayOrd g).Nodup := by
  obtain ⟨D, e, h⟩ := wayOrd_went hv
  obtain ⟨S, e2, p⟩ := h.seen
  rw [e]
  refine (p.nodup_iff).1 ?_
  have := h.ok.nodup
  rw [e2] at this
  simpa using this

theorem mem_wayOrd {g : List Bl} (hv : validB g = true) {x : Nat} : x ∈ wayOrd g ↔ Rch g [] x := by
  obtain ⟨D, e, h⟩ := wayOrd_went hv
  obtain ⟨S, e2, p⟩ := h.seen
  have hs : ∀ y, y ∈ wayOrdSeen g ↔ y ∈ wayOrd g := fun y => by
    rw [e2, e, List.nil_append]; exact p.mem_iff
  refine ⟨fun hx => h.live x (e ▸ hx), fun hx => ?_⟩
  induction hx with
  | start _ => rw [e]; simp
  | @step i t _ hn _ ih => exact (hs t).1 (h.closed i (e ▸ ih) t hn)

theorem wayOrd_lt {g : List Bl} (hv : validB g = true) : ∀ x ∈ wayOrd g, x < g.length := fun _ hx => ((mem_wayOrd hv).1 hx).lt hv
theorem wayOrd_len {g : List Bl} (hv : validB g = true) : (wayOrd g).length ≤ g.length := nodup_lt_len _ _ (wayOrd_nodup hv) (wayOrd_lt hv)

theorem wayOrd_dom {g : List Bl} (hv : validB g = true) {a x : Nat} (hx : Rch g [] x) (ha : Dm g a x) : a = x ∨ [a, x].Sublist (wayOrd g) := by
  obtain ⟨D, e, h⟩ := wayOrd_went hv
  rcases h.order x (e ▸ (mem_wayOrd hv).2 hx) a ha with q | q | q
  · exact .inl q
  · simp at q
  · exact .inr (e ▸ q)

theorem two_ways {a b : Nat} : ∀ {l : List Nat}, l.Nodup → [a, b].Sublist l → [b, a].Sublist l → False
  | [], _, h, _ => by cases h
  | c :: l, hn, h, k => by
    obtain ⟨hc, hl⟩ := List.nodup_cons.1 hn
    cases h with
    | cons _ h =>
      cases k with
      | cons _ k => exact two_ways hl h k
      | cons_cons _ k => exact hc (h.subset (by simp))
    | cons_cons _ h =>
      cases k with
      | cons _ k => exact hc (k.subset (by simp))
      | cons_cons _ k => exact hc (h.subset (by simp))

/-- What dominates a block, in the way order. -/
def domL (g : List Bl) (n : Nat) : List Nat := (wayOrd g).filter fun a => dmB g a n

theorem mem_domL {g : List Bl} (hv : validB g = true) {n a : Nat} (hn : Rch g [] n) : a ∈ domL g n ↔ Dm g a n := by
  unfold domL
  rw [List.mem_filter, mem_wayOrd hv, dmB_iff hv]
  exact ⟨fun h => h.2, fun h => ⟨h.live hn, h⟩⟩

theorem domL_nodup {g : List Bl} (hv : validB g = true) (n : Nat) : (domL g n).Nodup := (wayOrd_nodup hv).filter _

theorem domL_line {g : List Bl} (hv : validB g = true) {n : Nat} (hn : Rch g [] n) : (domL g n).Pairwise (Dm g) := by
  rw [List.pairwise_iff_forall_sublist]
  intro a b h
  have ha := (mem_domL hv hn).1 (h.subset (show a ∈ [a, b] by simp))
  have hb := (mem_domL hv hn).1 (h.subset (show b ∈ [a, b] by simp))
  rcases ha.total hb hn with q | q
  · exact q
  · rcases wayOrd_dom hv (ha.live hn) q with e | e
    · subst e; exact .refl g b
    · exact (two_ways (wayOrd_nodup hv) e (h.trans List.filter_sublist)).elim

theorem domL_len {g : List Bl} (hv : validB g = true) (n : Nat) : (domL g n).length ≤ g.length := Nat.le_trans (List.length_filter_le _ _) (wayOrd_len hv)

theorem line_same {g : List Bl} {l k : List Nat} (hl : l.Pairwise (Dm g)) (hk : k.Pairwise (Dm g)) (h1 : l.Nodup) (h2 : k.Nodup) (hr : ∀ x ∈ l, Rch g [] x) (h : ∀ x, x ∈ l ↔ x ∈ k) : l = k :=
  List.Perm.eq_of_pairwise (le := Dm g) (fun a _ ha _ hab hba => hab.antisymm hba (hr a ha)) hl hk ((List.perm_ext_iff_of_nodup h1 h2).2 h)

/-- A block with a parent: its line is the parent's, and itself. -/
theorem domL_par {g : List Bl} (hv : validB g = true) {p n : Nat} (hn : Rch g [] n) (h : Par g p n) : domL g n = domL g p ++ [n] := by
  have hp := h.2.1
  have hnp : n ∉ domL g p := fun e => by
    have h1 := (mem_domL hv hp).1 e
    have h2 : Dm g p n := (h.2.2 p).2 (.inr (.refl g p))
    exact h.1 (h2.antisymm h1 hp)
  refine line_same (domL_line hv hn) ?_ (domL_nodup hv n) ?_ (fun x hx => ((mem_domL hv hn).1 hx).live hn) fun x => ?_
  · rw [List.pairwise_append]
    refine ⟨domL_line hv hp, by simp, fun a ha b hb => ?_⟩
    simp at hb; subst hb
    exact (h.2.2 a).2 (.inr ((mem_domL hv hp).1 ha))
  · exact List.nodup_append.2 ⟨domL_nodup hv p, by simp, fun a ha b hb e => by simp at hb; subst hb; subst e; exact hnp ha⟩
  · rw [mem_domL hv hn, h.2.2 x, List.mem_append, mem_domL hv hp, List.mem_singleton]
    exact or_comm

/-- The entry's line. -/
theorem domL_entry {g : List Bl} (hv : validB g = true) : domL g 0 = [0] := by
  have h0 : Rch g [] 0 := .start (by simp)
  refine line_same (domL_line hv h0) (by simp) (domL_nodup hv 0) (by simp) (fun x hx => ((mem_domL hv h0).1 hx).live h0) fun x => ?_
  rw [mem_domL hv h0, List.mem_singleton]
  exact ⟨fun h => h.of_entry, fun h => by subst h; exact .refl g 0⟩

/-- The parent, or none for the entry. -/
def parL (g : List Bl) (n : Nat) : Option Nat := (domL g n).dropLast.getLast?

theorem domL_pos {g : List Bl} (hv : validB g = true) {n : Nat} (hn : Rch g [] n) : ∃ l, domL g n = l ++ [n] := by
  by_cases h0 : n = 0
  · subst h0; exact ⟨[], domL_entry hv⟩
  · obtain ⟨p, hp⟩ := par_some hv hn h0
    exact ⟨_, domL_par hv hn hp⟩

theorem parL_entry {g : List Bl} (hv : validB g = true) : parL g 0 = none := by unfold parL; rw [domL_entry hv]; rfl

theorem parL_par {g : List Bl} (hv : validB g = true) {p n : Nat} (hn : Rch g [] n) (h : Par g p n) : parL g n = some p := by
  unfold parL
  rw [domL_par hv hn h, List.dropLast_concat]
  obtain ⟨l, e⟩ := domL_pos hv h.2.1
  rw [e, List.getLast?_concat]

theorem parL_iff {g : List Bl} (hv : validB g = true) {p n : Nat} (hn : Rch g [] n) : parL g n = some p ↔ Par g p n := by
  constructor
  · intro h
    by_cases h0 : n = 0
    · subst h0; rw [parL_entry hv] at h; cases h
    · obtain ⟨q, hq⟩ := par_some hv hn h0
      rw [parL_par hv hn hq] at h
      cases h; exact hq
  · exact parL_par hv hn

theorem parL_none {g : List Bl} (hv : validB g = true) {n : Nat} (hn : Rch g [] n) (h : parL g n = none) : n = 0 := by
  by_cases h0 : n = 0
  · exact h0
  · obtain ⟨q, hq⟩ := par_some hv hn h0
    rw [parL_par hv hn hq] at h; cases h

/-- The line of a block by its parent. -/
theorem domL_step {g : List Bl} (hv : validB g = true) {n : Nat} (hn : Rch g [] n) : domL g n = (match parL g n with | some p => domL g p | none => []) ++ [n] := by
  cases hp : parL g n with
  | none => have := parL_none hv hn hp; subst this; exact domL_entry hv
  | some p => exact domL_par hv hn ((parL_iff hv hn).1 hp)
end Go.Proofs.YtklnhbfpmmdhjaaGreat
