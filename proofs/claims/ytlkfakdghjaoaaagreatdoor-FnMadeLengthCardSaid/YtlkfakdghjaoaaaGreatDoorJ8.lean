import Derived.Test.YtlkfakdghjaoaaaGreatDoorJ7
import Derived.Test.YtlkfakdghjaoaaaGreatDoorDraws
import Derived.Test.YtlkfakdghjaoaaaGreatDoorJ3
import Derived.Test.YtlkfakdghjaoaaaGreatDoorValids
import Derived.Test.YtlkfakdghjaoaaaGreatDoorJ0
import Derived.ChangeSlices
namespace Go.Proofs.YtlkfakdghjaoaaaGreatDoor
theorem dmB_iff {g : List Bl} (hv : validB g = true) {a b : Nat} : dmB g a b = true ↔ Dm g a b := by
 unfold dmB Dm
 rw [Bool.or_eq_true_iff, decide_eq_true_iff, decide_eq_true_iff, mem_reachW hv]
theorem dmB_eq {g : List Bl} (hv : validB g = true) {a b : Nat} {S : Nat → Nat} (hS : ∀ b, Rch g [] b → ∀ a, (S b).testBit a = true ↔ Dm g a b) (hb : Rch g [] b) : (S b).testBit a = dmB g a b := by
 rw [Bool.eq_iff_iff, hS b hb a, dmB_iff hv]
end Go.Proofs.YtlkfakdghjaoaaaGreatDoor
namespace Go.Proofs.YtlkfakdghjaoaaaGreatDoor
def visit (nx : Nat → List Nat) : Nat → Nat → List Nat × List Nat → List Nat × List Nat
 | 0, _, st => st
 | m + 1, i, st =>
  let s := (nx i).reverse.foldl (fun st t => if t ∈ st.1 then st else visit nx m t st) (st.1 ++ [i], st.2)
  (s.1, i :: s.2)
def visits (nx : Nat → List Nat) (m : Nat) (st : List Nat × List Nat) (ts : List Nat) : List Nat × List Nat :=
 ts.foldl (fun st t => if t ∈ st.1 then st else visit nx m t st) st
theorem visit_succ (nx : Nat → List Nat) (m i : Nat) (st : List Nat × List Nat) :
  visit nx (m + 1) i st = ((visits nx m (st.1 ++ [i], st.2) (nx i).reverse).1, i :: (visits nx m (st.1 ++ [i], st.2) (nx i).reverse).2) := rfl
theorem visits_nil (nx : Nat → List Nat) (m : Nat) (st : List Nat × List Nat) : visits nx m st [] = st := rfl
theorem visits_cons (nx : Nat → List Nat) (m : Nat) (st : List Nat × List Nat) (t : Nat) (ts : List Nat) : visits nx m st (t :: ts) = visits nx m (if t ∈ st.1 then st else visit nx m t st) ts := rfl
theorem visits_snoc (nx : Nat → List Nat) (m : Nat) (st : List Nat × List Nat) (t : Nat) (ts : List Nat) :
  visits nx m st (ts ++ [t]) = if t ∈ (visits nx m st ts).1 then visits nx m st ts else visit nx m t (visits nx m st ts) := by
 unfold visits; rw [List.foldl_append]; rfl
structure Seen (g : List Bl) (s : List Nat) : Prop where
 nodup : s.Nodup
 lt : ∀ x ∈ s, x < g.length
theorem Seen.len {g : List Bl} {s : List Nat} (h : Seen g s) : s.length ≤ g.length := nodup_lt_len _ _ h.nodup h.lt
theorem Seen.snoc {g : List Bl} {s : List Nat} (h : Seen g s) {i : Nat} (hi : i < g.length) (hn : i ∉ s) : Seen g (s ++ [i]) :=
 ⟨List.nodup_append.2 ⟨h.nodup, by simp, fun a ha b hb e => by simp at hb; subst hb; subst e; exact hn ha⟩, fun x hx => (List.mem_append.1 hx).elim (h.lt x) fun e => by simp at e; omega⟩
structure Went (g : List Bl) (P s d s' d' D : List Nat) : Prop where
 put : d' = D ++ d
 seen : ∃ S, s' = s ++ S ∧ S.Perm D
 ok : Seen g s'
 live : ∀ x ∈ D, Rch g [] x
 order : ∀ x ∈ D, ∀ a, Dm g a x → a = x ∨ a ∈ P ∨ [a, x].Sublist D
 closed : ∀ x ∈ D, ∀ t ∈ nxt g x, t ∈ s'
theorem Went.refl {g : List Bl} {P s d : List Nat} (h : Seen g s) : Went g P s d s d [] :=
 ⟨rfl, ⟨[], by simp, .refl _⟩, h, by simp, by simp, by simp⟩
theorem Went.grows {g : List Bl} {P s d s' d' D : List Nat} (h : Went g P s d s' d' D) {x : Nat} (hx : x ∈ s) : x ∈ s' := by
 obtain ⟨S, e, _⟩ := h.seen
 rw [e]; exact List.mem_append_left _ hx
theorem Went.len {g : List Bl} {P s d s' d' D : List Nat} (h : Went g P s d s' d' D) : s.length ≤ s'.length := by
 obtain ⟨S, e, _⟩ := h.seen
 rw [e, List.length_append]; omega
theorem Went.trans {g : List Bl} {P s d s1 d1 D1 s2 d2 D2 : List Nat} (h : Went g P s d s1 d1 D1) (k : Went g P s1 d1 s2 d2 D2) : Went g P s d s2 d2 (D2 ++ D1) := by
 obtain ⟨S1, e1, p1⟩ := h.seen
 obtain ⟨S2, e2, p2⟩ := k.seen
 refine ⟨by rw [k.put, h.put, List.append_assoc], ⟨S1 ++ S2, by rw [e2, e1, List.append_assoc], (p1.append p2).trans List.perm_append_comm⟩, k.ok, fun x hx => ?_, fun x hx a ha => ?_, fun x hx t ht => ?_⟩
 ·exact (List.mem_append.1 hx).elim (k.live x) (h.live x)
 ·rcases List.mem_append.1 hx with hx | hx
  ·exact (k.order x hx a ha).imp id fun q => q.imp id fun q => q.trans (List.sublist_append_left _ _)
  ·exact (h.order x hx a ha).imp id fun q => q.imp id fun q => q.trans (List.sublist_append_right _ _)
 ·rcases List.mem_append.1 hx with hx | hx
  ·exact k.closed x hx t ht
  ·exact k.grows (h.closed x hx t ht)
theorem visit_went {g : List Bl} (hv : validB g = true) : ∀ (m i : Nat) (s d P : List Nat), i ∉ s → i < g.length → Seen g s → g.length ≤ m + s.length → Rch g [] i → (∀ a, a ∉ P → a ≠ i → Rch g [a] i) →
  ∃ D, Went g P s d (visit (nxt g) m i (s, d)).1 (visit (nxt g) m i (s, d)).2 (i :: D)
 | 0, i, s, d, P, hi, hl, hs, hm, _, _ => by
  have := (hs.snoc hl hi).len
  simp at this; omega
 | m + 1, i, s, d, P, hi, hl, hs, hm, hr, hP => by
  have ih := visit_went hv m
  have inner : ∀ (ts s1 d1 : List Nat), (∀ t ∈ ts, t ∈ nxt g i) → Seen g s1 → g.length ≤ m + s1.length →
    ∃ D, Went g (i :: P) s1 d1 (visits (nxt g) m (s1, d1) ts).1 (visits (nxt g) m (s1, d1) ts).2 D ∧ ∀ t ∈ ts, t ∈ (visits (nxt g) m (s1, d1) ts).1 := by
   intro ts
   induction ts with
   | nil => intro s1 d1 _ h1 _; exact ⟨[], by rw [visits_nil]; exact .refl h1, by simp⟩
   | cons t ts iht =>
    intro s1 d1 hts h1 hm1
    rw [visits_cons]
    by_cases ht : t ∈ s1
    ·rw [if_pos ht]
     obtain ⟨D, hD, hin⟩ := iht s1 d1 (fun x hx => hts x (List.mem_cons_of_mem _ hx)) h1 hm1
     refine ⟨D, hD, fun x hx => ?_⟩
     rcases List.mem_cons.1 hx with rfl | hx
     ·exact hD.grows ht
     ·exact hin x hx
    ·rw [if_neg ht]
     have htn := hts t (by simp)
     have htl := nxt_lt hv hl htn
     obtain ⟨D1, hD1⟩ := ih t s1 d1 (i :: P) ht htl h1 hm1 (.step hr htn (by simp)) fun a ha hat =>
      .step (hP a (fun e => ha (List.mem_cons_of_mem _ e)) (fun e => ha (by simp [e]))) htn (by simpa using fun e => hat e.symm)
     obtain ⟨D, hD, hin⟩ := iht (visit (nxt g) m t (s1, d1)).1 (visit (nxt g) m t (s1, d1)).2 (fun x hx => hts x (List.mem_cons_of_mem _ hx)) hD1.ok (by have := hD1.len; omega)
     refine ⟨_, hD1.trans hD, fun x hx => ?_⟩
     rcases List.mem_cons.1 hx with rfl | hx
     ·obtain ⟨S, e, p⟩ := hD1.seen
      exact hD.grows (by rw [e]; exact List.mem_append_right _ (p.mem_iff.2 (by simp)))
     ·exact hin x hx
  obtain ⟨D, hD, hin⟩ := inner (nxt g i).reverse (s ++ [i]) d (fun t ht => List.mem_reverse.1 ht) (hs.snoc hl hi) (by simp; omega)
  rw [visit_succ]
  obtain ⟨S, e, p⟩ := hD.seen
  refine ⟨D, ⟨by rw [hD.put]; rfl, ⟨i :: S, by rw [e]; simp, p.cons i⟩, hD.ok, fun x hx => ?_, fun x hx a ha => ?_, fun x hx t ht => ?_⟩⟩
  ·rcases List.mem_cons.1 hx with rfl | hx
   ·exact hr
   ·exact hD.live x hx
  ·rcases List.mem_cons.1 hx with rfl | hxD
   ·by_cases e : a = x
    ·exact .inl e
    ·refine .inr (.inl ?_)
     by_cases h : a ∈ P
     ·exact h
     ·rcases ha with ha | ha
      ·exact absurd ha e
      ·exact absurd (hP a h e) ha
   ·rcases hD.order x hxD a ha with q | q | q
    ·exact .inl q
    ·rcases List.mem_cons.1 q with rfl | q
     ·exact .inr (.inr (List.Sublist.cons_cons a (List.singleton_sublist.2 hxD)))
     ·exact .inr (.inl q)
    ·exact .inr (.inr (q.cons i))
  ·rcases List.mem_cons.1 hx with rfl | hx
   ·exact hin t (List.mem_reverse.2 ht)
   ·exact hD.closed x hx t ht
def wayOrd (g : List Bl) : List Nat := (visit (nxt g) g.length 0 ([], [])).2
def wayOrdSeen (g : List Bl) : List Nat := (visit (nxt g) g.length 0 ([], [])).1
theorem wayOrd_went {g : List Bl} (hv : validB g = true) : ∃ D, wayOrd g = 0 :: D ∧ Went g [] [] [] (wayOrdSeen g) (wayOrd g) (0 :: D) := by
 obtain ⟨D, h⟩ := visit_went hv g.length 0 [] [] [] (by simp) (valid_iff.1 hv).1 ⟨.nil, by simp⟩ (by simp) (.start (by simp)) fun a _ h0 => .start (by simpa using fun e => h0 e.symm)
 exact ⟨D, by have := h.put; rw [List.append_nil] at this; exact this, h⟩
theorem wayOrd_nodup {g : List Bl} (hv : validB g = true) : (wayOrd g).Nodup := by
 obtain ⟨D, e, h⟩ := wayOrd_went hv
 obtain ⟨S, e2, p⟩ := h.seen
 rw [e]
 refine (p.nodup_iff).1 ?_
 have := h.ok.nodup
 rw [e2] at this
 simpa using this
theorem mem_wayOrd {g : List Bl} (hv : validB g = true) {x : Nat} : x ∈ wayOrd g ↔ Rch g [] x := by
 obtain ⟨D, e, h⟩ := wayOrd_went hv
 obtain ⟨S, e2, p⟩ := h.seen
 have hs : ∀ y, y ∈ wayOrdSeen g ↔ y ∈ wayOrd g := fun y => by
  rw [e2, e, List.nil_append]; exact p.mem_iff
 refine ⟨fun hx => h.live x (e ▸ hx), fun hx => ?_⟩
 induction hx with
 | start _ => rw [e]; simp
 | @step i t _ hn _ ih => exact (hs t).1 (h.closed i (e ▸ ih) t hn)
theorem wayOrd_lt {g : List Bl} (hv : validB g = true) : ∀ x ∈ wayOrd g, x < g.length := fun _ hx => ((mem_wayOrd hv).1 hx).lt hv
theorem wayOrd_len {g : List Bl} (hv : validB g = true) : (wayOrd g).length ≤ g.length := nodup_lt_len _ _ (wayOrd_nodup hv) (wayOrd_lt hv)
theorem wayOrd_dom {g : List Bl} (hv : validB g = true) {a x : Nat} (hx : Rch g [] x) (ha : Dm g a x) : a = x ∨ [a, x].Sublist (wayOrd g) := by
 obtain ⟨D, e, h⟩ := wayOrd_went hv
 rcases h.order x (e ▸ (mem_wayOrd hv).2 hx) a ha with q | q | q
 ·exact .inl q
 ·simp at q
 ·exact .inr (e ▸ q)
theorem two_ways {a b : Nat} : ∀ {l : List Nat}, l.Nodup → [a, b].Sublist l → [b, a].Sublist l → False
 | [], _, h, _ => by cases h
 | c :: l, hn, h, k => by
  obtain ⟨hc, hl⟩ := List.nodup_cons.1 hn
  cases h with
  | cons _ h =>
   cases k with
   | cons _ k => exact two_ways hl h k
   | cons_cons _ k => exact hc (h.subset (by simp))
  | cons_cons _ h =>
   cases k with
   | cons _ k => exact hc (k.subset (by simp))
   | cons_cons _ k => exact hc (h.subset (by simp))
def domL (g : List Bl) (n : Nat) : List Nat := (wayOrd g).filter fun a => dmB g a n
theorem mem_domL {g : List Bl} (hv : validB g = true) {n a : Nat} (hn : Rch g [] n) : a ∈ domL g n ↔ Dm g a n := by
 unfold domL
 rw [List.mem_filter, mem_wayOrd hv, dmB_iff hv]
 exact ⟨fun h => h.2, fun h => ⟨h.live hn, h⟩⟩
theorem domL_nodup {g : List Bl} (hv : validB g = true) (n : Nat) : (domL g n).Nodup := (wayOrd_nodup hv).filter _
theorem domL_line {g : List Bl} (hv : validB g = true) {n : Nat} (hn : Rch g [] n) : (domL g n).Pairwise (Dm g) := by
 rw [List.pairwise_iff_forall_sublist]
 intro a b h
 have ha := (mem_domL hv hn).1 (h.subset (show a ∈ [a, b] by simp))
 have hb := (mem_domL hv hn).1 (h.subset (show b ∈ [a, b] by simp))
 rcases ha.total hb hn with q | q
 ·exact q
 ·rcases wayOrd_dom hv (ha.live hn) q with e | e
  ·subst e; exact .refl g b
  ·exact (two_ways (wayOrd_nodup hv) e (h.trans List.filter_sublist)).elim
theorem domL_len {g : List Bl} (hv : validB g = true) (n : Nat) : (domL g n).length ≤ g.length := Nat.le_trans (List.length_filter_le _ _) (wayOrd_len hv)
theorem line_same {g : List Bl} {l k : List Nat} (hl : l.Pairwise (Dm g)) (hk : k.Pairwise (Dm g)) (h1 : l.Nodup) (h2 : k.Nodup) (hr : ∀ x ∈ l, Rch g [] x) (h : ∀ x, x ∈ l ↔ x ∈ k) : l = k :=
 List.Perm.eq_of_pairwise (le := Dm g) (fun a _ ha _ hab hba => hab.antisymm hba (hr a ha)) hl hk ((List.perm_ext_iff_of_nodup h1 h2).2 h)
theorem domL_par {g : List Bl} (hv : validB g = true) {p n : Nat} (hn : Rch g [] n) (h : Par g p n) : domL g n = domL g p ++ [n] := by
 have hp := h.2.1
 have hnp : n ∉ domL g p := fun e => by
  have h1 := (mem_domL hv hp).1 e
  have h2 : Dm g p n := (h.2.2 p).2 (.inr (.refl g p))
  exact h.1 (h2.antisymm h1 hp)
 refine line_same (domL_line hv hn) ?_ (domL_nodup hv n) ?_ (fun x hx => ((mem_domL hv hn).1 hx).live hn) fun x => ?_
 ·rw [List.pairwise_append]
  refine ⟨domL_line hv hp, by simp, fun a ha b hb => ?_⟩
  simp at hb; subst hb
  exact (h.2.2 a).2 (.inr ((mem_domL hv hp).1 ha))
 ·exact List.nodup_append.2 ⟨domL_nodup hv p, by simp, fun a ha b hb e => by simp at hb; subst hb; subst e; exact hnp ha⟩
 ·rw [mem_domL hv hn, h.2.2 x, List.mem_append, mem_domL hv hp, List.mem_singleton]
  exact or_comm
theorem domL_entry {g : List Bl} (hv : validB g = true) : domL g 0 = [0] := by
 have h0 : Rch g [] 0 := .start (by simp)
 refine line_same (domL_line hv h0) (by simp) (domL_nodup hv 0) (by simp) (fun x hx => ((mem_domL hv h0).1 hx).live h0) fun x => ?_
 rw [mem_domL hv h0, List.mem_singleton]
 exact ⟨fun h => h.of_entry, fun h => by subst h; exact .refl g 0⟩
def parL (g : List Bl) (n : Nat) : Option Nat := (domL g n).dropLast.getLast?
theorem domL_pos {g : List Bl} (hv : validB g = true) {n : Nat} (hn : Rch g [] n) : ∃ l, domL g n = l ++ [n] := by
 by_cases h0 : n = 0
 ·subst h0; exact ⟨[], domL_entry hv⟩
 ·obtain ⟨p, hp⟩ := par_some hv hn h0
  exact ⟨_, domL_par hv hn hp⟩
theorem parL_entry {g : List Bl} (hv : validB g = true) : parL g 0 = none := by unfold parL; rw [domL_entry hv]; rfl
theorem parL_par {g : List Bl} (hv : validB g = true) {p n : Nat} (hn : Rch g [] n) (h : Par g p n) : parL g n = some p := by
 unfold parL
 rw [domL_par hv hn h, List.dropLast_concat]
 obtain ⟨l, e⟩ := domL_pos hv h.2.1
 rw [e, List.getLast?_concat]
theorem parL_iff {g : List Bl} (hv : validB g = true) {p n : Nat} (hn : Rch g [] n) : parL g n = some p ↔ Par g p n := by
 constructor
 ·intro h
  by_cases h0 : n = 0
  ·subst h0; rw [parL_entry hv] at h; cases h
  ·obtain ⟨q, hq⟩ := par_some hv hn h0
   rw [parL_par hv hn hq] at h
   cases h; exact hq
 ·exact parL_par hv hn
theorem parL_none {g : List Bl} (hv : validB g = true) {n : Nat} (hn : Rch g [] n) (h : parL g n = none) : n = 0 := by
 by_cases h0 : n = 0
 ·exact h0
 ·obtain ⟨q, hq⟩ := par_some hv hn h0
  rw [parL_par hv hn hq] at h; cases h
theorem domL_step {g : List Bl} (hv : validB g = true) {n : Nat} (hn : Rch g [] n) : domL g n = (match parL g n with | some p => domL g p | none => []) ++ [n] := by
 cases hp : parL g n with
 | none => have := parL_none hv hn hp; subst this; exact domL_entry hv
 | some p => exact domL_par hv hn ((parL_iff hv hn).1 hp)
end Go.Proofs.YtlkfakdghjaoaaaGreatDoor
namespace Go.Proofs.YtlkfakdghjaoaaaGreatDoor
def IsMeet (g : List Bl) (a b m : Nat) : Prop := Dm g m a ∧ Dm g m b ∧ ∀ x, Dm g x a → Dm g x b → Dm g x m
def same : List Nat → List Nat → Nat → Prop := fun l k n => n ≤ l.length ∧ n ≤ k.length ∧ l.take n = k.take n
structure Climb (g : List Bl) (a b m : Nat) : Prop where
 dom : Dm g m a
 all : ∀ x, Dm g x a → Dm g x b → Dm g x m
theorem Climb.start (g : List Bl) (a b : Nat) : Climb g a b a := ⟨.refl g a, fun _ h _ => h⟩
theorem Climb.up {g : List Bl} {a b m p : Nat} (h : Climb g a b m) (hm : ¬ Dm g m b) (hp : Par g p m) : Climb g a b p := by
 refine ⟨((hp.2.2 p).2 (.inr (.refl g p))).trans h.dom, fun x hxa hxb => ?_⟩
 rcases (hp.2.2 x).1 (h.all x hxa hxb) with rfl | k
 ·exact absurd hxb hm
 ·exact k
theorem Climb.done {g : List Bl} {a b m : Nat} (h : Climb g a b m) (hm : Dm g m b) : IsMeet g a b m := ⟨h.dom, hm, h.all⟩
def kidsL (g : List Bl) (n : Nat) : List Nat := (reachS g).filter fun c => decide (parL g c = some n)
theorem mem_reachS' {g : List Bl} (hv : validB g = true) {x : Nat} : x ∈ reachS g ↔ Rch g [] x := by
 unfold reachS
 rw [List.mem_filter, List.mem_range]
 constructor
 ·intro h; exact (mem_reach hv).1 (by simpa using h.2)
 ·intro h; exact ⟨h.lt hv, by simpa using (mem_reach hv).2 h⟩
theorem mem_kids {g : List Bl} (hv : validB g = true) {n c : Nat} : c ∈ kidsL g n ↔ Rch g [] c ∧ Par g n c := by
 unfold kidsL
 rw [List.mem_filter, mem_reachS' hv, decide_eq_true_iff]
 exact ⟨fun h => ⟨h.1, (parL_iff hv h.1).1 h.2⟩, fun h => ⟨h.1, (parL_iff hv h.1).2 h.2⟩⟩
theorem kids_lt {g : List Bl} (hv : validB g = true) {n : Nat} : ∀ c ∈ kidsL g n, c < g.length := fun _ h => ((mem_kids hv).1 h).1.lt hv
def subN (g : List Bl) (n : Nat) : Nat := (reachS g).countP fun x => dmB g n x
def sumF (f : Nat → Nat) (l : List Nat) : Nat := (l.map f).sum
theorem sumF_cons (f : Nat → Nat) (c : Nat) (l : List Nat) : sumF f (c :: l) = f c + sumF f l := by simp [sumF]
theorem sumF_append (f : Nat → Nat) (l k : List Nat) : sumF f (l ++ k) = sumF f l + sumF f k := by simp [sumF]
theorem countP_sum (D : Nat → Nat → Bool) (ks : List Nat) : ∀ (xs : List Nat), sumF (fun c => xs.countP fun x => D c x) ks = sumF (fun x => ks.countP fun c => D c x) xs
 | [] => by
  induction ks with
  | nil => rfl
  | cons c ks ih => rw [sumF_cons, ih]; simp [sumF]
 | x :: xs => by
  have ih := countP_sum D ks xs
  rw [sumF_cons, ← ih]
  clear ih
  induction ks with
  | nil => rfl
  | cons c ks ih2 =>
   rw [sumF_cons, ih2, sumF_cons, List.countP_cons, List.countP_cons]
   omega
theorem countP_le_one {p : Nat → Bool} : ∀ {l : List Nat}, l.Nodup → (∀ a ∈ l, ∀ b ∈ l, p a = true → p b = true → a = b) → l.countP p ≤ 1
 | [], _, _ => by simp
 | x :: l, hn, h => by
  obtain ⟨hx, hl⟩ := List.nodup_cons.1 hn
  have ih := countP_le_one hl fun a ha b hb => h a (List.mem_cons_of_mem _ ha) b (List.mem_cons_of_mem _ hb)
  rw [List.countP_cons]
  cases hp : p x with
  | false => simp only [Bool.false_eq_true, if_false]; omega
  | true =>
   have h0 : l.countP p = 0 := by
    rw [List.countP_eq_zero]
    intro b hb hpb
    have := h x (by simp) b (List.mem_cons_of_mem _ hb) hp hpb
    exact hx (this ▸ hb)
   rw [h0]; simp
theorem sumF_le {f k : Nat → Nat} : ∀ {l : List Nat}, (∀ x ∈ l, f x ≤ k x) → sumF f l ≤ sumF k l
 | [], _ => Nat.le_refl _
 | x :: l, h => by
  rw [sumF_cons, sumF_cons]
  have := sumF_le (f := f) (k := k) (l := l) fun y hy => h y (List.mem_cons_of_mem _ hy)
  have := h x (by simp)
  omega
theorem sumF_count (p : Nat → Bool) : ∀ l, sumF (fun x => if p x then 1 else 0) l = l.countP p
 | [] => rfl
 | x :: l => by rw [sumF_cons, sumF_count p l, List.countP_cons]; omega
theorem kids_sub {g : List Bl} (hv : validB g = true) {n : Nat} (hn : Rch g [] n) : sumF (subN g) (kidsL g n) + 1 ≤ subN g n := by
 have hk : ∀ c ∈ kidsL g n, Rch g [] c ∧ Par g n c := fun c h => (mem_kids hv).1 h
 have e : sumF (subN g) (kidsL g n) = sumF (fun x => (kidsL g n).countP fun c => dmB g c x) (reachS g) := countP_sum (dmB g) (kidsL g n) (reachS g)
 have hnd : (kidsL g n).Nodup := List.Pairwise.filter _ (List.Pairwise.filter _ List.nodup_range)
 have h1 : ∀ x ∈ reachS g, ((kidsL g n).countP fun c => dmB g c x) ≤ if (dmB g n x && decide (x ≠ n)) then 1 else 0 := by
  intro x hx
  have hxr := (mem_reachS' hv).1 hx
  by_cases hd : (dmB g n x && decide (x ≠ n)) = true
  ·rw [if_pos hd]
   refine countP_le_one hnd fun a ha b hb hpa hpb => ?_
   have ka := hk a ha
   have kb := hk b hb
   rcases ((dmB_iff hv).1 hpa).total ((dmB_iff hv).1 hpb) hxr with q | q
   ·rcases (kb.2.2.2 a).1 q with e | e
    ·exact e
    ·exact absurd (e.antisymm ((ka.2.2.2 n).2 (.inr (.refl g n))) (e.live hn)) fun h => ka.2.1 h.symm
   ·rcases (ka.2.2.2 b).1 q with e | e
    ·exact e.symm
    ·exact absurd (e.antisymm ((kb.2.2.2 n).2 (.inr (.refl g n))) (e.live hn)) fun h => kb.2.1 h.symm
  ·rw [if_neg hd, Nat.le_zero, List.countP_eq_zero]
   intro c hc hp
   apply hd
   have kc := hk c hc
   have hcx := (dmB_iff hv).1 hp
   have hnc : Dm g n c := (kc.2.2.2 n).2 (.inr (.refl g n))
   rw [Bool.and_eq_true_iff, dmB_iff hv, decide_eq_true_iff]
   refine ⟨hnc.trans hcx, fun q => ?_⟩
   subst q
   exact kc.2.1 (hnc.antisymm hcx hn)
 have h2 := sumF_le h1
 rw [sumF_count] at h2
 rw [e]
 have h3 : (reachS g).countP (fun x => dmB g n x && decide (x ≠ n)) + 1 ≤ subN g n := by
  unfold subN
  have hnm : n ∈ reachS g := (mem_reachS' hv).2 hn
  obtain ⟨l1, l2, hl⟩ := List.append_of_mem hnm
  rw [hl, List.countP_append, List.countP_append, List.countP_cons, List.countP_cons]
  have q1 : dmB g n n = true := (dmB_iff hv).2 (.refl g n)
  have q2 : ∀ l : List Nat, l.countP (fun x => dmB g n x && decide (x ≠ n)) ≤ l.countP fun x => dmB g n x := fun l =>
   List.countP_mono_left fun x _ hx => (Bool.and_eq_true_iff.1 hx).1
  have := q2 l1
  have := q2 l2
  have e0 : (true && decide (n ≠ n)) = false := by simp
  rw [q1, e0]
  simp only [Bool.false_eq_true, if_false, if_true]
  omega
 omega
theorem sub_le {g : List Bl} (hv : validB g = true) (n : Nat) : subN g n ≤ 26 := by
 have h1 : subN g n ≤ (reachS g).length := List.countP_le_length
 have h2 : (reachS g).length ≤ g.length := by
  have := List.length_filter_le (fun i => decide (i ∈ reach g)) (List.range g.length)
  simpa [reachS] using this
 have := (valid_iff.1 hv).2.1
 omega
theorem one_size {g : List Bl} (hv : validB g = true) {i : Nat} (hi : i < g.length) : (nthName g i).size = 1 := by
 obtain ⟨c, hc, _⟩ := valid_one hv (List.getElem_mem hi)
 rw [nthName_at hi, hc]; rfl
theorem Rch.big {g : List Bl} (hv : validB g = true) {x a : Nat} (h : Rch g [] x) (ha : g.length ≤ a) : Rch g [a] x := by
 induction h with
 | start _ => exact .start (by have := (valid_iff.1 hv).1; simp; omega)
 | @step i t hi hn _ ih => exact .step ih hn (by have := nxt_lt hv (hi.lt hv) hn; simp; omega)
structure Gone (g : List Bl) (s d s' d' : List Nat) : Prop where
 ok : Seen g s'
 pre : s <+: s'
 lt : ∀ x ∈ d', x < g.length
 len : d'.length ≤ s'.length
theorem visit_gone {g : List Bl} (hv : validB g = true) {m i : Nat} {s d : List Nat} (hi : i ∉ s) (hr : Rch g [] i) (hs : Seen g s) (hm : g.length ≤ m + s.length) (hd : ∀ x ∈ d, x < g.length) (hl : d.length ≤ s.length) :
  Gone g s d (visit (nxt g) m i (s, d)).1 (visit (nxt g) m i (s, d)).2 := by
 obtain ⟨D, h⟩ := visit_went hv m i s d (List.range g.length) hi (hr.lt hv) hs hm hr fun a ha _ => hr.big hv (by simpa using ha)
 obtain ⟨S, e, p⟩ := h.seen
 refine ⟨h.ok, ⟨S, e.symm⟩, fun x hx => ?_, ?_⟩
 ·rw [h.put] at hx
  rcases List.mem_append.1 hx with hx | hx
  ·exact (h.live x hx).lt hv
  ·exact hd x hx
 ·rw [h.put, e, List.length_append, List.length_append, ← p.length_eq]; omega
end Go.Proofs.YtlkfakdghjaoaaaGreatDoor

namespace Go.Proofs.YtlkfakdghjaoaaaGreatDoor
open Go.ChangeShapes Go.WideShapes Go.ChangeAt Go.RowKit Go.Deep Go.Sort
def Drawn (n : Nat) (w : World) (e : Ending) (w' : World) : Prop :=
 ∃ A cap g, e = .returned (.slice A g.length cap) ∧ g.length ≤ cap ∧ Gr w' A g ∧ g.length + tot g ≤ n ∧ Below w.heap.size w w'
theorem drawn_of {n : Nat} {w : World} {e : Ending} {w' : World} (h : DrawPost n w e w') : Drawn n w e w' := by
 obtain ⟨v, g, rfl, ho, hn, hB⟩ := h
 obtain ⟨A, cap, rfl, hc, hg⟩ := own_gr ho
 exact ⟨A, cap, g, rfl, hc, hg, hn, hB⟩
def DrawnPlace (n : Nat) (w : World) (e : Ending) (w' : World) : Prop :=
 ∃ A cap g s, e = .returned (.tuple #[.slice A g.length cap, .string s]) ∧ g.length ≤ cap ∧ Gr w' A g ∧ g.length + tot g ≤ n ∧ s.size ≤ 2 ∧ Below w.heap.size w w'
theorem drawnPlace_of {n : Nat} {w : World} {e : Ending} {w' : World} (h : DrawPlacePost n w e w') : DrawnPlace n w e w' := by
 obtain ⟨v, g, s, rfl, ho, hn, hs, hB⟩ := h
 obtain ⟨A, cap, rfl, hc, hg⟩ := own_gr ho
 exact ⟨A, cap, g, s, rfl, hc, hg, hn, hs, hB⟩
end Go.Proofs.YtlkfakdghjaoaaaGreatDoor
