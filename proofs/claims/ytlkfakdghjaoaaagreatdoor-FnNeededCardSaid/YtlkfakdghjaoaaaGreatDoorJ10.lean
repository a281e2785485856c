import Derived.Test.YtlkfakdghjaoaaaGreatDoorJ9
import Derived.Test.YtlkfakdghjaoaaaGreatDoorJ3
import Derived.ChangeSlices
import Derived.Maps.AppendAt
namespace Go.Proofs.YtlkfakdghjaoaaaGreatDoor
theorem fw {g : List Bl} (hv : aa g = true) {a b : Nat} : bU g a b = true ↔ Dm g a b := by
 unfold bU Dm
 rw [Bool.or_eq_true_iff, decide_eq_true_iff, decide_eq_true_iff, m5 hv]
theorem Fs {g : List Bl} (hv : aa g = true) {a b : Nat} {S : Nat → Nat} (hS : ∀ b, Rch g [] b → ∀ a, (S b).testBit a = true ↔ Dm g a b) (hb : Rch g [] b) : (S b).testBit a = bU g a b := by
 rw [Bool.eq_iff_iff, hS b hb a, fw hv]
end Go.Proofs.YtlkfakdghjaoaaaGreatDoor
namespace Go.Proofs.YtlkfakdghjaoaaaGreatDoor
def df (nx : Nat → List Nat) : Nat → Nat → List Nat × List Nat → List Nat × List Nat
 | 0, _, st => st
 | m + 1, i, st =>
  let s := (nx i).reverse.foldl (fun st t => if t ∈ st.1 then st else df nx m t st) (st.1 ++ [i], st.2)
  (s.1, i :: s.2)
def bN (nx : Nat → List Nat) (m : Nat) (st : List Nat × List Nat) (ts : List Nat) : List Nat × List Nat :=
 ts.foldl (fun st t => if t ∈ st.1 then st else df nx m t st) st
theorem ia (nx : Nat → List Nat) (m i : Nat) (st : List Nat × List Nat) :
  df nx (m + 1) i st = ((bN nx m (st.1 ++ [i], st.2) (nx i).reverse).1, i :: (bN nx m (st.1 ++ [i], st.2) (nx i).reverse).2) := rfl
theorem y5 (nx : Nat → List Nat) (m : Nat) (st : List Nat × List Nat) : bN nx m st [] = st := rfl
theorem kY (nx : Nat → List Nat) (m : Nat) (st : List Nat × List Nat) (t : Nat) (ts : List Nat) : bN nx m st (t :: ts) = bN nx m (if t ∈ st.1 then st else df nx m t st) ts := rfl
theorem oU (nx : Nat → List Nat) (m : Nat) (st : List Nat × List Nat) (t : Nat) (ts : List Nat) :
  bN nx m st (ts ++ [t]) = if t ∈ (bN nx m st ts).1 then bN nx m st ts else df nx m t (bN nx m st ts) := by
 unfold bN; rw [List.foldl_append]; rfl
structure Seen (g : List Bl) (s : List Nat) : Prop where
 nodup : s.Nodup
 lt : ∀ x ∈ s, x < g.length
theorem Seen.len {g : List Bl} {s : List Nat} (h : Seen g s) : s.length ≤ g.length := bS _ _ h.nodup h.lt
theorem Seen.snoc {g : List Bl} {s : List Nat} (h : Seen g s) {i : Nat} (hi : i < g.length) (hn : i ∉ s) : Seen g (s ++ [i]) :=
 ⟨List.nodup_append.2 ⟨h.nodup, by simp, fun a ha b hb e => by simp at hb; subst hb; subst e; exact hn ha⟩, fun x hx => (List.mem_append.1 hx).elim (h.lt x) fun e => by simp at e; omega⟩
structure Went (g : List Bl) (P s d s' d' D : List Nat) : Prop where
 put : d' = D ++ d
 seen : ∃ S, s' = s ++ S ∧ S.Perm D
 ok : Seen g s'
 live : ∀ x ∈ D, Rch g [] x
 order : ∀ x ∈ D, ∀ a, Dm g a x → a = x ∨ a ∈ P ∨ [a, x].Sublist D
 closed : ∀ x ∈ D, ∀ t ∈ ai g x, t ∈ s'
theorem Went.refl {g : List Bl} {P s d : List Nat} (h : Seen g s) : Went g P s d s d [] :=
 ⟨rfl, ⟨[], by simp, .refl _⟩, h, by simp, by simp, by simp⟩
theorem Went.grows {g : List Bl} {P s d s' d' D : List Nat} (h : Went g P s d s' d' D) {x : Nat} (hx : x ∈ s) : x ∈ s' := by
 obtain ⟨S, e, _⟩ := h.seen
 rw [e]; exact List.mem_append_left _ hx
theorem Went.len {g : List Bl} {P s d s' d' D : List Nat} (h : Went g P s d s' d' D) : s.length ≤ s'.length := by
 obtain ⟨S, e, _⟩ := h.seen
 rw [e, List.length_append]; omega
theorem Went.trans {g : List Bl} {P s d s1 d1 D1 s2 d2 D2 : List Nat} (h : Went g P s d s1 d1 D1) (k : Went g P s1 d1 s2 d2 D2) : Went g P s d s2 d2 (D2 ++ D1) := by
 obtain ⟨S1, e1, p1⟩ := h.seen
 obtain ⟨S2, e2, p2⟩ := k.seen
 refine ⟨by rw [k.put, h.put, List.append_assoc], ⟨S1 ++ S2, by rw [e2, e1, List.append_assoc], (p1.append p2).trans List.perm_append_comm⟩, k.ok, fun x hx => ?_, fun x hx a ha => ?_, fun x hx t ht => ?_⟩
 ·exact (List.mem_append.1 hx).elim (k.live x) (h.live x)
 ·rcases List.mem_append.1 hx with hx | hx
  ·exact (k.order x hx a ha).imp id fun q => q.imp id fun q => q.trans (List.sublist_append_left _ _)
  ·exact (h.order x hx a ha).imp id fun q => q.imp id fun q => q.trans (List.sublist_append_right _ _)
 ·rcases List.mem_append.1 hx with hx | hx
  ·exact k.closed x hx t ht
  ·exact k.grows (h.closed x hx t ht)
theorem l5 {g : List Bl} (hv : aa g = true) : ∀ (m i : Nat) (s d P : List Nat), i ∉ s → i < g.length → Seen g s → g.length ≤ m + s.length → Rch g [] i → (∀ a, a ∉ P → a ≠ i → Rch g [a] i) →
  ∃ D, Went g P s d (df (ai g) m i (s, d)).1 (df (ai g) m i (s, d)).2 (i :: D)
 | 0, i, s, d, P, hi, hl, hs, hm, _, _ => by
  have := (hs.snoc hl hi).len
  simp at this; omega
 | m + 1, i, s, d, P, hi, hl, hs, hm, hr, hP => by
  have ih := l5 hv m
  have inner : ∀ (ts s1 d1 : List Nat), (∀ t ∈ ts, t ∈ ai g i) → Seen g s1 → g.length ≤ m + s1.length →
    ∃ D, Went g (i :: P) s1 d1 (bN (ai g) m (s1, d1) ts).1 (bN (ai g) m (s1, d1) ts).2 D ∧ ∀ t ∈ ts, t ∈ (bN (ai g) m (s1, d1) ts).1 := by
   intro ts
   induction ts with
   | nil => intro s1 d1 _ h1 _; exact ⟨[], by rw [y5]; exact .refl h1, by simp⟩
   | cons t ts iht =>
    intro s1 d1 hts h1 hm1
    rw [kY]
    by_cases ht : t ∈ s1
    ·rw [if_pos ht]
     obtain ⟨D, hD, hin⟩ := iht s1 d1 (fun x hx => hts x (List.mem_cons_of_mem _ hx)) h1 hm1
     refine ⟨D, hD, fun x hx => ?_⟩
     rcases List.mem_cons.1 hx with rfl | hx
     ·exact hD.grows ht
     ·exact hin x hx
    ·rw [if_neg ht]
     have htn := hts t (by simp)
     have htl := bP hv hl htn
     obtain ⟨D1, hD1⟩ := ih t s1 d1 (i :: P) ht htl h1 hm1 (.step hr htn (by simp)) fun a ha hat =>
      .step (hP a (fun e => ha (List.mem_cons_of_mem _ e)) (fun e => ha (by simp [e]))) htn (by simpa using fun e => hat e.symm)
     obtain ⟨D, hD, hin⟩ := iht (df (ai g) m t (s1, d1)).1 (df (ai g) m t (s1, d1)).2 (fun x hx => hts x (List.mem_cons_of_mem _ hx)) hD1.ok (by have := hD1.len; omega)
     refine ⟨_, hD1.trans hD, fun x hx => ?_⟩
     rcases List.mem_cons.1 hx with rfl | hx
     ·obtain ⟨S, e, p⟩ := hD1.seen
      exact hD.grows (by rw [e]; exact List.mem_append_right _ (p.mem_iff.2 (by simp)))
     ·exact hin x hx
  obtain ⟨D, hD, hin⟩ := inner (ai g i).reverse (s ++ [i]) d (fun t ht => List.mem_reverse.1 ht) (hs.snoc hl hi) (by simp; omega)
  rw [ia]
  obtain ⟨S, e, p⟩ := hD.seen
  refine ⟨D, ⟨by rw [hD.put]; rfl, ⟨i :: S, by rw [e]; simp, p.cons i⟩, hD.ok, fun x hx => ?_, fun x hx a ha => ?_, fun x hx t ht => ?_⟩⟩
  ·rcases List.mem_cons.1 hx with rfl | hx
   ·exact hr
   ·exact hD.live x hx
  ·rcases List.mem_cons.1 hx with rfl | hxD
   ·by_cases e : a = x
    ·exact .inl e
    ·refine .inr (.inl ?_)
     by_cases h : a ∈ P
     ·exact h
     ·rcases ha with ha | ha
      ·exact absurd ha e
      ·exact absurd (hP a h e) ha
   ·rcases hD.order x hxD a ha with q | q | q
    ·exact .inl q
    ·rcases List.mem_cons.1 q with rfl | q
     ·exact .inr (.inr (List.Sublist.cons_cons a (List.singleton_sublist.2 hxD)))
     ·exact .inr (.inl q)
    ·exact .inr (.inr (q.cons i))
  ·rcases List.mem_cons.1 hx with rfl | hx
   ·exact hin t (List.mem_reverse.2 ht)
   ·exact hD.closed x hx t ht
def ac (g : List Bl) : List Nat := (df (ai g) g.length 0 ([], [])).2
def qj (g : List Bl) : List Nat := (df (ai g) g.length 0 ([], [])).1
theorem gA {g : List Bl} (hv : aa g = true) : ∃ D, ac g = 0 :: D ∧ Went g [] [] [] (qj g) (ac g) (0 :: D) := by
 obtain ⟨D, h⟩ := l5 hv g.length 0 [] [] [] (by simp) (aj.1 hv).1 ⟨.nil, by simp⟩ (by simp) (.start (by simp)) fun a _ h0 => .start (by simpa using fun e => h0 e.symm)
 exact ⟨D, by have := h.put; rw [List.append_nil] at this; exact this, h⟩
theorem aZ {g : List Bl} (hv : aa g = true) : (ac g).Nodup := by
 obtain ⟨D, e, h⟩ := gA hv
 obtain ⟨S, e2, p⟩ := h.seen
 rw [e]
 refine (p.nodup_iff).1 ?_
 have := h.ok.nodup
 rw [e2] at this
 simpa using this
theorem aA {g : List Bl} (hv : aa g = true) {x : Nat} : x ∈ ac g ↔ Rch g [] x := by
 obtain ⟨D, e, h⟩ := gA hv
 obtain ⟨S, e2, p⟩ := h.seen
 have hs : ∀ y, y ∈ qj g ↔ y ∈ ac g := fun y => by
  rw [e2, e, List.nil_append]; exact p.mem_iff
 refine ⟨fun hx => h.live x (e ▸ hx), fun hx => ?_⟩
 induction hx with
 | start _ => rw [e]; simp
 | @step i t _ hn _ ih => exact (hs t).1 (h.closed i (e ▸ ih) t hn)
theorem aX {g : List Bl} (hv : aa g = true) : ∀ x ∈ ac g, x < g.length := fun _ hx => ((aA hv).1 hx).lt hv
theorem bK {g : List Bl} (hv : aa g = true) : (ac g).length ≤ g.length := bS _ _ (aZ hv) (aX hv)
theorem qk {g : List Bl} (hv : aa g = true) {a x : Nat} (hx : Rch g [] x) (ha : Dm g a x) : a = x ∨ [a, x].Sublist (ac g) := by
 obtain ⟨D, e, h⟩ := gA hv
 rcases h.order x (e ▸ (aA hv).2 hx) a ha with q | q | q
 ·exact .inl q
 ·simp at q
 ·exact .inr (e ▸ q)
theorem uL {a b : Nat} : ∀ {l : List Nat}, l.Nodup → [a, b].Sublist l → [b, a].Sublist l → False
 | [], _, h, _ => by cases h
 | c :: l, hn, h, k => by
  obtain ⟨hc, hl⟩ := List.nodup_cons.1 hn
  cases h with
  | cons _ h =>
   cases k with
   | cons _ k => exact uL hl h k
   | cons_cons _ k => exact hc (h.subset (by simp))
  | cons_cons _ h =>
   cases k with
   | cons _ k => exact hc (k.subset (by simp))
   | cons_cons _ k => exact hc (h.subset (by simp))
def dT (g : List Bl) (n : Nat) : List Nat := (ac g).filter fun a => bU g a n
theorem eK {g : List Bl} (hv : aa g = true) {n a : Nat} (hn : Rch g [] n) : a ∈ dT g n ↔ Dm g a n := by
 unfold dT
 rw [List.mem_filter, aA hv, fw hv]
 exact ⟨fun h => h.2, fun h => ⟨h.live hn, h⟩⟩
theorem l6 {g : List Bl} (hv : aa g = true) (n : Nat) : (dT g n).Nodup := (aZ hv).filter _
theorem nt {g : List Bl} (hv : aa g = true) {n : Nat} (hn : Rch g [] n) : (dT g n).Pairwise (Dm g) := by
 rw [List.pairwise_iff_forall_sublist]
 intro a b h
 have ha := (eK hv hn).1 (h.subset (show a ∈ [a, b] by simp))
 have hb := (eK hv hn).1 (h.subset (show b ∈ [a, b] by simp))
 rcases ha.total hb hn with q | q
 ·exact q
 ·rcases qk hv (ha.live hn) q with e | e
  ·subst e; exact .refl g b
  ·exact (uL (aZ hv) e (h.trans List.filter_sublist)).elim
theorem CQ {g : List Bl} (hv : aa g = true) (n : Nat) : (dT g n).length ≤ g.length := Nat.le_trans (List.length_filter_le _ _) (bK hv)
theorem sD {g : List Bl} {l k : List Nat} (hl : l.Pairwise (Dm g)) (hk : k.Pairwise (Dm g)) (h1 : l.Nodup) (h2 : k.Nodup) (hr : ∀ x ∈ l, Rch g [] x) (h : ∀ x, x ∈ l ↔ x ∈ k) : l = k :=
 List.Perm.eq_of_pairwise (le := Dm g) (fun a _ ha _ hab hba => hab.antisymm hba (hr a ha)) hl hk ((List.perm_ext_iff_of_nodup h1 h2).2 h)
theorem pB {g : List Bl} (hv : aa g = true) {p n : Nat} (hn : Rch g [] n) (h : dK g p n) : dT g n = dT g p ++ [n] := by
 have hp := h.2.1
 have hnp : n ∉ dT g p := fun e => by
  have h1 := (eK hv hp).1 e
  have h2 : Dm g p n := (h.2.2 p).2 (.inr (.refl g p))
  exact h.1 (h2.antisymm h1 hp)
 refine sD (nt hv hn) ?_ (l6 hv n) ?_ (fun x hx => ((eK hv hn).1 hx).live hn) fun x => ?_
 ·rw [List.pairwise_append]
  refine ⟨nt hv hp, by simp, fun a ha b hb => ?_⟩
  simp at hb; subst hb
  exact (h.2.2 a).2 (.inr ((eK hv hp).1 ha))
 ·exact List.nodup_append.2 ⟨l6 hv p, by simp, fun a ha b hb e => by simp at hb; subst hb; subst e; exact hnp ha⟩
 ·rw [eK hv hn, h.2.2 x, List.mem_append, eK hv hp, List.mem_singleton]
  exact or_comm
theorem l7 {g : List Bl} (hv : aa g = true) : dT g 0 = [0] := by
 have h0 : Rch g [] 0 := .start (by simp)
 refine sD (nt hv h0) (by simp) (l6 hv 0) (by simp) (fun x hx => ((eK hv h0).1 hx).live h0) fun x => ?_
 rw [eK hv h0, List.mem_singleton]
 exact ⟨fun h => h.of_entry, fun h => by subst h; exact .refl g 0⟩
def bF (g : List Bl) (n : Nat) : Option Nat := (dT g n).dropLast.getLast?
theorem uM {g : List Bl} (hv : aa g = true) {n : Nat} (hn : Rch g [] n) : ∃ l, dT g n = l ++ [n] := by
 by_cases h0 : n = 0
 ·subst h0; exact ⟨[], l7 hv⟩
 ·obtain ⟨p, hp⟩ := iA hv hn h0
  exact ⟨_, pB hv hn hp⟩
theorem y6 {g : List Bl} (hv : aa g = true) : bF g 0 = none := by unfold bF; rw [l7 hv]; rfl
theorem pC {g : List Bl} (hv : aa g = true) {p n : Nat} (hn : Rch g [] n) (h : dK g p n) : bF g n = some p := by
 unfold bF
 rw [pB hv hn h, List.dropLast_concat]
 obtain ⟨l, e⟩ := uM hv h.2.1
 rw [e, List.getLast?_concat]
theorem db {g : List Bl} (hv : aa g = true) {p n : Nat} (hn : Rch g [] n) : bF g n = some p ↔ dK g p n := by
 constructor
 ·intro h
  by_cases h0 : n = 0
  ·subst h0; rw [y6 hv] at h; cases h
  ·obtain ⟨q, hq⟩ := iA hv hn h0
   rw [pC hv hn hq] at h
   cases h; exact hq
 ·exact pC hv hn
theorem AE {g : List Bl} (hv : aa g = true) {n : Nat} (hn : Rch g [] n) (h : bF g n = none) : n = 0 := by
 by_cases h0 : n = 0
 ·exact h0
 ·obtain ⟨q, hq⟩ := iA hv hn h0
  rw [pC hv hn hq] at h; cases h
theorem AF {g : List Bl} (hv : aa g = true) {n : Nat} (hn : Rch g [] n) : dT g n = (match bF g n with | some p => dT g p | none => []) ++ [n] := by
 cases hp : bF g n with
 | none => have := AE hv hn hp; subst this; exact l7 hv
 | some p => exact pB hv hn ((db hv hn).1 hp)
end Go.Proofs.YtlkfakdghjaoaaaGreatDoor
namespace Go.Proofs.YtlkfakdghjaoaaaGreatDoor
def AG (g : List Bl) (a b m : Nat) : Prop := Dm g m a ∧ Dm g m b ∧ ∀ x, Dm g x a → Dm g x b → Dm g x m
def same : List Nat → List Nat → Nat → Prop := fun l k n => n ≤ l.length ∧ n ≤ k.length ∧ l.take n = k.take n
structure Climb (g : List Bl) (a b m : Nat) : Prop where
 dom : Dm g m a
 all : ∀ x, Dm g x a → Dm g x b → Dm g x m
theorem Climb.start (g : List Bl) (a b : Nat) : Climb g a b a := ⟨.refl g a, fun _ h _ => h⟩
theorem Climb.up {g : List Bl} {a b m p : Nat} (h : Climb g a b m) (hm : ¬ Dm g m b) (hp : dK g p m) : Climb g a b p := by
 refine ⟨((hp.2.2 p).2 (.inr (.refl g p))).trans h.dom, fun x hxa hxb => ?_⟩
 rcases (hp.2.2 x).1 (h.all x hxa hxb) with rfl | k
 ·exact absurd hxb hm
 ·exact k
theorem Climb.done {g : List Bl} {a b m : Nat} (h : Climb g a b m) (hm : Dm g m b) : AG g a b m := ⟨h.dom, hm, h.all⟩
def di (g : List Bl) (n : Nat) : List Nat := (am g).filter fun c => decide (bF g c = some n)
theorem aU {g : List Bl} (hv : aa g = true) {x : Nat} : x ∈ am g ↔ Rch g [] x := by
 unfold am
 rw [List.mem_filter, List.mem_range]
 constructor
 ·intro h; exact (kX hv).1 (by simpa using h.2)
 ·intro h; exact ⟨h.lt hv, by simpa using (kX hv).2 h⟩
theorem fV {g : List Bl} (hv : aa g = true) {n c : Nat} : c ∈ di g n ↔ Rch g [] c ∧ dK g n c := by
 unfold di
 rw [List.mem_filter, aU hv, decide_eq_true_iff]
 exact ⟨fun h => ⟨h.1, (db hv h.1).1 h.2⟩, fun h => ⟨h.1, (db hv h.1).2 h.2⟩⟩
theorem yh {g : List Bl} (hv : aa g = true) {n : Nat} : ∀ c ∈ di g n, c < g.length := fun _ h => ((fV hv).1 h).1.lt hv
def eU (g : List Bl) (n : Nat) : Nat := (am g).countP fun x => bU g n x
def cK (f : Nat → Nat) (l : List Nat) : Nat := (l.map f).sum
theorem cg (f : Nat → Nat) (c : Nat) (l : List Nat) : cK f (c :: l) = f c + cK f l := by simp [cK]
theorem kZ (f : Nat → Nat) (l k : List Nat) : cK f (l ++ k) = cK f l + cK f k := by simp [cK]
theorem ql (D : Nat → Nat → Bool) (ks : List Nat) : ∀ (xs : List Nat), cK (fun c => xs.countP fun x => D c x) ks = cK (fun x => ks.countP fun c => D c x) xs
 | [] => by
  induction ks with
  | nil => rfl
  | cons c ks ih => rw [cg, ih]; simp [cK]
 | x :: xs => by
  have ih := ql D ks xs
  rw [cg, ← ih]
  clear ih
  induction ks with
  | nil => rfl
  | cons c ks ih2 =>
   rw [cg, ih2, cg, List.countP_cons, List.countP_cons]
   omega
theorem m7 {p : Nat → Bool} : ∀ {l : List Nat}, l.Nodup → (∀ a ∈ l, ∀ b ∈ l, p a = true → p b = true → a = b) → l.countP p ≤ 1
 | [], _, _ => by simp
 | x :: l, hn, h => by
  obtain ⟨hx, hl⟩ := List.nodup_cons.1 hn
  have ih := m7 hl fun a ha b hb => h a (List.mem_cons_of_mem _ ha) b (List.mem_cons_of_mem _ hb)
  rw [List.countP_cons]
  cases hp : p x with
  | false => simp only [Bool.false_eq_true, if_false]; omega
  | true =>
   have h0 : l.countP p = 0 := by
    rw [List.countP_eq_zero]
    intro b hb hpb
    have := h x (by simp) b (List.mem_cons_of_mem _ hb) hp hpb
    exact hx (this ▸ hb)
   rw [h0]; simp
theorem rN {f k : Nat → Nat} : ∀ {l : List Nat}, (∀ x ∈ l, f x ≤ k x) → cK f l ≤ cK k l
 | [], _ => Nat.le_refl _
 | x :: l, h => by
  rw [cg, cg]
  have := rN (f := f) (k := k) (l := l) fun y hy => h y (List.mem_cons_of_mem _ hy)
  have := h x (by simp)
  omega
theorem qm (p : Nat → Bool) : ∀ l, cK (fun x => if p x then 1 else 0) l = l.countP p
 | [] => rfl
 | x :: l => by rw [cg, qm p l, List.countP_cons]; omega
theorem pD {g : List Bl} (hv : aa g = true) {n : Nat} (hn : Rch g [] n) : cK (eU g) (di g n) + 1 ≤ eU g n := by
 have hk : ∀ c ∈ di g n, Rch g [] c ∧ dK g n c := fun c h => (fV hv).1 h
 have e : cK (eU g) (di g n) = cK (fun x => (di g n).countP fun c => bU g c x) (am g) := ql (bU g) (di g n) (am g)
 have hnd : (di g n).Nodup := List.Pairwise.filter _ (List.Pairwise.filter _ List.nodup_range)
 have h1 : ∀ x ∈ am g, ((di g n).countP fun c => bU g c x) ≤ if (bU g n x && decide (x ≠ n)) then 1 else 0 := by
  intro x hx
  have hxr := (aU hv).1 hx
  by_cases hd : (bU g n x && decide (x ≠ n)) = true
  ·rw [if_pos hd]
   refine m7 hnd fun a ha b hb hpa hpb => ?_
   have ka := hk a ha
   have kb := hk b hb
   rcases ((fw hv).1 hpa).total ((fw hv).1 hpb) hxr with q | q
   ·rcases (kb.2.2.2 a).1 q with e | e
    ·exact e
    ·exact absurd (e.antisymm ((ka.2.2.2 n).2 (.inr (.refl g n))) (e.live hn)) fun h => ka.2.1 h.symm
   ·rcases (ka.2.2.2 b).1 q with e | e
    ·exact e.symm
    ·exact absurd (e.antisymm ((kb.2.2.2 n).2 (.inr (.refl g n))) (e.live hn)) fun h => kb.2.1 h.symm
  ·rw [if_neg hd, Nat.le_zero, List.countP_eq_zero]
   intro c hc hp
   apply hd
   have kc := hk c hc
   have hcx := (fw hv).1 hp
   have hnc : Dm g n c := (kc.2.2.2 n).2 (.inr (.refl g n))
   rw [Bool.and_eq_true_iff, fw hv, decide_eq_true_iff]
   refine ⟨hnc.trans hcx, fun q => ?_⟩
   subst q
   exact kc.2.1 (hnc.antisymm hcx hn)
 have h2 := rN h1
 rw [qm] at h2
 rw [e]
 have h3 : (am g).countP (fun x => bU g n x && decide (x ≠ n)) + 1 ≤ eU g n := by
  unfold eU
  have hnm : n ∈ am g := (aU hv).2 hn
  obtain ⟨l1, l2, hl⟩ := List.append_of_mem hnm
  rw [hl, List.countP_append, List.countP_append, List.countP_cons, List.countP_cons]
  have q1 : bU g n n = true := (fw hv).2 (.refl g n)
  have q2 : ∀ l : List Nat, l.countP (fun x => bU g n x && decide (x ≠ n)) ≤ l.countP fun x => bU g n x := fun l =>
   List.countP_mono_left fun x _ hx => (Bool.and_eq_true_iff.1 hx).1
  have := q2 l1
  have := q2 l2
  have e0 : (true && decide (n ≠ n)) = false := by simp
  rw [q1, e0]
  simp only [Bool.false_eq_true, if_false, if_true]
  omega
 omega
theorem AH {g : List Bl} (hv : aa g = true) (n : Nat) : eU g n ≤ 26 := by
 have h1 : eU g n ≤ (am g).length := List.countP_le_length
 have h2 : (am g).length ≤ g.length := by
  have := List.length_filter_le (fun i => decide (i ∈ cI g)) (List.range g.length)
  simpa [am] using this
 have := (aj.1 hv).2.1
 omega
theorem e8 {g : List Bl} (hv : aa g = true) {i : Nat} (hi : i < g.length) : (ay g i).size = 1 := by
 obtain ⟨c, hc, _⟩ := a8 hv (List.getElem_mem hi)
 rw [al hi, hc]; rfl
theorem Rch.big {g : List Bl} (hv : aa g = true) {x a : Nat} (h : Rch g [] x) (ha : g.length ≤ a) : Rch g [a] x := by
 induction h with
 | start _ => exact .start (by have := (aj.1 hv).1; simp; omega)
 | @step i t hi hn _ ih => exact .step ih hn (by have := bP hv (hi.lt hv) hn; simp; omega)
structure Gone (g : List Bl) (s d s' d' : List Nat) : Prop where
 ok : Seen g s'
 pre : s <+: s'
 lt : ∀ x ∈ d', x < g.length
 len : d'.length ≤ s'.length
theorem qn {g : List Bl} (hv : aa g = true) {m i : Nat} {s d : List Nat} (hi : i ∉ s) (hr : Rch g [] i) (hs : Seen g s) (hm : g.length ≤ m + s.length) (hd : ∀ x ∈ d, x < g.length) (hl : d.length ≤ s.length) :
  Gone g s d (df (ai g) m i (s, d)).1 (df (ai g) m i (s, d)).2 := by
 obtain ⟨D, h⟩ := l5 hv m i s d (List.range g.length) hi (hr.lt hv) hs hm hr fun a ha _ => hr.big hv (by simpa using ha)
 obtain ⟨S, e, p⟩ := h.seen
 refine ⟨h.ok, ⟨S, e.symm⟩, fun x hx => ?_, ?_⟩
 ·rw [h.put] at hx
  rcases List.mem_append.1 hx with hx | hx
  ·exact (h.live x hx).lt hv
  ·exact hd x hx
 ·rw [h.put, e, List.length_append, List.length_append, ← p.length_eq]; omega
end Go.Proofs.YtlkfakdghjaoaaaGreatDoor

namespace Go.Proofs.YtlkfakdghjaoaaaGreatDoor
open Go.ChangeShapes Go.WideShapes Go.ChangeAt Go.RowKit Go.Deep Go.Sort
def Gp (n : Nat) (w : World) (e : Ending) (w' : World) : Prop :=
 ∃ A cap g, e = .returned (.slice A g.length cap) ∧ g.length ≤ cap ∧ Gr w' A g ∧ g.length + aO g ≤ n ∧ Below w.heap.size w w'
theorem Dg {n : Nat} {w : World} {e : Ending} {w' : World} (h : pG n w e w') : Gp n w e w' := by
 obtain ⟨v, g, rfl, ho, hn, hB⟩ := h
 obtain ⟨A, cap, rfl, hc, hg⟩ := rp ho
 exact ⟨A, cap, g, rfl, hc, hg, hn, hB⟩
end Go.Proofs.YtlkfakdghjaoaaaGreatDoor

set_option maxRecDepth 100000
set_option maxHeartbeats 2000000
namespace Go.Proofs.YtlkfakdghjaoaaaGreatDoor
def bo (f : Nat → List Nat) (s : List Nat) : Nat → List Nat
 | 0 => cw [] s
 | k + 1 => match (bo f s k)[k]? with
  | none => bo f s k
  | some n => cw (bo f s k) (f n)
variable {f : Nat → List Nat} {s : List Nat}
theorem mP {k : Nat} (h : k < (bo f s k).length) : bo f s (k + 1) = cw (bo f s k) (f (bo f s k)[k]) := by
 simp only [bo, List.getElem?_eq_getElem h]
theorem mQ {k : Nat} (h : (bo f s k).length ≤ k) : bo f s (k + 1) = bo f s k := by
 simp only [bo, List.getElem?_eq_none h]
theorem kP (f : Nat → List Nat) (s : List Nat) : ∀ k, (bo f s k).Nodup
 | 0 => gD _ _ .nil
 | k + 1 => by
  by_cases h : k < (bo f s k).length
  ·rw [mP h]; exact gD _ _ (kP f s k)
  ·rw [mQ (by omega)]; exact kP f s k
theorem rx {N : Nat} (hs : ∀ t ∈ s, t < N) (hf : ∀ i, i < N → ∀ t ∈ f i, t < N) : ∀ k, ∀ x ∈ bo f s k, x < N
 | 0, x, hx => by
  rcases (je _ _ _).1 hx with h | h
  ·simp at h
  ·exact hs x h
 | k + 1, x, hx => by
  have ih := rx hs hf k
  by_cases h : k < (bo f s k).length
  ·rw [mP h, je] at hx
   rcases hx with hx | hx
   ·exact ih x hx
   ·exact hf _ (ih _ (List.getElem_mem h)) x hx
  ·rw [mQ (by omega)] at hx; exact ih x hx
theorem Fe {N : Nat} (hs : ∀ t ∈ s, t < N) (hf : ∀ i, i < N → ∀ t ∈ f i, t < N) (k : Nat) : (bo f s k).length ≤ N := bS _ _ (kP f s k) (rx hs hf k)
theorem mR (f : Nat → List Nat) (s : List Nat) (k : Nat) : bo f s k <+: bo f s (k + 1) := by
 by_cases h : k < (bo f s k).length
 ·rw [mP h]; exact im _ _
 ·rw [mQ (by omega)]; exact List.prefix_refl _
theorem wM {k : Nat} (h : (bo f s k).length ≤ k) : ∀ m, bo f s (k + m) = bo f s k
 | 0 => rfl
 | m + 1 => by
  have ih := wM h m
  rw [← Nat.add_assoc, mQ (by rw [ih]; omega), ih]
theorem oj (f : Nat → List Nat) (s : List Nat) (k : Nat) : ∀ m, bo f s k <+: bo f s (k + m)
 | 0 => List.prefix_refl _
 | m + 1 => (oj f s k m).trans (mR f s (k + m))
def gF (f : Nat → List Nat) (s : List Nat) (N : Nat) : List Nat := bo f s N
theorem x6 {N k : Nat} (hk : k ≤ N) (h : (bo f s k).length ≤ k) : bo f s k = gF f s N := by
 have := wM h (N - k)
 unfold gF
 rw [← this]; congr 1; omega
theorem Am {N k : Nat} (hk : k ≤ N) : bo f s k <+: gF f s N := by
 have := oj f s k (N - k)
 unfold gF
 rwa [show k + (N - k) = N by omega] at this
theorem yQ (g : List Bl) : ∀ k, bo (ai g) [0] k = bR g k
 | 0 => rfl
 | k + 1 => by
  simp only [bo, bR, yQ g k]
  cases (bR g k)[k]? <;> rfl
theorem wN (g : List Bl) : gF (ai g) [0] g.length = cI g := yQ g g.length
end Go.Proofs.YtlkfakdghjaoaaaGreatDoor
namespace Go.Proofs.YtlkfakdghjaoaaaGreatDoor
open Go.RowKit Go.Sort Go.Shelf
attribute [local go_sem] Oper.semAt_some
def fm (out : List Nat) : Array Value := ((List.range 26).map fun j => Value.bool (decide (j ∈ out))).toArray
theorem mS (out : List Nat) : (fm out).size = 26 := by simp [fm]
theorem jg (out : List Nat) {j : Nat} (hj : j < 26) : (fm out)[j]? = some (.bool (decide (j ∈ out))) := by simp [fm, hj]
theorem tR (out : List Nat) (t : Nat) : (fm out).setIfInBounds t (.bool true) = fm (out ++ [t]) := by
 apply Array.ext_getElem?
 intro j
 rw [Array.getElem?_setIfInBounds, mS]
 by_cases hj : j < 26
 ·rw [jg _ hj, jg _ hj]
  by_cases e : t = j
  ·subst e; rw [if_pos rfl, if_pos hj]; simp
  ·rw [if_neg e]; congr 2; simp [Ne.symm e]
 ·have h1 : (fm out)[j]? = none := Array.getElem?_eq_none (by rw [mS]; omega)
  have h2 : (fm (out ++ [t]))[j]? = none := Array.getElem?_eq_none (by rw [mS]; omega)
  rw [h1, h2]
  split
  ·rw [if_neg (by omega)]
  ·rfl
structure JoinAt (w : World) (NB : Nat) (g : List Bl) (SB QB : Nat) (O : Nat → Prop) (out : List Nat) (k : Nat) : Prop where
 seen : Blk w SB 212 (fm out)
 queue : ∃ q, Boxed w QB 58 q ∧ Row w 95 1 (fun b => O b ∧ b ≠ SB ∧ b ≠ QB) q (out.length - k) ((out.drop k).map (ag NB))
 nodes : NodesIn w NB g
 ownS : O SB
 ownQ : O QB
theorem JoinAt.kept {w w' : World} {NB : Nat} {g : List Bl} {SB QB : Nat} {O O' : Nat → Prop} {out : List Nat} {k : Nat} (h : JoinAt w NB g SB QB O out k) (hk : Keeps O w w') (hn : NodesIn w' NB g) (hO : ∀ b, O b → O' b) : JoinAt w' NB g SB QB O' out k := by
 obtain ⟨q, hq, hr⟩ := h.queue
 exact ⟨(hk.2 _ h.seen.lt h.ownS).trans h.seen, ⟨q, (hk.2 _ hq.lt h.ownQ).trans hq, hr.kept (hk.fewer fun b hb => hb.1) fun b _ hb => ⟨hO b hb.1, hb.2⟩⟩, hn, hO _ h.ownS, hO _ h.ownQ⟩
theorem JoinAt.wider {w : World} {NB : Nat} {g : List Bl} {SB QB : Nat} {O O' : Nat → Prop} {out : List Nat} {k : Nat} (h : JoinAt w NB g SB QB O out k) (hO : ∀ b, b < w.heap.size → O b → O' b) : JoinAt w NB g SB QB O' out k := by
 obtain ⟨q, hq, hr⟩ := h.queue
 exact ⟨h.seen, ⟨q, hq, hr.kept (Keeps.refl _ _) fun b hb h => ⟨hO b hb h.1, h.2⟩⟩, h.nodes, hO _ h.seen.lt h.ownS, hO _ hq.lt h.ownQ⟩
theorem JoinAt.put {wr w1 : World} {NB : Nat} {g : List Bl} {SB QB : Nat} {O : Nat → Prop} {out : List Nat} {k t : Nat} {q v : Value} (h : JoinAt wr NB g SB QB O out k) (hSQ : SB ≠ QB) (hNO : ∀ i, i < g.length → ¬ O (nb NB i)) (hk : k ≤ out.length)
  (hq : Boxed wr QB 58 q)
  (hT' : Turns (fun b => O b ∧ b ≠ SB ∧ b ≠ QB) ((wr.setCell ⟨SB, t, none⟩ (.bool true)).alloc (.cells #[ag NB t] 95)) w1)
  (hq' : Que w1 95 1 (more (fun b => O b ∧ b ≠ SB ∧ b ≠ QB) ((wr.setCell ⟨SB, t, none⟩ (.bool true)).alloc (.cells #[ag NB t] 95)) w1) v (out.length - k + 1) ((out.drop k).map (ag NB) ++ [ag NB t])) :
  Turns O wr (w1.setCell ⟨QB, 0, none⟩ v) ∧ JoinAt (w1.setCell ⟨QB, 0, none⟩ v) NB g SB QB (more O wr (w1.setCell ⟨QB, 0, none⟩ v)) (out ++ [t]) k := by
 have hs := h.seen
 have hsA : ((wr.setCell ⟨SB, t, none⟩ (.bool true)).alloc (.cells #[ag NB t] 95)).heap.size = wr.heap.size + 1 := by simp
 have T0 : Turns O wr ((wr.setCell ⟨SB, t, none⟩ (.bool true)).alloc (.cells #[ag NB t] 95)) :=
  (Turns.setCell (O := O) (p := ⟨SB, t, none⟩) h.ownS (.bool true)).trans ((Turns.alloc O _ _).wider fun b hb => .inl hb)
 have T1 : Turns O wr w1 := T0.trans (hT'.wider fun b hb => .inl hb.1)
 have T2 : Turns O wr (w1.setCell ⟨QB, 0, none⟩ v) := T1.trans ((Turns.setCell (O := O) (p := ⟨QB, 0, none⟩) h.ownQ v).wider fun b hb => .inl hb)
 have hz : (w1.setCell ⟨QB, 0, none⟩ v).heap.size = w1.heap.size := by simp
 have h1s := hT'.size
 rw [hsA] at h1s
 have kQ0 : Boxed (wr.setCell ⟨SB, t, none⟩ (.bool true)) QB 58 q := (Below.heap_setCell _ _ _ _ (fun e => hSQ e.symm)).trans hq
 have kQ : Boxed w1 QB 58 q := (hT'.block _ (by rw [hsA]; have := hq.lt; omega) fun hb => hb.2.2 rfl).trans (kQ0.alloc _)
 refine ⟨T2, ?_, ⟨v, kQ.set v, .inr ?_⟩, fun i hi => (T2.block _ (h.nodes i hi).lt (hNO i hi)).trans (h.nodes i hi), .inl h.ownS, .inl h.ownQ⟩
 ·rw [← tR]
  have a1 : Blk w1 SB 212 ((fm out).setIfInBounds t (.bool true)) := (hT'.block _ (by rw [hsA]; have := hs.lt; omega) fun hb => hb.2.1 rfl).trans ((hs.set_ t (.bool true)).alloc _)
  exact (Below.heap_setCell _ _ _ _ hSQ).trans a1
 ·have e1 : (out ++ [t]).length - k = out.length - k + 1 := by rw [List.length_append, List.length_singleton]; omega
  have e2 : ((out ++ [t]).drop k).map (ag NB) = (out.drop k).map (ag NB) ++ [ag NB t] := by rw [List.drop_append_of_le_length hk, List.map_append]; rfl
  rw [e1, e2]
  refine hq'.kept (Turns.keeps (Turns.setCell (O := fun b => b = QB) (p := ⟨QB, 0, none⟩) rfl v) fun b hb e => ?_) fun b hb hm => ?_
  ·rcases hb with hb | hb
   ·exact hb.2.2 e
   ·rw [hsA] at hb; have := hq.lt; omega
  ·rcases hm with hm | hm
   ·exact ⟨.inl hm.1, hm.2⟩
   ·rw [hsA] at hm
    exact ⟨.inr ⟨by omega, by rw [hz]; omega⟩, by have := hs.lt; omega, by have := hq.lt; omega⟩
theorem wO (NB SB QB cap k : Nat) (g : List Bl) (T : Nat → Prop) (out ts : List Nat) (A : Option Addr) (w : World) (h26 : g.length ≤ 26) (hSQ : SB ≠ QB) (hJ : JoinAt w NB g SB QB T out k) (hA : PtsI w A NB ts)
  (hAT : ∀ b off, 0 < ts.length → A = some ⟨b, off, none⟩ → ¬ T b) (hNT : ∀ i, i < g.length → ¬ T (nb NB i)) (hts : ∀ t ∈ ts, t < g.length) (htl : ts.length ≤ 1048576) (hk : k ≤ out.length) (hnd : out.Nodup) (hol : ∀ x ∈ out, x < g.length) :
  Calls Tryz.prog 191 #[.slice A ts.length cap, .pointer (some ⟨SB, 0, none⟩), .pointer (some ⟨QB, 0, none⟩)] w fun e w' =>
   e = .returned (.tuple #[]) ∧ Turns T w w' ∧ JoinAt w' NB g SB QB (more T w w') (cw out ts) k := by
 obtain ⟨i0, hi0, hz0, hz1, hz2⟩ := info_parts f7
 have HNL := GR (fun i hi => (hJ.nodes i hi).lt)
 have HA := GR hA
 have HAT := GR hAT
 have HNT := GR hNT
 have HTS := GR hts
 have HND := GR hnd
 have HOL := GR hol
 have HJ := GR hJ
 clear hA hAT hNT hts hnd hol hJ
 refine (callsIn_wide (n := 4)).1 ?_
 refine callsIn_of_wp Tryz.func191 rfl trivial ?_ rfl
 simp only [Tryz.ntmps191, List.size_toArray, List.length_cons, List.length_nil, Nat.reduceAdd, Nat.reduceSub, Array.replicate_succ, Array.replicate_zero, List.push_toArray, List.append_toArray, List.nil_append, List.cons_append]
 gi_wp2
 gi_loopw [8] (fun i wr => ∃ (j : Nat) (o : List Nat), j ≤ ts.length ∧ i = .int .i64 j ∧ Hid (o = cw out (ts.take j)) ∧ Turns T w wr ∧ JoinAt wr NB g SB QB (more T w wr) o k) (fun i _ => ts.length - (intOf i).toNat)
 case atStart => exact ⟨0, out, Nat.zero_le _, rfl, rfl, Turns.refl _ _, HJ.out.wider fun b _ h => .inl h⟩
 case round =>
  obtain ⟨j, o, hj, rfl, HO, hT, hJ⟩ := hrel
  have hko : k ≤ o.length := by rw [HO.out]; have := (im (ts.take j) out).length_le; omega
  have hoN : o.Nodup := HO.out ▸ gD _ _ HND.out
  have hoL : ∀ x ∈ o, x < g.length := fun x hx => by
   rw [HO.out, je] at hx
   exact hx.elim (HOL.out x) fun h => HTS.out x ((List.take_subset _ _) h)
  have hol2 : o.length ≤ 26 := by have := bS _ _ hoN hoL; omega
  have HOL2 := GR hol2
  have HKO := GR hko
  have HT := GR hT
  have HJJ := GR hJ
  clear hoN hoL hol2 hko hT hJ
  by_cases hjd : j < ts.length
  ·have HJD := GR hjd
   obtain ⟨t, ht⟩ : ∃ t, t = ts[j]'hjd := ⟨_, rfl⟩
   have htl2 : t < g.length := ht ▸ HTS.out _ (List.getElem_mem hjd)
   obtain ⟨tb, off, rfl, htb, hrow⟩ := HA.out (by omega)
   have hTB : ¬ T tb := HAT.out tb off (by omega) rfl
   have cT : wr.cell? ⟨tb, off + j, none⟩ = some (ag NB t) := by
    rw [World.cell?_of_block (HT.out.block tb htb hTB), hrow j hjd, ht]
   have nI : wr.cell? ⟨nb NB t, 0, none⟩ = some (.int .i64 t) := by have := (HJJ.out.nodes t htl2).cell 0; simpa using this
   have t26 : t < 26 := by omega
   have cS : wr.cell? ⟨SB, t, none⟩ = some (.bool (decide (t ∈ o))) := (HJJ.out.seen.cell t).trans (jg _ t26)
   have fS := HJJ.out.seen.frozen t
   have HST := GR (show cw out (ts.take (j + 1)) = if t ∈ o then o else o ++ [t] by
    rw [List.take_succ_eq_append_getElem hjd, ← ht, rj, ← HO.out])
   have hSl := HJJ.out.seen.lt
   clear ht hrow hTB
   by_cases hin : t ∈ o
   ·rw [decide_eq_true hin] at cS
    rw [if_pos hin] at HST
    clear hin
    gi_wp2
    go_roundw
    case rel => exact ⟨j + 1, o, by have := HJD.out; omega, by go_num, HST.out.symm, HT.out, HJJ.out⟩
    case measure => have := HJD.out; simp [intOf]; omega
   ·rw [decide_eq_false hin] at cS
    rw [if_neg hin] at HST
    clear hin
    obtain ⟨q, hq, hr⟩ := HJJ.out.queue
    have HQ := GR hq
    have cQ : (wr.setCell ⟨SB, t, none⟩ (.bool true)).cell? ⟨QB, 0, none⟩ = some q :=
     (World.cell?_of_block (Below.heap_setCell _ _ _ _ (fun e => hSQ e.symm))).trans hq.cell
    have hQl := hq.lt
    have kQ0 : Boxed (wr.setCell ⟨SB, t, none⟩ (.bool true)) QB 58 q := (Below.heap_setCell _ _ _ _ (fun e => hSQ e.symm)).trans hq
    have HKQ := GR (kQ0.alloc (.cells #[ag NB t] 95))
    clear kQ0
    have HROW := GR (show Row ((wr.setCell ⟨SB, t, none⟩ (.bool true)).alloc (.cells #[ag NB t] 95)) 95 1 (fun b => more T w wr b ∧ b ≠ SB ∧ b ≠ QB) q (o.length - k) ((o.drop k).map (ag NB)) from
     hr.kept ((Turns.keeps (Turns.setCell (O := fun b => b = SB) (p := ⟨SB, t, none⟩) rfl (.bool true)) fun b hb e => hb.2.1 e).trans (Turns.keeps (O := fun _ => False) (Turns.alloc _ _ _) fun _ _ h => h)) fun b _ h => h)
    have HNEW := GR (show ∀ j u, [ag NB t][j]? = some u → ((wr.setCell ⟨SB, t, none⟩ (.bool true)).alloc (.cells #[ag NB t] 95)).cell? ((⟨wr.heap.size, 0, none⟩ : Addr).add j) = some u from by
     have := cell_one_new (wr.setCell ⟨SB, t, none⟩ (.bool true)) (ag NB t) 95
     rwa [show (wr.setCell ⟨SB, t, none⟩ (.bool true)).heap.size = wr.heap.size from by simp] at this)
    have hlen : o.length - k + 1 ≤ 1048576 := by have := HOL2.out; omega
    clear hq hr
    gi_wp2_with (gi_at_builtin; refine iy _ rfl _ _ 58 rfl 95 i0 (.pointer none) 1 Tryz.underlying58 hi0 hz0 hz1 (by rw [hz2]; decide) rfl (fun b => more T w wr b ∧ b ≠ SB ∧ b ≠ QB) q (o.length - k) ((o.drop k).map (ag NB)) rfl HROW.out ⟨wr.heap.size, 0, none⟩ 1 1 [ag NB t] rfl rfl HNEW.out (by simp [Value.oneCell']) hlen (by decide) ?_; intro v' w1 hq' hT'; obtain ⟨B', off', cap', rfl, _⟩ := hq'.cells; have k2 : Boxed w1 QB 58 q := (hT'.block _ (by simp; omega) fun hb => hb.2.2 rfl).trans HKQ.out; have c2 := k2.cell; have f2 := k2.frozen; have HQQ := GR hq'; have HTT := GR hT'; clear k2 hq' hT')
    obtain ⟨p1, p2⟩ := HJJ.out.put (t := t) hSQ (fun i hi h => h.elim (HNT.out i hi) fun h => by have := HNL.out i hi; omega) HKO.out HQ.out HTT.out HQQ.out
    go_roundw
    case rel =>
     refine ⟨j + 1, o ++ [t], by have := HJD.out; omega, by go_num, HST.out.symm, HT.out.trans p1, p2.wider fun b hb h => ?_⟩
     rcases h with h | h
     ·rcases h with h | h
      ·exact .inl h
      ·exact .inr ⟨h.1, hb⟩
     ·exact .inr ⟨by have := HT.out.size; omega, hb⟩
    case measure => have := HJD.out; simp [intOf]; omega
  ·have HE := GR (show o = cw out ts by rw [HO.out, List.take_of_length_le (by omega)])
   gi_wp2
   go_end0
   exact ⟨rfl, HT.out, HE.out ▸ HJJ.out⟩
structure Follows (f : Nat → List Nat) (NB : Nat) (g : List Bl) (R : Nat → Prop) (gf : FuncId) (lb : Array Value) (w0 : World) : Prop where
 enter : ∀ args w, (callFunc gf args).run Tryz.prog w = .ok (.enter gf args) w
 goes : ∀ W i, i < g.length → Keeps R w0 W → NodesIn W NB g → Calls Tryz.prog gf (#[ag NB i] ++ lb) W fun e W' => ∃ A cap, e = .returned (.slice A (f i).length cap) ∧ PtsI W' A NB (f i) ∧ (∀ b off, 0 < (f i).length → A = some ⟨b, off, none⟩ → W.heap.size ≤ b) ∧ Below W.heap.size W W'
theorem ry (n NB FB TB cap : Nat) (A : Option Addr) (g : List Bl) (f : Nat → List Nat) (s : List Nat) (gf : FuncId) (lb : Array Value) (R : Nat → Prop) (w : World) (hn : 1 ≤ n) (hv : aa g = true)
  (hs : ∀ t ∈ s, t < g.length) (hsl : s.length ≤ 1048576) (hf : ∀ i, i < g.length → ∀ t ∈ f i, t < g.length) (hfl : ∀ i, i < g.length → (f i).length ≤ 1048576)
  (hTB : w.cell? ⟨TB, 0, none⟩ = some (.slice A s.length cap)) (hA : PtsI w A NB s) (hFB : w.cell? ⟨FB, 0, none⟩ = some (.func (.func gf) #[] lb)) (hF : Follows f NB g R gf lb w)
  (hN : NodesIn w NB g) (hR : ∀ i, i < g.length → R (nb NB i)) (hRF : R FB) (hRl : ∀ k, R k → k < w.heap.size) (hTl : TB < w.heap.size) (hFl : FB < w.heap.size) :
  nD Fence.wide n Tryz.prog 190 #[.pointer (some ⟨TB, 0, none⟩), .pointer (some ⟨FB, 0, none⟩)] (fun x : Nat => #[ag NB x]) R (fun _ => True) (fun pre x => pre ++ [x] <+: gF f s g.length)
   (fun xs => xs = gF f s g.length) (fun pre => pre <+: gF f s g.length) w := by
 intro l J Jx W hW hJ hBd hY h0
 have h26 := (aj.1 hv).2.1
 have ct := (hW.cell (p := ⟨TB, 0, none⟩) hTl).trans hTB
 have hws := hW.size
 have hKW : Keeps R w W := ⟨hW.size, fun k hk _ => hW.block k hk⟩
 have cF := (hW.cell (p := ⟨FB, 0, none⟩) hFl).trans hFB
 have HENT := hF.enter
 have HGO := GR hF.goes
 have HAW := GR (show PtsI W A NB s from fun h => by
  obtain ⟨b, off, e, hb, hc⟩ := hA h
  exact ⟨b, off, e, by omega, fun k hk => (hW.cell (p := ⟨b, off + k, none⟩) hb).trans (hc k hk)⟩)
 have HAL := GR (show ∀ b off, 0 < s.length → A = some ⟨b, off, none⟩ → b < W.heap.size from fun b off h e => by
  obtain ⟨b', off', e', hb, _⟩ := hA h
  rw [e] at e'; simp only [Option.some.injEq, Addr.mk.injEq] at e'
  omega)
 have HN := GR (hN.below hW)
 have HNL := GR (fun i hi => (HN.out i hi).lt)
 have HY := GR hY
 have HJ := GR hJ
 have HV := GR hv
 have HSL := GR hs
 have HFL := GR hf
 have HFN := GR hfl
 have HRR := GR hR
 have HRL := GR hRl
 have HKW := GR hKW
 have HCF := GR cF
 clear hTB hA hFB hF hN hW hY hJ hBd hv hs hf hfl hR hRl hKW cF
 refine callsIn_of_wp Tryz.func190 rfl trivial ?_ rfl
 simp only [Tryz.ntmps190, List.size_toArray, List.length_cons, List.length_nil, Nat.reduceAdd, Nat.reduceSub, Array.replicate_succ, Array.replicate_zero, List.push_toArray, List.append_toArray, List.nil_append, List.cons_append]
 obtain ⟨W2, hW2⟩ : ∃ W2, (W.alloc (.cells #[.bool false, .bool false, .bool false, .bool false, .bool false, .bool false, .bool false, .bool false, .bool false, .bool false, .bool false, .bool false, .bool false, .bool false, .bool false, .bool false, .bool false, .bool false, .bool false, .bool false, .bool false, .bool false, .bool false, .bool false, .bool false, .bool false] 212)).alloc (.cells #[.slice none 0 0] 58) = W2 := ⟨_, rfl⟩
 have hS : Blk W2 W.heap.size 212 (fm []) := by rw [← hW2]; exact (Blk.new W _ _).alloc _
 have hQ : Boxed W2 (W.heap.size + 1) 58 (.slice none 0 0) := by
  have := Boxed.new (W.alloc (.cells #[.bool false, .bool false, .bool false, .bool false, .bool false, .bool false, .bool false, .bool false, .bool false, .bool false, .bool false, .bool false, .bool false, .bool false, .bool false, .bool false, .bool false, .bool false, .bool false, .bool false, .bool false, .bool false, .bool false, .bool false, .bool false, .bool false] 212)) 58 (.slice none 0 0)
  rw [World.size_alloc, hW2] at this; exact this
 have hb2 : Below W.heap.size W W2 := by rw [← hW2]; exact ((Below.refl _ W).alloc (Nat.le_refl _) _).alloc (by simp) _
 have hs2 : W2.heap.size = W.heap.size + 2 := by rw [← hW2]; simp
 have hJ2 := HJ.out _ _ _ W2 h0 (Turns.of_below hb2)
 have hJA : JoinAt W2 NB g W.heap.size (W.heap.size + 1) (more (fun _ => False) W W2) [] 0 :=
  ⟨hS, ⟨_, hQ, Row.nil _ _ _ _⟩, HN.out.below hb2, .inr ⟨Nat.le_refl _, by omega⟩, .inr ⟨by omega, by omega⟩⟩
 have hPA : PtsI W2 A NB s := fun h => by
  obtain ⟨b, off, e, hb, hc⟩ := HAW.out h
  exact ⟨b, off, e, by omega, fun k hk => (hb2.cell (p := ⟨b, off + k, none⟩) hb).trans (hc k hk)⟩
 have HJO := GR (wO NB W.heap.size (W.heap.size + 1) cap 0 g (more (fun _ => False) W W2) [] s A W2 h26 (by omega) hJA hPA
  (fun b off h e hm => by have := HAL.out b off h e; rcases hm with hm | hm; exact hm; omega) (fun i hi hm => by have := HNL.out i hi; rcases hm with hm | hm; exact hm; omega) HSL.out hsl (Nat.le_refl _) .nil (by simp))
 have HJ2 := GR hJ2
 have HK2 := GR (show Keeps R W W2 from ⟨hb2.size, fun k hk _ => hb2.block k hk⟩)
 have ct2 := (hb2.cell (p := ⟨TB, 0, none⟩) (by show TB < W.heap.size; omega)).trans ct
 rw [← hW2] at ct2
 have HW2 := GR hW2
 have HS2 := GR hs2
 clear hW2 hS hQ hb2 hJ2 hJA hPA hs2 ct
 gi_wp2_with fail
 rw [HW2.out]
 clear ct2
 have hs2 := HS2.out
 refine ⟨trivial, (callsIn_wide.2 HJO.out).mono ?_⟩
 rintro e W3 ⟨rfl, hT3, hJ3⟩
 have HJ3 := GR (HJ.out _ _ _ W3 HJ2.out hT3)
 have HT3 := GR hT3
 have HA3 := GR (hJ3.wider (O' := more (more (fun _ => False) W W2) W2 W3) fun b _ h => h)
 have HK3 := GR (HKW.out.trans (HK2.out.trans (hT3.keeps fun k hk hm => by have := HRL.out k hk; rcases hm with hm | hm; exact hm; omega)))
 have h3s := hT3.size
 clear hT3 hJ3
 gi_wp2_with fail
 gi_loopg [7] g.length (fun gk _ wr => ∃ O k, gk = g.length - k ∧ k ≤ (bo f s k).length ∧ J O ((bo f s k).take k) wr ∧ JoinAt wr NB g W.heap.size (W.heap.size + 1) O (bo f s k) k ∧ Keeps R w wr ∧ W.heap.size + 2 ≤ wr.heap.size ∧ ∀ b, O b → W.heap.size ≤ b ∧ b < wr.heap.size)
 case atStart =>
  refine ⟨_, 0, rfl, Nat.zero_le _, HJ3.out, HA3.out, HK3.out, by omega, fun b hb => ?_⟩
  rcases hb with (hb | hb) | hb
  ·exact hb.elim
  ·omega
  ·omega
 case round =>
  obtain ⟨O, k, rfl, hkl, hJs, hJA, hKR, hWl, hOb⟩ := hrel
  have hlen := Fe (s := s) HSL.out HFL.out k
  obtain ⟨q, hq, hr⟩ := hJA.queue
  have cQ := hq.cell
  have fQ := hq.frozen
  have hQl := hq.lt
  by_cases hlt : k < (bo f s k).length
  ·obtain ⟨x, hx⟩ : ∃ x, x = (bo f s k)[k] := ⟨_, rfl⟩
   have hxl : x < g.length := hx ▸ rx HSL.out HFL.out k _ (List.getElem_mem hlt)
   obtain ⟨m, hm⟩ : ∃ m, (bo f s k).length - k = m + 1 := ⟨(bo f s k).length - k - 1, by omega⟩
   have hdrop : (bo f s k).drop k = x :: (bo f s k).drop (k + 1) := by rw [List.drop_eq_getElem_cons hlt, ← hx]
   have hQu : Que wr 95 1 (fun b => O b ∧ b ≠ W.heap.size ∧ b ≠ W.heap.size + 1) q ((bo f s k).length - k) (((bo f s k).drop k).map (ag NB)) := by
    rcases hr with ⟨_, h, _⟩ | h
    ·omega
    ·exact h
   obtain ⟨B, off, cap2, rfl, hcap, hOB, hBl, hcells⟩ := hQu.cells
   rw [hm, hdrop, List.map_cons] at hQu
   rw [hdrop, List.map_cons] at hcells
   have hc0 : wr.cell? ⟨B, off, none⟩ = some (ag NB x) := by have := hcells 0 (by simp); simpa using this
   rw [hm] at hcap cQ
   have hQ2 : ∃ v2, Que wr 95 1 (fun b => O b ∧ b ≠ W.heap.size ∧ b ≠ W.heap.size + 1) v2 m (((bo f s k).drop (k + 1)).map (ag NB)) ∧ (cap2 = 1 ∧ v2 = .slice (some ⟨B, off, none⟩) m 0 ∨ cap2 ≠ 1 ∧ v2 = .slice (some ⟨B, off + 1, none⟩) m (cap2 - 1)) := by
    by_cases h1 : cap2 = 1
    ·exact ⟨_, hQu.tail0 h1, .inl ⟨h1, rfl⟩⟩
    ·exact ⟨_, by have := hQu.tail; simpa using this, .inr ⟨h1, rfl⟩⟩
   obtain ⟨v2, hQ2, hv2⟩ := hQ2
   -- behind 'queue = queue[1:]'
   obtain ⟨W1, hW1⟩ : ∃ W1, W1 = wr.setCell ⟨W.heap.size + 1, 0, none⟩ v2 := ⟨_, rfl⟩
   have TW1 : Turns O wr W1 := by rw [hW1]; exact Turns.setCell (O := O) (p := ⟨W.heap.size + 1, 0, none⟩) hJA.ownQ v2
   have hm1 : (bo f s k).length - (k + 1) = m := by omega
   have hs1 : W1.heap.size = wr.heap.size := by rw [hW1]; simp
   have hJA1 : JoinAt W1 NB g W.heap.size (W.heap.size + 1) (more O wr W1) (bo f s k) (k + 1) := by
    refine ⟨by rw [hW1]; exact (Below.heap_setCell _ _ _ _ (by show W.heap.size ≠ W.heap.size + 1; omega)).trans hJA.seen, ⟨v2, by rw [hW1]; exact hq.set v2, .inr ?_⟩,
     fun i hi => (TW1.block _ (hJA.nodes i hi).lt fun h => by have := hOb _ h; have := HNL.out i hi; omega).trans (hJA.nodes i hi), .inl hJA.ownS, .inl hJA.ownQ⟩
    rw [hm1, hW1]
    exact hQ2.kept (Turns.keeps (Turns.setCell (O := fun b => b = W.heap.size + 1) (p := ⟨W.heap.size + 1, 0, none⟩) rfl v2) fun b hb e => hb.2.2 e) fun b _ h => ⟨.inl h.1, h.2⟩
   have hKR1 : Keeps R w W1 := hKR.trans (TW1.keeps fun b hb h => by have := hOb _ h; have := HRL.out b hb; omega)
   have hpx : (bo f s k).take k ++ [x] <+: gF f s g.length := by
    have : (bo f s k).take k ++ [x] = (bo f s k).take (k + 1) := by rw [List.take_succ_eq_append_getElem hlt, ← hx]
    rw [this]; exact (List.take_prefix _ _).trans (Am (by omega))
   have hJ1 := HJ.out O _ wr W1 hJs TW1
   have HPX := GR hpx
   have HX := GR hx
   have HM := GR hm
   have HLEN := GR hlen
   have HLT := GR hlt
   have HA1 := GR hJA1
   have HKR1 := GR hKR1
   have HOB := GR hOb
   obtain ⟨fn, tmps, assign, body, hy, hRd⟩ := HY.out _ _ x W1 hJ1 hpx
   have hy' : (Instr.yield l #[ag NB x]).run Tryz.prog W1 = .ok (.round l fn tmps assign body) W1 := hy
   have hcap1 : 1 ≤ cap2 := by omega
   clear hy hpx hx hm hm1 hdrop hcells hQu hQ2 hJs hJA hJA1 hKR hKR1 hOb hr hJ1 hlen TW1 hq
   rcases hv2 with ⟨hc1, rfl⟩ | ⟨hc1, rfl⟩
   all_goals
    rw [hW1] at hy'
    have HW1 := GR hW1
    clear hW1
    gi_wp2_with fail
    rw [← HW1.out]
    refine hRd.mono ?_
    rintro e W3 (⟨rfl, hJ3', hk3⟩ | ⟨rfl, hJx3⟩)
    ·have hA3' : JoinAt W3 NB g W.heap.size (W.heap.size + 1) (more O wr W1) (bo f s k) (k + 1) := HA1.out.kept (hk3.fewer fun b h => .inr h) (HA1.out.nodes.kept hk3 fun i hi => .inl (HRR.out i hi)) fun b h => h
     have hK3' : Keeps R w W3 := HKR1.out.trans (hk3.fewer fun b h => .inl h)
     have cF3 : W3.cell? ⟨FB, 0, none⟩ = some (.func (.func gf) #[] lb) := by
      rw [World.cell?_of_block (hK3'.2 FB hFl hRF), ← World.cell?_of_block (HKW.out.2 FB hFl hRF)]
      exact HCF.out
     have HG3 := GR (HGO.out W3 x hxl hK3' hA3'.nodes)
     have hk3s := hk3.1
     have HA3' := GR hA3'
     have HK3' := GR hK3'
     have HJ3' := GR hJ3'
     clear hA3' hK3' hJ3' hk3 hRd
     gi_wp2_with fail
     refine ⟨trivial, (callsIn_wide.2 HG3.out).mono ?_⟩
     rintro e W4 ⟨A4, cap4, rfl, hP4, hL4, hB4⟩
     have hA4 : JoinAt W4 NB g W.heap.size (W.heap.size + 1) (more O wr W1) (bo f s k) (k + 1) := HA3'.out.kept ((Turns.of_below (O := fun _ => False) hB4).keeps fun _ _ h => h) (HA3'.out.nodes.below hB4) fun b h => h
     have h4s := hB4.size
     have hOb1 : ∀ b, more O wr W1 b → W.heap.size ≤ b ∧ b < wr.heap.size := fun b hb => by
      rcases hb with hb | hb
      ·exact HOB.out b hb
      ·omega
     have htake : (bo f s k).take k ++ [x] = (bo f s k).take (k + 1) := by rw [List.take_succ_eq_append_getElem HLT.out, ← HX.out]
     have hJ4 := HJ.out _ _ W3 W4 HJ3'.out (Turns.of_below hB4)
     rw [htake] at hJ4
     have HJO4 := GR (wO NB W.heap.size (W.heap.size + 1) cap4 (k + 1) g (more O wr W1) (bo f s k) (f x) A4 W4 h26 (by omega) hA4 hP4
      (fun b off h e hm => by have := hL4 b off h e; have := hOb1 b hm; omega) (fun i hi hm => by have := hOb1 _ hm; have := HNL.out i hi; omega) (HFL.out x hxl) (HFN.out x hxl) HLT.out (kP f s k) (rx HSL.out HFL.out k))
     have HJ4 := GR hJ4
     have HK4 := GR (HK3'.out.trans (show Keeps R W3 W4 from ⟨hB4.size, fun b hb _ => hB4.block b hb⟩))
     have HOB1 := GR hOb1
     clear hP4 hL4 hB4 hA4 hJ4 hOb1 htake
     gi_wp2_with fail
     refine ⟨trivial, (callsIn_wide.2 HJO4.out).mono ?_⟩
     rintro e W5 ⟨rfl, hT5, hJ5⟩
     have h5s := hT5.size
     have HSP := GR (show cw (bo f s k) (f x) = bo f s (k + 1) by rw [mP HLT.out, ← HX.out])
     rw [HSP.out] at hJ5
     have HT5 := GR hT5
     have HJ5 := GR hJ5
     have HJJ5 := GR (HJ.out _ _ W4 W5 HJ4.out (hT5.wider fun b hb => .inl hb))
     have HK5 := GR (HK4.out.trans (hT5.keeps fun b hb h => by have := HOB1.out b h; have := HRL.out b hb; omega))
     clear hT5 hJ5
     gi_wp2_with fail
     gi_roundg (g.length - (k + 1))
     case measure => have := HLEN.out; have := HLT.out; omega
     case rel =>
      refine ⟨_, k + 1, rfl, ?_, ?_, HJ5.out.wider (O' := more (more (more O wr W1) W3 W4) W4 W5) fun b _ h => ?_, HK5.out, by omega, fun b hb => ?_⟩
      ·have := (mR f s k).length_le; have := HLT.out; omega
      ·have : (bo f s (k + 1)).take (k + 1) = (bo f s k).take (k + 1) := by
        obtain ⟨r, hr⟩ := mR f s k
        rw [← hr, List.take_append_of_le_length (by have := HLT.out; omega)]
       rw [this]; exact HJJ5.out
      ·rcases h with h | h
       ·exact .inl (.inl h)
       ·exact .inr h
      ·rcases hb with (hb | hb) | hb
       ·have := HOB1.out b hb; omega
       ·omega
       ·omega
    ·gi_wp2_with fail
     refine bodyPost_ret (results_none rfl _ _ _) rfl ?_
     exact ⟨⟨_, rfl⟩, .inr ⟨_, HPX.out, hJx3⟩⟩
  ·have hq0 : (bo f s k).length - k = 0 := by omega
   have hre : (bo f s k).take k = gF f s g.length := by rw [List.take_of_length_le (by omega)]; exact x6 (by omega) (by omega)
   rw [hre] at hJs
   have hqv : ∃ A0 c0, q = .slice A0 0 c0 := by
    rcases hr with ⟨e, _, _⟩ | h
    ·exact ⟨_, _, e⟩
    ·obtain ⟨B, off, c, e, _⟩ := h.cells
     rw [hq0] at e; exact ⟨_, _, e⟩
   obtain ⟨A0, c0, rfl⟩ := hqv
   clear hr hJA
   gi_wp2_with fail
   go_end0
   exact ⟨⟨_, rfl⟩, .inl ⟨_, _, rfl, hJs⟩⟩
theorem sk (v u : Value) (w : World) (hv : v.oneCell' = true) (hu : u.oneCell' = true) :
  Calls Tryz.prog 150 #[v, u] w fun e w' =>
   e = .returned (.func (.func 190) #[] #[.pointer (some ⟨w.heap.size, 0, none⟩), .pointer (some ⟨w.heap.size + 1, 0, none⟩)]) ∧ w' = (w.alloc (.cells #[v] 58)).alloc (.cells #[u] 112) := by
 go_enter Tryz.func150, Tryz.ntmps150
 go_wp2
 go_ret
 exact ⟨rfl, rfl⟩
end Go.Proofs.YtlkfakdghjaoaaaGreatDoor
