/-
  What every way comes by: plain facts (a line of dominators, the parent, the sets' fixpoint).
-/
import Derived.Test.YtklnhbfpmmdhjaaGreatWays
namespace Go.Proofs.YtklnhbfpmmdhjaaGreat

/-- Every way to b comes by a. -/
def Dm (g : List Bl) (a b : Nat) : Prop := a = b ∨ ¬ Rch g [a] b

theorem Rch.fewer {g : List Bl} {A A' : List Nat} {i : Nat} (h : Rch g A i) (hs : ∀ x, x ∈ A' → x ∈ A) : Rch g A' i := by
  induction h with
  | start ha => exact .start fun e => ha (hs _ e)
  | step _ hn ha ih => exact .step ih hn fun e => ha (hs _ e)

theorem Rch.free {g : List Bl} {A : List Nat} {i : Nat} (h : Rch g A i) : Rch g [] i := h.fewer (by simp)

theorem Dm.refl (g : List Bl) (a : Nat) : Dm g a a := .inl rfl

/-- The entry dominates all. -/
theorem Dm.entry (g : List Bl) (b : Nat) : Dm g 0 b := by
  refine .inr fun h => ?_
  induction h with
  | start ha => simp at ha
  | step _ _ _ ih => exact ih

/-- Only the entry dominates the entry. -/
theorem Dm.of_entry {g : List Bl} {a : Nat} (h : Dm g a 0) : a = 0 := by
  rcases h with h | h
  · exact h
  · by_cases e : a = 0
    · exact e
    · exact absurd (Rch.start (by simpa using fun h => e h.symm)) h

/-- What dominates a block dominates each from which some way goes on to it, or is it. -/
theorem Dm.back {g : List Bl} {a i t : Nat} (h : Dm g a t) (hn : t ∈ nxt g i) : a = t ∨ Dm g a i := by
  rcases h with h | h
  · exact .inl h
  · by_cases e : a = t
    · exact .inl e
    · exact .inr (.inr fun hi => h (.step hi hn (by simpa using fun h => e h.symm)))

/-- A way to x avoids b, or b is come to first. -/
theorem Rch.split {g : List Bl} {A : List Nat} {x : Nat} (b : Nat) (h : Rch g A x) : Rch g [b] x ∨ Rch g A b := by
  induction h with
  | start ha =>
    by_cases e : b = 0
    · subst e; exact .inr (.start ha)
    · exact .inl (.start (by simpa using fun h => e h.symm))
  | @step i t hi hn ha ih =>
    rcases ih with ih | ih
    · by_cases e : b = t
      · subst e; exact .inr (.step hi hn ha)
      · exact .inl (.step ih hn (by simpa using fun h => e h.symm))
    · exact .inr ih

/-- What dominates a block that can be come to can be come to. -/
theorem Dm.live {g : List Bl} {a b : Nat} (h : Dm g a b) (hb : Rch g [] b) : Rch g [] a := by
  rcases h with rfl | h
  · exact hb
  · rcases hb.split a with h' | h'
    · exact absurd h' h
    · exact h'

theorem Dm.trans {g : List Bl} {a b c : Nat} (h : Dm g a b) (k : Dm g b c) : Dm g a c := by
  rcases h with rfl | h
  · exact k
  · rcases k with rfl | k
    · exact .inr h
    · refine .inr fun hc => ?_
      rcases hc.split b with h' | h'
      · exact k h'
      · exact h h'

theorem Dm.antisymm {g : List Bl} {a b : Nat} (h : Dm g a b) (k : Dm g b a) (ha : Rch g [] a) : a = b := by
  by_cases hab : a = b
  · exact hab
  · exfalso
    have h' : ¬ Rch g [a] b := h.resolve_left hab
    have k' : ¬ Rch g [b] a := k.resolve_left fun e => hab e.symm
    have key : ∀ x, Rch g [] x → Rch g [a, b] x := by
      intro x hx
      induction hx with
      | start _ =>
        refine .start fun e => ?_
        simp only [List.mem_cons, List.not_mem_nil, or_false] at e
        rcases e with e | e
        · exact k' (e ▸ .start (by simpa using fun q => hab (e.symm.trans q)))
        · exact h' (e ▸ .start (by simpa using fun q => hab (q.symm.trans e)))
      | @step i t _ hn _ ih =>
        refine .step ih hn fun e => ?_
        simp only [List.mem_cons, List.not_mem_nil, or_false] at e
        rcases e with e | e
        · exact k' (e ▸ .step (ih.fewer (by simp)) hn (by simpa using fun q => hab (e.symm.trans q)))
        · exact h' (e ▸ .step (ih.fewer (by simp)) hn (by simpa using fun q => hab (q.symm.trans e)))
    exact (key a ha).out (by simp)

/-- The dominators of a block that can be come to stand in one line. -/
theorem Dm.total {g : List Bl} {a b c : Nat} (h : Dm g a c) (k : Dm g b c) (hc : Rch g [] c) : Dm g a b ∨ Dm g b a := by
  by_cases hab : a = b
  · exact .inl (.inl hab)
  by_cases h1 : Rch g [a] b
  · by_cases h2 : Rch g [b] a
    · exfalso
      have key : ∀ x, Rch g [] x → Rch g [a] x ∨ Rch g [b] x := by
        intro x hx
        induction hx with
        | start _ =>
          by_cases e : a = 0
          · exact .inr (.start (by simpa using fun q => hab (e.trans q)))
          · exact .inl (.start (by simpa using fun q => e q.symm))
        | @step i t _ hn _ ih =>
          by_cases ea : a = t
          · exact .inr (ea ▸ h2)
          by_cases eb : b = t
          · exact .inl (eb ▸ h1)
          rcases ih with ih | ih
          · exact .inl (.step ih hn (by simpa using fun q => ea q.symm))
          · exact .inr (.step ih hn (by simpa using fun q => eb q.symm))
      rcases key c hc with hx | hx
      · rcases h with h | h
        · exact hx.out (by simp [h])
        · exact h hx
      · rcases k with k | k
        · exact hx.out (by simp [k])
        · exact k hx
    · exact .inr (.inr h2)
  · exact .inl (.inr h1)

/-- Sets that lose nothing more hold dominators alone. -/
theorem sets_sound {g : List Bl} {S : Nat → Nat → Prop} (h0 : ∀ a, S 0 a → a = 0) (hs : ∀ i t a, Rch g [] i → t ∈ nxt g i → S t a → a = t ∨ S i a) {a b : Nat} (h : S b a) : Dm g a b := by
  refine .inr fun hb => ?_
  have key : ∀ x, Rch g [a] x → ¬ S x a := by
    intro x hx
    induction hx with
    | start ha => exact fun e => ha (by simp [h0 a e])
    | @step i t hi hn ha ih =>
      intro e
      rcases hs i t a hi.free hn e with rfl | e
      · exact ha (by simp)
      · exact ih e
  exact key b hb h

/-- Of some blocks in one line, the last. -/
theorem line_last {g : List Bl} {c : Nat} (hc : Rch g [] c) : ∀ (l : List Nat), l ≠ [] → (∀ a ∈ l, Dm g a c) → ∃ p ∈ l, ∀ a ∈ l, Dm g a p
  | [], h, _ => absurd rfl h
  | [x], _, _ => ⟨x, by simp, fun a ha => by rw [List.mem_singleton.1 ha]; exact .refl g x⟩
  | x :: y :: l, _, h => by
    obtain ⟨p, hp, hm⟩ := line_last hc (y :: l) (by simp) fun a ha => h a (List.mem_cons_of_mem _ ha)
    rcases (h x (by simp)).total (h p (List.mem_cons_of_mem _ hp)) hc with k | k
    · exact ⟨p, List.mem_cons_of_mem _ hp, fun a ha => by
        rcases List.mem_cons.1 ha with rfl | ha
        · exact k
        · exact hm a ha⟩
    · exact ⟨x, by simp, fun a ha => by
        rcases List.mem_cons.1 ha with rfl | ha
        · exact .refl g a
        · exact (hm a ha).trans k⟩

/-- The parent: the one block whose dominators are those of n ahead of n. -/
def Par (g : List Bl) (p n : Nat) : Prop := p ≠ n ∧ Rch g [] p ∧ ∀ a, Dm g a n ↔ (a = n ∨ Dm g a p)

theorem par_some {g : List Bl} (hv : validB g = true) {n : Nat} (hn : Rch g [] n) (h0 : n ≠ 0) : ∃ p, Par g p n := by
  classical
  let l := (List.range g.length).filter fun a => decide (a ≠ n ∧ Dm g a n)
  have hml : ∀ a, a ∈ l ↔ a < g.length ∧ a ≠ n ∧ Dm g a n := fun a => by simp [l]
  have hne : l ≠ [] := by
    have : 0 ∈ l := (hml 0).2 ⟨(valid_iff.1 hv).1, fun e => h0 e.symm, .entry g n⟩
    intro e; rw [e] at this; simp at this
  obtain ⟨p, hp, hm⟩ := line_last hn l hne fun a ha => ((hml a).1 ha).2.2
  obtain ⟨_, hpn, hd⟩ := (hml p).1 hp
  refine ⟨p, hpn, hd.live hn, fun a => ⟨fun ha => ?_, fun ha => ?_⟩⟩
  · by_cases e : a = n
    · exact .inl e
    · exact .inr (hm a ((hml a).2 ⟨(ha.live hn).lt hv, e, ha⟩))
  · rcases ha with rfl | ha
    · exact .refl g a
    · exact ha.trans hd

theorem par_one {g : List Bl} {p q n : Nat} (h : Par g p n) (k : Par g q n) : p = q := by
  have h1 : Dm g p q := ((k.2.2 p).1 ((h.2.2 p).2 (.inr (.refl g p)))).resolve_left h.1
  have h2 : Dm g q p := ((h.2.2 q).1 ((k.2.2 q).2 (.inr (.refl g q)))).resolve_left k.1
  exact h1.antisymm h2 h.2.1

/-- The entry has no parent. -/
theorem par_entry {g : List Bl} {p : Nat} (h : Par g p 0) : False :=
  h.1 (Dm.of_entry ((h.2.2 p).2 (.inr (.refl g p))))
end Go.Proofs.YtklnhbfpmmdhjaaGreat
