/-
  Plain facts for the laws on dominators.
-/
import Derived.Test.YtklnhbfpmmdhjaaGreatSpecDom
namespace Go.Proofs.YtklnhbfpmmdhjaaGreat

theorem domB_iff {g : List Bl} {s t : ByteArray} : domB g s t = true ↔ ∃ a b, liveOf g s = some a ∧ liveOf g t = some b ∧ Dm g a b := by
  cases ha : liveOf g s with
  | none => rw [domB_none1 ha]; simp
  | some a =>
    cases hb : liveOf g t with
    | none => rw [domB_none2 hb]; simp
    | some b =>
      rw [domB_some ha hb, dmB_iff (live_name ha).1]
      constructor
      · intro h; exact ⟨a, b, rfl, rfl, h⟩
      · rintro ⟨a', b', e1, e2, h⟩; cases e1; cases e2; exact h

theorem domB_anti {g : List Bl} {s t : ByteArray} (h : domB g s t = true) (k : domB g t s = true) : s = t := by
  obtain ⟨a, b, ha, hb, hd⟩ := domB_iff.1 h
  obtain ⟨b', a', hb', ha', hd'⟩ := domB_iff.1 k
  rw [ha] at ha'; cases ha'
  rw [hb] at hb'; cases hb'
  obtain ⟨_, _, e1, hr⟩ := live_name ha
  obtain ⟨_, _, e2, _⟩ := live_name hb
  rw [e1, e2, hd.antisymm hd' hr]

theorem domB_trans {g : List Bl} {s t u : ByteArray} (h : domB g s t = true) (k : domB g t u = true) : domB g s u = true := by
  obtain ⟨a, b, ha, hb, hd⟩ := domB_iff.1 h
  obtain ⟨b', c, hb', hc, hd'⟩ := domB_iff.1 k
  rw [hb] at hb'; cases hb'
  exact domB_iff.2 ⟨a, c, ha, hc, hd.trans hd'⟩

theorem domB_line {g : List Bl} {s t u : ByteArray} (h : domB g s u = true) (k : domB g t u = true) : domB g s t = true ∨ domB g t s = true := by
  obtain ⟨a, c, ha, hc, hd⟩ := domB_iff.1 h
  obtain ⟨b, c', hb, hc', hd'⟩ := domB_iff.1 k
  rw [hc] at hc'; cases hc'
  rcases hd.total hd' (live_name hc).2.2.2 with q | q
  · exact .inl (domB_iff.2 ⟨a, b, ha, hb, q⟩)
  · exact .inr (domB_iff.2 ⟨b, a, hb, ha, q⟩)

theorem domB_self (g : List Bl) (s : ByteArray) : domB g s s = liveB g s := by
  cases ha : liveOf g s with
  | none => rw [domB_none1 ha, liveB_none ha]
  | some a => rw [liveB_some ha]; exact domB_iff.2 ⟨a, a, ha, ha, .refl g a⟩

/-- To a block but the entry some way comes that has not come by it. -/
theorem rch_pred {g : List Bl} {n : Nat} (hn : Rch g [] n) (h0 : n ≠ 0) : ∃ q, Rch g [n] q ∧ n ∈ nxt g q := by
  have key : ∀ x, Rch g [] x → Rch g [n] x ∨ ∃ q, Rch g [n] q ∧ n ∈ nxt g q := by
    intro x hx
    induction hx with
    | start _ => exact .inl (.start (by simpa using fun e => h0 e.symm))
    | @step i t _ hnt _ ih =>
      rcases ih with ih | ih
      · by_cases e : t = n
        · subst e; exact .inr ⟨i, ih, hnt⟩
        · exact .inl (.step ih hnt (by simpa using e))
      · exact .inr ih
  rcases key n hn with h | h
  · exact absurd (by simp) h.out
  · exact h

/-- What dominates a block but the entry: itself, and what dominates all that go on to it. -/
theorem dm_preds {g : List Bl} {a n : Nat} (h0 : n ≠ 0) : Dm g a n ↔ a = n ∨ ∀ q, Rch g [] q → n ∈ nxt g q → Dm g a q := by
  constructor
  · intro h
    by_cases e : a = n
    · exact .inl e
    · exact .inr fun q _ hn => (h.back hn).resolve_left e
  · rintro (rfl | h)
    · exact .refl g a
    · by_cases e : a = n
      · exact .inl e
      · refine .inr fun hr => ?_
        cases hr with
        | start _ => exact h0 rfl
        | @step i _ hi hn _ =>
          rcases h i hi.free hn with q | q
          · exact hi.out (by simp [q])
          · exact q hi

/-- A block that dominates just what dominates all of some. -/
def AllMeet (g : List Bl) (P : List Nat) (m : Nat) : Prop := Rch g [] m ∧ ∀ x, (∀ p ∈ P, Dm g x p) ↔ Dm g x m

theorem AllMeet.one {g : List Bl} {p : Nat} (h : Rch g [] p) : AllMeet g [p] p := ⟨h, fun x => by simp⟩
theorem AllMeet.more {g : List Bl} {P : List Nat} {m p m' : Nat} (h : AllMeet g P m) (k : IsMeet g m p m') : AllMeet g (P ++ [p]) m' := by
  refine ⟨k.1.live h.1, fun x => ?_⟩
  constructor
  · intro hx
    exact k.2.2 x ((h.2 x).1 fun q hq => hx q (List.mem_append_left _ hq)) (hx p (by simp))
  · intro hx q hq
    rcases List.mem_append.1 hq with hq | hq
    · exact (h.2 x).2 (hx.trans k.1) q hq
    · rw [List.mem_singleton.1 hq]; exact hx.trans k.2.1

theorem AllMeet.par {g : List Bl} {P : List Nat} {m n : Nat} (h : AllMeet g P m) (hn : Rch g [] n) (h0 : n ≠ 0) (hP : ∀ q, q ∈ P ↔ Rch g [] q ∧ n ∈ nxt g q) : Par g m n := by
  have e : ∀ x, Dm g x n ↔ x = n ∨ Dm g x m := fun x => by
    rw [dm_preds h0, ← h.2 x]
    constructor
    · rintro (q | q)
      · exact .inl q
      · exact .inr fun p hp => q p ((hP p).1 hp).1 ((hP p).1 hp).2
    · rintro (q | q)
      · exact .inl q
      · exact .inr fun p hp hpn => q p ((hP p).2 ⟨hp, hpn⟩)
  refine ⟨fun hmn => ?_, h.1, e⟩
  subst hmn
  obtain ⟨q, hq, hqn⟩ := rch_pred hn h0
  rcases (h.2 m).2 (.refl g m) q ((hP q).2 ⟨hq.free, hqn⟩) with k | k
  · exact hq.out (by simp [k])
  · exact k hq

/-- A block of a frontier that is not the entry: two that are reached go on to it. -/
theorem front_two {g : List Bl} {n f : Nat} (hf : Rch g [] f) (h0 : f ≠ 0) {i : Nat} (hi : Rch g [] i) (hd : Dm g n i) (hn : f ∈ nxt g i) (hx : f = n ∨ ¬ Dm g n f) : ∃ j, j ≠ i ∧ Rch g [] j ∧ f ∈ nxt g j := by
  by_cases hc : ∃ j, j ≠ i ∧ Rch g [] j ∧ f ∈ nxt g j
  · exact hc
  · exfalso
    have only : ∀ q, Rch g [] q → f ∈ nxt g q → q = i := fun q hq hfq => by
      by_cases e : q = i
      · exact e
      · exact absurd ⟨q, e, hq, hfq⟩ hc
    have hnf : Dm g n f := (dm_preds h0).2 (.inr fun q hq hfq => by rw [only q hq hfq]; exact hd)
    rcases hx with rfl | hx
    · obtain ⟨q, hq, hqf⟩ := rch_pred hf h0
      have e := only q hq.free hqf
      subst e
      rcases hd with e | e
      · exact hq.out (by simp [e])
      · exact e hq
    · exact hx hnf
end Go.Proofs.YtklnhbfpmmdhjaaGreat
