/-
  What every way comes by: plain facts (a line of dominators, the parent, the sets' fixpoint).
-/
import Derived.Test.YtgebedbankibmaaGreatDoorWays
namespace Go.Proofs.YtgebedbankibmaaGreatDoor

/-- Every way to b comes by a. -/
def Dm (g : List Bl) (a b : Nat) : Prop := a = b ∨ ¬ Rch g [a] b

theorem Rch.fewer {g : List Bl} {A A' : List Nat} {i : Nat} (h : Rch g A i) (hs : ∀ x, x ∈ A' → x ∈ A) : Rch g A' i := by
  induction h with
  | start ha => exact .start fun e => ha (hs _ e)
  | step _ hn ha ih => exact .step ih hn fun e => ha (hs _ e)

theorem Rch.free {g : List Bl} {A : List Nat} {i : Nat} (h : Rch g A i) : Rch g [] i := h.fewer (by simp)

theorem Dm.refl (g : List Bl) (a : Nat) : Dm g a a := .inl rfl

/-- The entry dominates all. -/
theorem Dm.entry (g : List Bl) (b : Nat) : Dm g 0 b := by
  refine .inr fun h => ?_
  induction h with
  | start ha => simp at ha
  | step _ _ _ ih => exact ih

/-- Only the entry dominates the entry. -/
theorem Dm.of_entry {g : List Bl} {a : Nat} (h : Dm g a 0) : a = 0 := by
  rcases h with h | h
  · exact h
  · by_cases e : a = 0
    · exact e
    · exact absurd (Rch.start (by simpa using fun h => e h.symm)) h

/-- What dominates a block dominates each from which some way goes on to it, or is it. -/
theorem Dm.back {g : List Bl} {a i t : Nat} (h : Dm g a t) (hn : t ∈ nxt g i) : a = t ∨ Dm g a i := by
  rcases h with h | h
  · exact .inl h
  · by_cases e : a = t
    · exact .inl e
    · exact .inr (.inr fun hi => h (.step hi hn (by simpa using fun h => e h.symm)))

/-- A way to x avoids b, or b is come to first. -/
theorem Rch.split {g : List Bl} {A : List Nat} {x : Nat} (b : Nat) (h : Rch g A x) : Rch g [b] x ∨ Rch g A b := by
  induction h with
  | start ha =>
    by_cases e : b = 0
    · subst e; exact .inr (.start ha)
    · exact .inl (.start (by simpa using fun h => e h.symm))
  | @step i t hi hn ha ih =>
    rcases ih with ih | ih
    · by_cases e : b = t
      · subst e; exact .inr (.step hi hn ha)
      · exact .inl (.step ih hn (by simpa using fun h => e h.symm))
    · exact .inr ih

/-- What dominates a block that can be come to can be come to. -/
theorem Dm.live {g : List Bl} {a b : Nat} (h : Dm g a b) (hb : Rch g [] b) : Rch g [] a := by
  rcases h with rfl | h
  · exact hb
  · rcases hb.split a with h' | h'
    · exact absurd h' h
    · exact h'

theorem Dm.trans {g : List Bl} {a b c : Nat} (h : Dm g a b) (k : Dm g b c) : Dm g a c := by
  rcases h with rfl | h
  · exact k
  · rcases k with rfl | k
    · exact .inr h
    · refine .inr fun hc => ?_
      rcases hc.split b with h' | h'
      · exact k h'
      · exact h h'

theorem Dm.antisymm {g : List Bl} {a b : Nat} (h : Dm g a b) (k : Dm g b a) (ha : Rch g [] a) : a = b := by
  by_cases hab : a = b
  · exact hab
  · exfalso
    have h' : ¬ Rch g [a] b := h.resolve_left hab
    have k' : ¬ Rch g [b] a := k.resolve_left fun e => hab e.symm
    have key : ∀ x, Rch g [] x → Rch g [a, b] x := by
      intro x hx
      induction hx with
      | start _ =>
        refine .start fun e => ?_
        simp only [List.mem_cons, List.not_mem_nil, or_false] at e
        rcases e with e | e
        · exact k' (e ▸ .start (by simpa using fun q => hab (e.symm.trans q)))
        · exact h' (e ▸ .start (by simpa using fun q => hab (q.symm.trans e)))
      | @step i t _ hn _ ih =>
        refine .step ih hn fun e => ?_
        simp only [List.mem_cons, List.not_mem_nil, or_false] at e
        rcases e with e | e
        · exact k' (e ▸ .step (ih.fewer (by simp)) hn (by simpa using fun q => hab (e.symm.trans q)))
        · exact h' (e ▸ .step (ih.fewer (by simp)) hn (by simpa using fun q => hab (q.symm.trans e)))
    exact (key a ha).out (by simp)

/-- The dominators of a block that can be come to stand in one line. -/
theorem Dm.total {g : List Bl} {a b c : Nat} (h : Dm g a c) (k : Dm g b c) (hc : Rch g [] c) : Dm g a b ∨ Dm g b a := by
  by_cases hab : a = b
  · exact .inl (.inl hab)
  by_cases h1 : Rch g [a] b
  · by_cases h2 : Rch g [b] a
    · exfalso
      have key : ∀ x, Rch g [] x → Rch g [a] x ∨ Rch g [b] x := by
        intro x hx
        induction hx with
        | start _ =>
          by_cases e : a = 0
          · exact .inr (.start (by simpa using fun q => hab (e.trans q)))
          · exact .inl (.start (by simpa using fun q => e q.symm))
        | @step i t _ hn _ ih =>
          by_cases ea : a = t
          · exact .inr (ea ▸ h2)
          by_cases eb : b = t
          · exact .inl (eb ▸ h1)
          rcases ih with ih | ih
          · exact .inl (.step ih hn (by simpa using fun q => ea q.symm))
          · exact .inr (.step ih hn (by simpa using fun q => eb q.symm))
      rcases key c hc with hx | hx
      · rcases h with h | h
        · exact hx.out (by simp [h])
        · exact h hx
      · rcases k with k | k
        · exact hx.out (by simp [k])
        · exact k hx
    · exact .inr (.inr h2)
  · exact .inl (.inr h1)

/-- Sets that lose nothing more hold dominators alone. -/
theorem sets_sound {g : List Bl} {S : Nat → Nat → Prop} (h0 : ∀ a, S 0 a → a = 0) (hs : ∀ i t a, Rch g [] i → t ∈ nxt g i → S t a → a = t ∨ S i a) {a b : Nat} (h : S b a) : Dm g a b := by
  refine .inr fun hb => ?_
  have key : ∀ x, Rch g [a] x → ¬ S x a := by
    intro x hx
    induction hx with
    | start ha => exact fun e => ha (by simp [h0 a e])
    | @step i t hi hn ha ih =>
      intro e
      rcases hs i t a hi.free hn e with rfl | e
      · exact ha (by simp)
      · exact ih e
  exact key b hb h

/-- Of some blocks in one line, the last. -/
theorem line_last {g : List Bl} {c : Nat} (hc : Rch g [] c) : ∀ (l : List Nat), l ≠ [] → (∀ a ∈ l, Dm g a c) → ∃ p ∈ l, ∀ a ∈ l, Dm g a p
  | [], h, _ => absurd rfl h
  | [x], _, _ => ⟨x, by simp, fun a ha => by rw [List.mem_singleton.1 ha]; exact .refl g x⟩
  | x :: y :: l, _, h => by
    obtain ⟨p, hp, hm⟩ := line_last hc (y :: l) (by simp) fun a ha => h a (List.mem_cons_of_mem _ ha)
    rcases (h x (by simp)).total (h p (List.mem_cons_of_mem _ hp)) hc with k | k
    · exact ⟨p, List.mem_cons_of_mem _ hp, fun a ha => by
        rcases List.mem_cons.1 ha with rfl | ha
        · exact k
        · exact hm a ha⟩
    · exact ⟨x, by simp, fun a ha => by
        rcases List.mem_cons.1 ha with rfl | ha
        · exact .refl g a
        · exact (hm a ha).trans k⟩

/-- The parent: the one block whose dominators are those of n ahead of n. -/
def Par (g : List Bl) (p n : Nat) : Prop := p ≠ n ∧ Rch g [] p ∧ ∀ a, Dm g a n ↔ (a = n ∨ Dm g a p)

theorem par_some {g : List Bl} (hv : validB g = true) {n : Nat} (hn : Rch g [] n) (h0 : n ≠ 0) : ∃ p, Par g p n := by
  classical
  let l := (List.range g.length).filter fun a => decide (a ≠ n ∧ Dm g a n)
  have hml : ∀ a, a ∈ l ↔ a < g.length ∧ a ≠ n ∧ Dm g a n := fun a => by simp [l]
  have hne : l ≠ [] := by
    have : 0 ∈ l := (hml 0).2 ⟨(valid_iff.1 hv).1, fun e => h0 e.symm, .entry g n⟩
    intro e; rw [e] at this; simp at this
  obtain ⟨p, hp, hm⟩ := line_last hn l hne fun a ha => ((hml a).1 ha).2.2
  obtain ⟨_, hpn, hd⟩ := (hml p).1 hp
  refine ⟨p, hpn, hd.live hn, fun a => ⟨fun ha => ?_, fun ha => ?_⟩⟩
  · by_cases e : a = n
    · exact .inl e
    · exact .inr (hm a ((hml a).2 ⟨(ha.live hn).lt hv, e, ha⟩))
  · rcases ha with rfl | ha
    · exact .refl g a
    · exact ha.trans hd

theorem par_one {g : List Bl} {p q n : Nat} (h : Par g p n) (k : Par g q n) : p = q := by
  have h1 : Dm g p q := ((k.2.2 p).1 ((h.2.2 p).2 (.inr (.refl g p)))).resolve_left h.1
  have h2 : Dm g q p := ((h.2.2 q).1 ((k.2.2 q).2 (.inr (.refl g q)))).resolve_left k.1
  exact h1.antisymm h2 h.2.1

end Go.Proofs.YtgebedbankibmaaGreatDoor

/-
  The sets that meetSets finds: plain facts.
-/
namespace Go.Proofs.YtgebedbankibmaaGreatDoor

/-- The sets with one turned. -/
def upd (S : Nat → Nat) (t v : Nat) : Nat → Nat := fun k => if k = t then v else S k
/-- A block's set meets that of one from which some way goes on to it, with itself. -/
def meetAt (S : Nat → Nat) (i t : Nat) : Nat := S t &&& (S i ||| 2 ^ t)

structure DInv (g : List Bl) (S : Nat → Nat) : Prop where
  all : ∀ b, Rch g [] b → ∀ a, Dm g a b → (S b).testBit a = true
  ent : ∀ a, (S 0).testBit a = true → a = 0
  small : ∀ b, S b < 4294967296

theorem meetAt_le (S : Nat → Nat) (i t : Nat) : meetAt S i t ≤ S t := Nat.and_le_left

theorem meetAt_bit (S : Nat → Nat) (i t a : Nat) : (meetAt S i t).testBit a = ((S t).testBit a && ((S i).testBit a || decide (t = a))) := by
  unfold meetAt
  rw [Nat.testBit_and, Nat.testBit_or, Nat.testBit_two_pow]

theorem DInv.step {g : List Bl} {S : Nat → Nat} (h : DInv g S) {i t : Nat} (hi : Rch g [] i) (hn : t ∈ nxt g i) : DInv g (upd S t (meetAt S i t)) := by
  refine ⟨fun b hb a hd => ?_, fun a ha => ?_, fun b => ?_⟩
  · unfold upd
    split
    · rename_i e
      subst e
      rw [meetAt_bit, h.all b hb a hd, Bool.true_and]
      rcases hd.back hn with rfl | hd'
      · simp
      · rw [h.all i hi a hd']; rfl
    · exact h.all b hb a hd
  · unfold upd at ha
    split at ha
    · rename_i e
      rw [meetAt_bit] at ha
      exact h.ent a (by rw [e]; exact (Bool.and_eq_true_iff.1 ha).1)
    · exact h.ent a ha
  · unfold upd
    split
    · exact Nat.lt_of_le_of_lt (meetAt_le S i t) (h.small t)
    · exact h.small b

/-- At the start: the entry's set is the entry, each other's is all that can be come to. -/
theorem DInv.start {g : List Bl} {S : Nat → Nat} {m : Nat} (hm : ∀ a, Rch g [] a → m.testBit a = true) (h0 : S 0 = 1) (hb : ∀ b, b ≠ 0 → Rch g [] b → S b = m) (hsm : ∀ b, S b < 4294967296) : DInv g S := by
  refine ⟨fun b hr a hd => ?_, fun a ha => ?_, hsm⟩
  · by_cases e : b = 0
    · subst e
      rw [Dm.of_entry hd, h0]; rfl
    · rw [hb b e hr]
      exact hm a (hd.live hr)
  · rw [h0] at ha
    have := Nat.testBit_two_pow (n := 0) (m := a)
    rw [Nat.pow_zero] at this
    rw [this] at ha
    simpa using (of_decide_eq_true ha).symm

/-- Where nothing more is lost, the sets tell the dominators. -/
theorem DInv.done {g : List Bl} {S : Nat → Nat} (h : DInv g S) (hf : ∀ i t, Rch g [] i → t ∈ nxt g i → meetAt S i t = S t) {b : Nat} (hb : Rch g [] b) (a : Nat) : (S b).testBit a = true ↔ Dm g a b := by
  refine ⟨fun e => ?_, h.all b hb a⟩
  refine sets_sound (S := fun b a => (S b).testBit a = true) h.ent (fun i t a hi hn e => ?_) e
  have := meetAt_bit S i t a
  rw [hf i t hi hn] at this
  rw [e, Bool.true_and] at this
  rcases Bool.or_eq_true_iff.1 this.symm with k | k
  · exact .inr k
  · exact .inl (of_decide_eq_true k).symm

/-- How much the sets hold. -/
def sumS (S : Nat → Nat) : Nat → Nat
  | 0 => 0
  | n + 1 => sumS S n + S n

theorem sumS_upd_out {S : Nat → Nat} {t v : Nat} : ∀ {n : Nat}, n ≤ t → sumS (upd S t v) n = sumS S n
  | 0, _ => rfl
  | n + 1, h => by
    rw [sumS, sumS, sumS_upd_out (by omega)]
    unfold upd
    rw [if_neg (by omega)]

theorem sumS_upd {S : Nat → Nat} {t v : Nat} : ∀ {n : Nat}, t < n → sumS (upd S t v) n + S t = sumS S n + v
  | 0, h => absurd h (by omega)
  | n + 1, h => by
    by_cases e : t = n
    · subst e
      rw [sumS, sumS, sumS_upd_out (Nat.le_refl _)]
      unfold upd
      rw [if_pos rfl]; omega
    · have ih := sumS_upd (S := S) (v := v) (show t < n by omega)
      rw [sumS, sumS]
      have : upd S t v n = S n := by unfold upd; rw [if_neg (fun q => e q.symm)]
      rw [this]; omega

/-- A round that turns a set makes them smaller. -/
theorem sumS_less {S : Nat → Nat} {i t : Nat} (ht : t < 26) (h : meetAt S i t ≠ S t) : sumS (upd S t (meetAt S i t)) 26 < sumS S 26 := by
  have h1 := sumS_upd (S := S) (v := meetAt S i t) ht
  have h2 := meetAt_le S i t
  omega
theorem sumS_le {S : Nat → Nat} {i t : Nat} (ht : t < 26) : sumS (upd S t (meetAt S i t)) 26 ≤ sumS S 26 := by
  have h1 := sumS_upd (S := S) (v := meetAt S i t) ht
  have h2 := meetAt_le S i t
  omega
theorem upd_same {S : Nat → Nat} {t v : Nat} (h : v = S t) : upd S t v = S := by
  funext k; unfold upd; split
  · rename_i e; rw [h, e]
  · rfl

/-- The set of a parent, with the block itself, is the block's set. -/
theorem set_parent {g : List Bl} {S : Nat → Nat} (hS : ∀ b, Rch g [] b → ∀ a, (S b).testBit a = true ↔ Dm g a b) {p n : Nat} (hp : Rch g [] p) (hn : Rch g [] n) (hne : p ≠ n) : (S p ||| 2 ^ n) = S n ↔ Par g p n := by
  constructor
  · intro e
    refine ⟨hne, hp, fun a => ?_⟩
    rw [← hS n hn a, ← e, Nat.testBit_or, Nat.testBit_two_pow, Bool.or_eq_true_iff, hS p hp a]
    constructor
    · rintro (k | k)
      · exact .inr k
      · exact .inl (of_decide_eq_true k).symm
    · rintro (k | k)
      · exact .inr (decide_eq_true k.symm)
      · exact .inl k
  · intro h
    apply Nat.eq_of_testBit_eq
    intro a
    rw [Bool.eq_iff_iff, hS n hn a, h.2.2 a, Nat.testBit_or, Nat.testBit_two_pow, Bool.or_eq_true_iff, hS p hp a]
    constructor
    · rintro (k | k)
      · exact .inr k
      · exact .inl (of_decide_eq_true k).symm
    · rintro (k | k)
      · exact .inr (decide_eq_true k.symm)
      · exact .inl k
end Go.Proofs.YtgebedbankibmaaGreatDoor
