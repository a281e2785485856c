/-
  The sets that meetSets finds: plain facts.
-/
import Derived.Test.YtklnhbfpmmdhjaaGreatDomMath
namespace Go.Proofs.YtklnhbfpmmdhjaaGreat

/-- The sets with one turned. -/
def upd (S : Nat → Nat) (t v : Nat) : Nat → Nat := fun k => if k = t then v else S k
/-- A block's set meets that of one from which some way goes on to it, with itself. -/
def meetAt (S : Nat → Nat) (i t : Nat) : Nat := S t &&& (S i ||| 2 ^ t)

structure DInv (g : List Bl) (S : Nat → Nat) : Prop where
  all : ∀ b, Rch g [] b → ∀ a, Dm g a b → (S b).testBit a = true
  ent : ∀ a, (S 0).testBit a = true → a = 0
  small : ∀ b, S b < 4294967296

theorem meetAt_le (S : Nat → Nat) (i t : Nat) : meetAt S i t ≤ S t := Nat.and_le_left

theorem meetAt_bit (S : Nat → Nat) (i t a : Nat) : (meetAt S i t).testBit a = ((S t).testBit a && ((S i).testBit a || decide (t = a))) := by
  unfold meetAt
  rw [Nat.testBit_and, Nat.testBit_or, Nat.testBit_two_pow]

theorem DInv.step {g : List Bl} {S : Nat → Nat} (h : DInv g S) {i t : Nat} (hi : Rch g [] i) (hn : t ∈ nxt g i) : DInv g (upd S t (meetAt S i t)) := by
  refine ⟨fun b hb a hd => ?_, fun a ha => ?_, fun b => ?_⟩
  · unfold upd
    split
    · rename_i e
      subst e
      rw [meetAt_bit, h.all b hb a hd, Bool.true_and]
      rcases hd.back hn with rfl | hd'
      · simp
      · rw [h.all i hi a hd']; rfl
    · exact h.all b hb a hd
  · unfold upd at ha
    split at ha
    · rename_i e
      rw [meetAt_bit] at ha
      exact h.ent a (by rw [e]; exact (Bool.and_eq_true_iff.1 ha).1)
    · exact h.ent a ha
  · unfold upd
    split
    · exact Nat.lt_of_le_of_lt (meetAt_le S i t) (h.small t)
    · exact h.small b

/-- At the start: the entry's set is the entry, each other's is all that can be come to. -/
theorem DInv.start {g : List Bl} {S : Nat → Nat} {m : Nat} (hm : ∀ a, Rch g [] a → m.testBit a = true) (h0 : S 0 = 1) (hb : ∀ b, b ≠ 0 → Rch g [] b → S b = m) (hsm : ∀ b, S b < 4294967296) : DInv g S := by
  refine ⟨fun b hr a hd => ?_, fun a ha => ?_, hsm⟩
  · by_cases e : b = 0
    · subst e
      rw [Dm.of_entry hd, h0]; rfl
    · rw [hb b e hr]
      exact hm a (hd.live hr)
  · rw [h0] at ha
    have := Nat.testBit_two_pow (n := 0) (m := a)
    rw [Nat.pow_zero] at this
    rw [this] at ha
    simpa using (of_decide_eq_true ha).symm

/-- Where nothing more is lost, the sets tell the dominators. -/
theorem DInv.done {g : List Bl} {S : Nat → Nat} (h : DInv g S) (hf : ∀ i t, Rch g [] i → t ∈ nxt g i → meetAt S i t = S t) {b : Nat} (hb : Rch g [] b) (a : Nat) : (S b).testBit a = true ↔ Dm g a b := by
  refine ⟨fun e => ?_, h.all b hb a⟩
  refine sets_sound (S := fun b a => (S b).testBit a = true) h.ent (fun i t a hi hn e => ?_) e
  have := meetAt_bit S i t a
  rw [hf i t hi hn] at this
  rw [e, Bool.true_and] at this
  rcases Bool.or_eq_true_iff.1 this.symm with k | k
  · exact .inr k
  · exact .inl (of_decide_eq_true k).symm

/-- How much the sets hold. -/
def sumS (S : Nat → Nat) : Nat → Nat
  | 0 => 0
  | n + 1 => sumS S n + S n

theorem sumS_upd_out {S : Nat → Nat} {t v : Nat} : ∀ {n : Nat}, n ≤ t → sumS (upd S t v) n = sumS S n
  | 0, _ => rfl
  | n + 1, h => by
    rw [sumS, sumS, sumS_upd_out (by omega)]
    unfold upd
    rw [if_neg (by omega)]

theorem sumS_upd {S : Nat → Nat} {t v : Nat} : ∀ {n : Nat}, t < n → sumS (upd S t v) n + S t = sumS S n + v
  | 0, h => absurd h (by omega)
  | n + 1, h => by
    by_cases e : t = n
    · subst e
      rw [sumS, sumS, sumS_upd_out (Nat.le_refl _)]
      unfold upd
      rw [if_pos rfl]; omega
    · have ih := sumS_upd (S := S) (v := v) (show t < n by omega)
      rw [sumS, sumS]
      have : upd S t v n = S n := by unfold upd; rw [if_neg (fun q => e q.symm)]
      rw [this]; omega

/-- A round that turns a set makes them smaller. -/
theorem sumS_less {S : Nat → Nat} {i t : Nat} (ht : t < 26) (h : meetAt S i t ≠ S t) : sumS (upd S t (meetAt S i t)) 26 < sumS S 26 := by
  have h1 := sumS_upd (S := S) (v := meetAt S i t) ht
  have h2 := meetAt_le S i t
  omega
theorem sumS_le {S : Nat → Nat} {i t : Nat} (ht : t < 26) : sumS (upd S t (meetAt S i t)) 26 ≤ sumS S 26 := by
  have h1 := sumS_upd (S := S) (v := meetAt S i t) ht
  have h2 := meetAt_le S i t
  omega
theorem upd_same {S : Nat → Nat} {t v : Nat} (h : v = S t) : upd S t v = S := by
  funext k; unfold upd; split
  · rename_i e; rw [h, e]
  · rfl

/-- The set of a parent, with the block itself, is the block's set. -/
theorem set_parent {g : List Bl} {S : Nat → Nat} (hS : ∀ b, Rch g [] b → ∀ a, (S b).testBit a = true ↔ Dm g a b) {p n : Nat} (hp : Rch g [] p) (hn : Rch g [] n) (hne : p ≠ n) : (S p ||| 2 ^ n) = S n ↔ Par g p n := by
  constructor
  · intro e
    refine ⟨hne, hp, fun a => ?_⟩
    rw [← hS n hn a, ← e, Nat.testBit_or, Nat.testBit_two_pow, Bool.or_eq_true_iff, hS p hp a]
    constructor
    · rintro (k | k)
      · exact .inr k
      · exact .inl (of_decide_eq_true k).symm
    · rintro (k | k)
      · exact .inr (decide_eq_true k.symm)
      · exact .inl k
  · intro h
    apply Nat.eq_of_testBit_eq
    intro a
    rw [Bool.eq_iff_iff, hS n hn a, h.2.2 a, Nat.testBit_or, Nat.testBit_two_pow, Bool.or_eq_true_iff, hS p hp a]
    constructor
    · rintro (k | k)
      · exact .inr k
      · exact .inl (of_decide_eq_true k).symm
    · rintro (k | k)
      · exact .inr (decide_eq_true k.symm)
      · exact .inl k
end Go.Proofs.YtklnhbfpmmdhjaaGreat
