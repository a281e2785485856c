import Derived.Test.YtlkfakdghjaoaaaGreatDoorMadeItems
namespace Go.Proofs.YtlkfakdghjaoaaaGreatDoor
open Go.RowKit Go.Sort
def upB (c : UInt8) : Bool := c == 40 || c == 123
def dnB (c : UInt8) : Bool := c == 41 || c == 125
def fdD : List UInt8 → Nat → Nat
 | [], d => d
 | c :: s, d => if upB c = true then fdD s (d + 1) else if dnB c = true then fdD s (d - 1) else fdD s d
def mxD : List UInt8 → Nat → Nat
 | [], d => d
 | c :: s, d => if upB c = true then mxD s (d + 1) else if dnB c = true then max d (mxD s (d - 1)) else mxD s d
theorem mxD_ge : ∀ (s : List UInt8) (d : Nat), d ≤ mxD s d
 | [], d => Nat.le_refl _
 | c :: s, d => by
  unfold mxD
  split
  ·have := mxD_ge s (d + 1); omega
  ·split
   ·exact Nat.le_max_left _ _
   ·exact mxD_ge s d
theorem fdD_append : ∀ (a b : List UInt8) (d : Nat), fdD (a ++ b) d = fdD b (fdD a d)
 | [], b, d => rfl
 | c :: a, b, d => by
  rw [List.cons_append, fdD, fdD]
  split
  ·exact fdD_append a b _
  ·split
   ·exact fdD_append a b _
   ·exact fdD_append a b _
theorem mxD_append : ∀ (a b : List UInt8) (d : Nat), mxD (a ++ b) d = max (mxD a d) (mxD b (fdD a d))
 | [], b, d => by rw [List.nil_append]; have := mxD_ge b d; rw [mxD, fdD]; omega
 | c :: a, b, d => by
  rw [List.cons_append, mxD, mxD, fdD]
  split
  ·exact mxD_append a b _
  ·split
   ·rw [mxD_append a b]; omega
   ·exact mxD_append a b _
theorem fdD_free {c : UInt8} (h : upB c = false ∧ dnB c = false) (s : List UInt8) (d : Nat) : fdD (c :: s) d = fdD s d := by rw [fdD, if_neg (by simp [h.1]), if_neg (by simp [h.2])]
theorem mxD_free {c : UInt8} (h : upB c = false ∧ dnB c = false) (s : List UInt8) (d : Nat) : mxD (c :: s) d = mxD s d := by rw [mxD, if_neg (by simp [h.1]), if_neg (by simp [h.2])]
theorem free_let {c : UInt8} (h : letB c = true) : upB c = false ∧ dnB c = false := by
 have key : ∀ x : UInt8, letB x = false → c ≠ x := fun x hx e => by rw [e, hx] at h; cases h
 unfold upB dnB
 rw [Bool.or_eq_false_iff, Bool.or_eq_false_iff, beq_eq_false_iff_ne, beq_eq_false_iff_ne, beq_eq_false_iff_ne, beq_eq_false_iff_ne]
 exact ⟨⟨key _ (by decide), key _ (by decide)⟩, key _ (by decide), key _ (by decide)⟩
theorem free_dig {n : Nat} (h : n < 10) : upB (dig n) = false ∧ dnB (dig n) = false := by
 revert n; decide +kernel
theorem fdD_opn (b : Bool) (s : List UInt8) (d : Nat) : fdD (opn b :: s) d = fdD s (d + 1) := by cases b <;> rfl
theorem fdD_cls (b : Bool) (s : List UInt8) (d : Nat) : fdD (cls b :: s) d = fdD s (d - 1) := by cases b <;> rfl
theorem mxD_opn (b : Bool) (s : List UInt8) (d : Nat) : mxD (opn b :: s) d = mxD s (d + 1) := by cases b <;> rfl
theorem mxD_cls (b : Bool) (s : List UInt8) (d : Nat) : mxD (cls b :: s) d = max d (mxD s (d - 1)) := by cases b <;> rfl
mutual
theorem fdI : ∀ (i : It) (f : Nat), OkI i f → ∀ d, fdD (txI i) d = d
 | .blk c, f, h, d => by rw [OkI] at h; rw [txI, fdD_free (free_let h)]; rfl
 | .ask c l r, f, h, d => by
  rw [OkI] at h
  rw [txI, fdD_free (by decide), fdD_free (free_let h.1), fdD_free (by decide), fdD_append, fdL l f h.2.1, fdD_free (by decide), fdD_free (by decide), fdD_append, fdL r f h.2.2, fdD_free (by decide)]
  rfl
 | .stop, f, h, d => by rw [txI]; rfl
 | .frame b l, f, h, d => by
  rw [OkI] at h
  rw [txI, fdD_opn, fdD_append, fdL l (f + 1) h.2, fdD_cls]
  rfl
 | .leave n, f, h, d => by rw [OkI] at h; rw [txI, fdD_free (by decide), fdD_free (free_dig h.2)]; rfl
 | .set n, f, h, d => by rw [OkI] at h; rw [txI, fdD_free (by decide), fdD_free (free_dig h)]; rfl
 | .pick bs, f, h, d => by rw [OkI] at h; rw [txI, fdD_free (by decide), fdB bs f h.2.2]
theorem fdL : ∀ (l : List It) (f : Nat), OkL l f → ∀ d, fdD (txL l) d = d
 | [], f, h, d => rfl
 | i :: l, f, h, d => by rw [OkL] at h; rw [txL, fdD_append, fdI i f h.1, fdL l f h.2]
theorem fdB : ∀ (bs : List (List It)) (f : Nat), OkB bs f → ∀ d, fdD (txB bs) d = d
 | [], f, h, d => rfl
 | b :: bs, f, h, d => by
  rw [OkB] at h
  rw [txB, fdD_free (by decide), fdD_append, fdL b f h.1, fdD_free (by decide), fdB bs f h.2]
end
mutual
theorem mxI : ∀ (i : It) (f : Nat), f ≤ 9 → OkI i f → mxD (txI i) f ≤ 9
 | .blk c, f, hf, h => by rw [OkI] at h; rw [txI, mxD_free (free_let h)]; exact hf
 | .ask c l r, f, hf, h => by
  rw [OkI] at h
  rw [txI, mxD_free (by decide), mxD_free (free_let h.1), mxD_free (by decide), mxD_append, fdL l f h.2.1, mxD_free (by decide), mxD_free (by decide), mxD_append, fdL r f h.2.2, mxD_free (by decide)]
  have h1 := mxL l f hf h.2.1
  have h2 := mxL r f hf h.2.2
  rw [mxD]; omega
 | .stop, f, hf, h => by rw [txI]; exact hf
 | .frame b l, f, hf, h => by
  rw [OkI] at h
  rw [txI, mxD_opn, mxD_append, fdL l (f + 1) h.2, mxD_cls]
  have h1 := mxL l (f + 1) (by omega) h.2
  rw [mxD]; omega
 | .leave n, f, hf, h => by rw [OkI] at h; rw [txI, mxD_free (by decide), mxD_free (free_dig h.2)]; exact hf
 | .set n, f, hf, h => by rw [OkI] at h; rw [txI, mxD_free (by decide), mxD_free (free_dig h)]; exact hf
 | .pick bs, f, hf, h => by rw [OkI] at h; rw [txI, mxD_free (by decide)]; exact mxB bs f hf h.2.2
theorem mxL : ∀ (l : List It) (f : Nat), f ≤ 9 → OkL l f → mxD (txL l) f ≤ 9
 | [], f, hf, h => hf
 | i :: l, f, hf, h => by
  rw [OkL] at h
  rw [txL, mxD_append, fdI i f h.1]
  have h1 := mxI i f hf h.1
  have h2 := mxL l f hf h.2
  omega
theorem mxB : ∀ (bs : List (List It)) (f : Nat), f ≤ 9 → OkB bs f → mxD (txB bs) f ≤ 9
 | [], f, hf, h => hf
 | b :: bs, f, hf, h => by
  rw [OkB] at h
  rw [txB, mxD_free (by decide), mxD_append, fdL b f h.1, mxD_free (by decide)]
  have h1 := mxL b f hf h.1
  have h2 := mxB bs f hf h.2
  omega
end
end Go.Proofs.YtlkfakdghjaoaaaGreatDoor
