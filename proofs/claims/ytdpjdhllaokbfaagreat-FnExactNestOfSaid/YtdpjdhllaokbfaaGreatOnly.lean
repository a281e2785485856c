/-
  One block alone has turned.
-/
import Derived.Test.YtdpjdhllaokbfaaGreatBase
namespace Go.Proofs.YtdpjdhllaokbfaaGreat
open Go.RowKit

/-- All that was there is as it was, but for one block. -/
structure Only (R : Nat) (w w' : World) : Prop where
  os : w'.os = w.os
  tape : w'.tape = w.tape
  output : w'.output = w.output
  size : w.heap.size ≤ w'.heap.size
  block : ∀ k, k ≠ R → k < w.heap.size → w'.heap[k]? = w.heap[k]?

theorem Only.of_below {R : Nat} {w w' : World} (h : Below w.heap.size w w') : Only R w w' := ⟨h.os, h.tape, h.output, h.size, fun k _ hk => h.block k hk⟩
theorem Only.trans {R : Nat} {a b c : World} (h : Only R a b) (k : Only R b c) : Only R a c :=
  ⟨k.os.trans h.os, k.tape.trans h.tape, k.output.trans h.output, Nat.le_trans h.size k.size, fun i hi hlt => (k.block i hi (Nat.lt_of_lt_of_le hlt h.size)).trans (h.block i hi hlt)⟩
theorem Only.refl (R : Nat) (w : World) : Only R w w := ⟨rfl, rfl, rfl, Nat.le_refl _, fun _ _ _ => rfl⟩
theorem Only.alloc {R : Nat} {a w : World} (h : Only R a w) (o : Obj) : Only R a (w.alloc o) := h.trans (.of_below ((Below.refl _ _).alloc (Nat.le_refl _) _))
theorem Only.step (R : Nat) (w : World) (u : Value) (m : Nat) : Only R w ((w.setCell ⟨R, 1, none⟩ u).drewN m) :=
  ⟨rfl, rfl, rfl, by simp, fun k hk _ => Below.heap_setCell w ⟨R, 1, none⟩ u k hk⟩

/-- Behind a fresh block's own turns nothing that was there has turned. -/
theorem Only.below {w w1 w2 : World} (h1 : Below w.heap.size w w1) (h2 : Only w.heap.size w1 w2) : Below w.heap.size w w2 :=
  ⟨h2.os.trans h1.os, h2.tape.trans h1.tape, h2.output.trans h1.output, Nat.le_trans h1.size h2.size, fun k hk => (h2.block k (by omega) (Nat.lt_of_lt_of_le hk h1.size)).trans (h1.block k hk)⟩
end Go.Proofs.YtdpjdhllaokbfaaGreat
