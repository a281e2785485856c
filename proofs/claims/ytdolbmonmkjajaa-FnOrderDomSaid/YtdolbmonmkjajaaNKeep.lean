/-
  Rows of nodes that stay as they were while rows of other things grow.
-/
import Derived.Test.YtdolbmonmkjajaaPrevOf
namespace Go.Proofs.Ytdolbmonmkjajaa
open Go.RowKit Go.Sort

/-- Rows of nodes are as they were. -/
def NKeep (w w' : World) : Prop := w.heap.size ≤ w'.heap.size ∧ ∀ k cs, Blk w k 69 cs → Blk w' k 69 cs

theorem NKeep.refl (w : World) : NKeep w w := ⟨Nat.le_refl _, fun _ _ h => h⟩
theorem NKeep.trans {a b c : World} (h : NKeep a b) (k : NKeep b c) : NKeep a c := ⟨Nat.le_trans h.1 k.1, fun i cs hi => k.2 i cs (h.2 i cs hi)⟩
theorem NKeep.of_below {w w' : World} (h : Below w.heap.size w w') : NKeep w w' := ⟨h.size, fun k _ hk => (h.block k hk.lt).trans hk⟩
theorem blk_type {w : World} {k : Nat} {t t' : TypeId} {cs cs' : Array Value} (h : Blk w k t cs) (h' : Blk w k t' cs') : t = t' := by
  unfold Blk at h h'
  rw [h] at h'
  injection h' with h1
  injection h1 with _ h2 _
theorem NKeep.setCell {w : World} {b i : Nat} {t : TypeId} {cs : Array Value} (hb : Blk w b t cs) (ht : t ≠ 69) (u : Value) : NKeep w (w.setCell ⟨b, i, none⟩ u) :=
  ⟨by simp, fun k cs2 hk => (Below.heap_setCell w ⟨b, i, none⟩ u k (fun e => by
      have e' : k = b := e
      subst e'
      exact ht (blk_type hb hk))).trans hk⟩
theorem NKeep.grown {w w' : World} {B : Nat} {e : TypeId} {v : Value} {n : Nat} {xs : List Value} (hown : w.ownsRow B e 1 v n xs) (he : e ≠ 69) (hg : w.grownBy w' v.ownBlock) : NKeep w w' :=
  ⟨hg.size, fun k cs hk => (hg.block k hk.lt (fun e2 => by
      rcases hown.2 with ⟨rfl, _⟩ | ⟨gb, cap, cur, rfl, _, hgb, _⟩
      · cases e2
      · simp only [Value.ownBlock, Option.some.injEq] at e2
        exact he (blk_type (show Blk w k e cur from e2 ▸ hgb) hk))).trans hk⟩
end Go.Proofs.Ytdolbmonmkjajaa
