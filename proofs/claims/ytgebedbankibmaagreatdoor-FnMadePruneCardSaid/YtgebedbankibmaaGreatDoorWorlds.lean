/-
  Blocks and slices of blocks, as a world goes on.
-/
import Derived.Test.YtgebedbankibmaaGreatDoorBase
namespace Go.Proofs.YtgebedbankibmaaGreatDoor
open Go.RowKit Go.Sort
attribute [local go_sem] Oper.semAt_some

open Go.RowKit Go.Sort
attribute [local go_sem] Oper.semAt_some


theorem Gr.ext {w w' : World} {A : Option Addr} {g : List Bl} (hb : Hid (Below w.heap.size w w')) (h : Gr w A g) : Gr w' A g := h.below hb.out
theorem Gr.alloc_ {w : World} {A : Option Addr} {g : List Bl} (h : Gr w A g) (o : Obj) : Gr (w.alloc o) A g := h.below ((Below.refl _ w).alloc (Nat.le_refl _) o)
theorem Gr.drew_ {w : World} {A : Option Addr} {g : List Bl} (h : Gr w A g) : Gr w.drew A g := h.below (Below.refl _ w).drew
theorem Blk.ext {w w' : World} {b : Nat} {t : TypeId} {cs : Array Value} (hb : Hid (Below w.heap.size w w')) (h : Blk w b t cs) : Blk w' b t cs := h.below hb.out h.lt
theorem Blk.newAt {w : World} {n : Nat} (t : TypeId) (cs : Array Value) (h : n = w.heap.size) : Blk (w.alloc (.cells cs t)) n t cs := h ▸ Blk.new w t cs
theorem Below.ext {B : Nat} {w w' w'' : World} (hb : Hid (Below w'.heap.size w' w'')) (hB : B ≤ w'.heap.size) (h : Below B w w') : Below B w w'' := h.trans (hb.out.mono hB)

theorem mk_ne {w : World} {a b : Nat} {t u : TypeId} {cs ds : Array Value} (h : Blk w a t cs) (k : Blk w b u ds) (hne : t ≠ u) : a ≠ b := by
  intro e
  subst e
  unfold Blk at h k
  rw [h] at k
  injection k with k
  injection k with _ k _
  exact hne k

end Go.Proofs.YtgebedbankibmaaGreatDoor
