/-
  Contracts: a run of a graph, block by block: the iterator and what makes it.
-/
import Derived.Test.YtgebedbankibmaaGreatDoorRuns
import Derived.Test.YtgebedbankibmaaGreatDoorIter
import Derived.Test.YtgebedbankibmaaGreatDoorNextOf
import Derived.RangeFuncBound
import Derived.RangeFuncCalls
import Derived.RangeFuncLeaves
import Derived.Shelf.Abstract
import Derived.Shelf.RegionOpen
import Derived.WalkKit
import Derived.OwnWalkIn
import Derived.TacticsInMore
import Derived.LoopNIn
import Derived.LoopIn
import Derived.Sort.LoopGhostIn
namespace Go.Proofs.YtgebedbankibmaaGreatDoor
open Go.RowKit Go.Sort Go.Shelf
attribute [local go_sem] Oper.semAt_some


/-- Each node of a graph, wherever the row of them lies. -/
def NodesIn (w : World) (NB : Nat) (g : List Bl) : Prop := ∀ i (h : i < g.length), Blk w (nb NB i) 60 #[.int .i64 i, .string g[i].1, ends NB g i]

theorem NodesIn.of {w : World} {NB : Nat} {g : List Bl} (h : Nodes w NB g (ends NB g)) : NodesIn w NB g := h.node
theorem NodesIn.below {w w' : World} {NB : Nat} {g : List Bl} (h : NodesIn w NB g) (hb : Below w.heap.size w w') : NodesIn w' NB g := fun i hi => (hb.block _ (h i hi).lt).trans (h i hi)
theorem NodesIn.kept {w w' : World} {NB : Nat} {g : List Bl} {R : Nat → Prop} (h : NodesIn w NB g) (hk : Keeps R w w') (hR : ∀ i, i < g.length → R (nb NB i)) : NodesIn w' NB g :=
  fun i hi => (hk.2 _ (h i hi).lt (hR i hi)).trans (h i hi)

end Go.Proofs.YtgebedbankibmaaGreatDoor

/-
  Contracts of RunGraph, the program's and the model's.
-/
namespace Go.Proofs.YtgebedbankibmaaGreatDoor
open Go.RowKit Go.Sort Go.Shelf
attribute [local go_sem] Oper.semAt_some

theorem below_put {n₀ : Nat} {a W : World} (h : Below n₀ a W) {l : Nat} (hl : n₀ ≤ l) (o : Obj) : Below n₀ a (W.putObj l o) :=
  h.trans ⟨rfl, rfl, rfl, by simp, fun k hk => World.putObj_heap_other (by omega)⟩

/-- The method behind an ending: which function it is, and the row that it makes. -/
structure Disp2 (NB : Nat) (g : List Bl) (i : Nat) (T : TypeId) (v : Value) (F : FuncId) : Prop where
  val : ends NB g i = .iface T v
  look : ∀ w, (method 414 T v "loop.example/structuredjumps/impl.targets").run Tryz.prog w = .ok (F, v) w
  enter : ∀ args w, (callFunc F args).run Tryz.prog w = .ok (.enter F args) w
  goes : ∀ w, Calls Tryz.prog F #[v] w fun e w' => ∃ A, e = .returned (.slice A (nxt g i).length (nxt g i).length) ∧ Below w.heap.size w w' ∧
    (0 < (nxt g i).length → ∃ b, A = some ⟨b, 0, none⟩ ∧ w.heap.size ≤ b ∧ Blk w' b 54 ((nxt g i).map (nptr NB)).toArray)

theorem disp2 {NB : Nat} {g : List Bl} (hv : validB g = true) {i : Nat} (hi : i < g.length) : ∃ T v F, Disp2 NB g i T v F := by
  rcases ends_of (NB := NB) hi (goes hv hi) with ⟨hn, he⟩ | ⟨p, hp, hn, he⟩ | ⟨p, q, hp, hq, hn, he⟩
  · refine ⟨_, _, _, he, fun w => look_stop w, enters_of Tryz.func255 (by kernel_rfl) rfl, fun w => ?_⟩
    refine (stop_targets w).mono ?_
    rintro e w' ⟨rfl, hB⟩
    rw [hn]
    exact ⟨none, rfl, hB, fun h => absurd h (by simp)⟩
  · refine ⟨_, _, _, he, fun w => look_jump _ w, enters_of Tryz.func253 (by kernel_rfl) rfl, fun w => ?_⟩
    refine (jump_targets _ w).mono ?_
    rintro e w' ⟨rfl, hb, hB⟩
    rw [hn]
    exact ⟨_, rfl, hB, fun _ => ⟨_, rfl, by omega, hb⟩⟩
  · refine ⟨_, _, _, he, fun w => look_branch _ _ w, enters_of Tryz.func254 (by kernel_rfl) rfl, fun w => ?_⟩
    refine (branch_targets _ _ w).mono ?_
    rintro e w' ⟨rfl, hb, hB⟩
    rw [hn]
    exact ⟨_, rfl, hB, fun _ => ⟨_, rfl, by omega, hb⟩⟩

theorem nxt_two {g : List Bl} (hv : validB g = true) {i : Nat} (hi : i < g.length) : (nxt g i).length ≤ 2 := by
  rcases goes hv hi with ⟨h, _⟩ | ⟨p, hp, h, _⟩ | ⟨p, q, hp, hq, h, _⟩ <;> rw [h] <;> simp
end Go.Proofs.YtgebedbankibmaaGreatDoor

/-
  Contract of the model's RunGraph.
-/
namespace Go.Proofs.YtgebedbankibmaaGreatDoor
open Go.RowKit Go.Sort

end Go.Proofs.YtgebedbankibmaaGreatDoor
