/-
  Contracts of the model: the text of the tree, the frontier, where two lines part.
-/
import Derived.Test.YtdolbmonmkjajaaGreatSpecDom
namespace Go.Proofs.YtdolbmonmkjajaaGreat
open Go.RowKit Go.Sort

def treeV (g : List Bl) : ByteArray := if validB g then treeT g g.length 0 else ⟨#[]⟩
theorem treeV_yes {g : List Bl} (h : validB g = true) : treeV g = treeT g g.length 0 := by unfold treeV; rw [h]; rfl
theorem treeV_no {g : List Bl} (h : validB g = false) : treeV g = ⟨#[]⟩ := by unfold treeV; rw [h]; rfl

theorem kids_line {g : List Bl} (hv : validB g = true) {n c : Nat} (hc : c ∈ kidsL g n) : (domL g c).length = (domL g n).length + 1 := by
  obtain ⟨hr, hp⟩ := (mem_kids hv).1 hc
  rw [domL_par hv hr hp]; simp

/-- The text of the first k children. -/
theorem inner_next (f : Nat → ByteArray) {l : List Nat} {k : Nat} (h : k < l.length) : innerT f (l.take (k + 1)) = if k = 0 then f l[k] else innerT f (l.take k) ++ (⟨#[44]⟩ ++ f l[k]) := by
  rw [List.take_succ_eq_append_getElem h]
  by_cases e : k = 0
  · subst e; rfl
  · rw [if_neg e, innerT_snoc]
    intro q
    have h0 : (l.take k).length = 0 := by rw [q]; rfl
    rw [List.length_take] at h0
    omega

end Go.Proofs.YtdolbmonmkjajaaGreat
