import Derived.Test.YtlkfakdghjaoaaaGreatDoorJ14
namespace Go.Proofs.YtlkfakdghjaoaaaGreatDoor
open Go.RowKit Go.Sort
def stepI (fr : Fr) (x : Nat × Bool) : It := .leave (fr.findIdx fun y => decide (y = x))
def jumpI (g : List Bl) (T : Nat → Fr → List It) (n t : Nat) (fr : Fr) : List It :=
 if placeN g n < placeN g t then (if t ∈ meetsL g then [stepI fr (t, false)] else T t fr) else [stepI fr (t, true)]
def bareI (g : List Bl) (T : Nat → Fr → List It) (n : Nat) (fr : Fr) : List It :=
 match nxt g n with
 | [] => [.blk (letC g n), .stop]
 | [t] => .blk (letC g n) :: jumpI g T n t fr
 | t :: u :: _ => [.ask (letC g n) (jumpI g T n t fr) (jumpI g T n u fr)]
def withinI (g : List Bl) (T : Nat → Fr → List It) (n : Nat) : List Nat → Fr → List It
 | [], fr => bareI g T n fr
 | y :: bs, fr => .frame false (withinI g T n bs ((y, false) :: fr)) :: T y fr
def treeI (g : List Bl) : Nat → Nat → Fr → List It
 | 0, _, _ => []
 | m + 1, n, fr => if n ∈ headL g then [.frame true (withinI g (treeI g m) n (belowL g n) ((n, true) :: fr))] else withinI g (treeI g m) n (belowL g n) fr
theorem step_text {fr : Fr} {x : Nat × Bool} {f : Nat} (h : OkI (stepI fr x) f) : txI (stepI fr x) = stepT fr x := by
 unfold stepI at h ⊢
 rw [OkI] at h
 rw [txI]
 unfold stepT decL dig
 rw [if_pos h.2]
theorem jump_text {g : List Bl} {T : Nat → Fr → List It} {U : Nat → Fr → List UInt8} {n t : Nat} {fr : Fr} (hT : OkL (T t fr) fr.length → txL (T t fr) = U t fr) (h : OkL (jumpI g T n t fr) fr.length) :
  txL (jumpI g T n t fr) = jumpW g U n t fr := by
 unfold jumpI at h ⊢
 unfold jumpW
 split
 ·rename_i h1
  rw [if_pos h1] at h
  split
  ·rename_i h2
   rw [if_pos h2, OkL] at h
   rw [txL, txL, List.append_nil, step_text h.1]
  ·rename_i h2
   rw [if_neg h2] at h
   exact hT h
 ·rename_i h1
  rw [if_neg h1, OkL] at h
  rw [txL, txL, List.append_nil, step_text h.1]
theorem bare_text {g : List Bl} {T : Nat → Fr → List It} {U : Nat → Fr → List UInt8} {n : Nat} {fr : Fr} (hT : ∀ t fr, OkL (T t fr) fr.length → txL (T t fr) = U t fr) (h : OkL (bareI g T n fr) fr.length) :
  txL (bareI g T n fr) = bareW g U n fr := by
 unfold bareI at h ⊢
 unfold bareW
 rcases hx : nxt g n with _ | ⟨t, _ | ⟨u, ts⟩⟩
 ·rfl
 ·rw [hx] at h
  simp only [OkL] at h
  simp only [txL, txI]
  rw [jump_text (hT t fr) h.2]
  rfl
 ·rw [hx] at h
  simp only [OkL, OkI] at h
  simp only [txL, txI]
  rw [jump_text (hT t fr) h.1.2.1, jump_text (hT u fr) h.1.2.2, List.append_nil]
theorem within_text {g : List Bl} {T : Nat → Fr → List It} {U : Nat → Fr → List UInt8} (hT : ∀ t fr, OkL (T t fr) fr.length → txL (T t fr) = U t fr) (n : Nat) : ∀ (bs : List Nat) (fr : Fr), OkL (withinI g T n bs fr) fr.length →
  txL (withinI g T n bs fr) = withinW g U n bs fr
 | [], fr, h => bare_text hT h
 | y :: bs, fr, h => by
  rw [withinI, OkL, OkI] at h
  rw [withinI, withinW, txL, txI, within_text hT n bs ((y, false) :: fr) h.1.2, hT y fr h.2]
  unfold opn cls
  simp
theorem tree_text (g : List Bl) : ∀ (m n : Nat) (fr : Fr), OkL (treeI g m n fr) fr.length → txL (treeI g m n fr) = treeW g m n fr
 | 0, _, _, _ => rfl
 | m + 1, n, fr, h => by
  rw [treeI] at h ⊢
  rw [treeW]
  split
  ·rename_i hh
   rw [if_pos hh, OkL, OkI] at h
   rw [txL, txI, txL, within_text (tree_text g m) n _ ((n, true) :: fr) h.1.2]
   unfold opn cls
   simp
  ·rename_i hh
   rw [if_neg hh] at h
   exact within_text (tree_text g m) n _ fr h
end Go.Proofs.YtlkfakdghjaoaaaGreatDoor
