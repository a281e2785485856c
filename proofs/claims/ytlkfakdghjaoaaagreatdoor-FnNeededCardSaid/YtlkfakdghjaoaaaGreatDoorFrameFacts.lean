import Derived.Test.YtlkfakdghjaoaaaGreatDoorMadeParts
namespace Go.Proofs.YtlkfakdghjaoaaaGreatDoor
open Go.RowKit Go.Sort
def FitAt (g : List Bl) (n : Nat) (fr : Fr) : Prop := ∀ e ∈ fr, (e.2 = true → e.1 ∈ aL g) ∧ (e.2 = false → e.1 ∈ ak g ∧ ¬ Dm g e.1 n)
theorem FitAt.into {g : List Bl} {n : Nat} {fr : Fr} (h : FitAt g n fr) : FitAt g n (cf g n fr) := by
 unfold cf
 split
 ·rename_i hh
  intro e he
  rcases List.mem_cons.1 he with he | he
  ·subst he; exact ⟨fun _ => hh, fun e => by cases e⟩
  ·exact h e he
 ·exact h
theorem xn {g : List Bl} {n y : Nat} (hy : Rch g [] y) (hp : dK g n y) : ¬ Dm g y n := fun hd => hp.1 (hd.antisymm (gT hp) hy).symm
theorem FitAt.wrap {g : List Bl} {n y : Nat} {fr : Fr} (h : FitAt g n fr) (hm : y ∈ ak g) (hy : Rch g [] y) (hp : dK g n y) : FitAt g n ((y, false) :: fr) := by
 intro e he
 rcases List.mem_cons.1 he with he | he
 ·subst he; exact ⟨fun e => by (cases e), fun _ => ⟨hm, xn hy hp⟩⟩
 ·exact h e he
theorem FitAt.child {g : List Bl} {n y : Nat} {fr : Fr} (h : FitAt g n fr) (hp : dK g n y) (hno : y ∈ ak g → (y, false) ∉ fr) : FitAt g y fr := by
 intro e he
 refine ⟨(h e he).1, fun hb => ?_⟩
 obtain ⟨h1, h2⟩ := (h e he).2 hb
 refine ⟨h1, fun hd => ?_⟩
 rcases (hp.2.2 e.1).1 hd with q | q
 ·obtain ⟨a, b⟩ := e
  have q : a = y := q
  have hb : b = false := hb
  subst q; subst hb
  exact hno h1 he
 ·exact h2 q
end Go.Proofs.YtlkfakdghjaoaaaGreatDoor
