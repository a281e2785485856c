/-
  The tree as it lies: dominates.
-/
import Derived.Test.YtklnhbfpmmdhjaaGreatBlockSet
import Derived.Test.YtklnhbfpmmdhjaaGreatRunGraph
import Derived.BigQuiet
namespace Go.Proofs.YtklnhbfpmmdhjaaGreat
open Go.RowKit Go.Sort

/-- A tree lies at a block: the nodes' slice, a set for each block, a parent for each block. -/
def TreeIn (w : World) (tb : Nat) (V : Value) (S : Nat → Nat) (Pr : Nat → Value) : Prop :=
  ∃ cs, Blk w tb 80 cs ∧ cs.size = 53 ∧ cs[0]? = some V ∧ (∀ k, k < 26 → cs[1 + k]? = some (.int .u32 (S k))) ∧ (∀ k, k < 26 → cs[27 + k]? = some (Pr k))

theorem TreeIn.set {w : World} {tb : Nat} {V : Value} {S : Nat → Nat} {Pr : Nat → Value} (h : TreeIn w tb V S Pr) {k : Nat} (hk : k < 26) : w.cell? ⟨tb, 1 + k, none⟩ = some (.int .u32 (S k)) := by
  obtain ⟨cs, hb, _, _, hs, _⟩ := h
  rw [hb.cell]; exact hs k hk
theorem TreeIn.nodes {w : World} {tb : Nat} {V : Value} {S : Nat → Nat} {Pr : Nat → Value} (h : TreeIn w tb V S Pr) : w.cell? ⟨tb, 0, none⟩ = some V := by
  obtain ⟨cs, hb, _, hv, _⟩ := h
  rw [hb.cell]; exact hv
theorem TreeIn.parent {w : World} {tb : Nat} {V : Value} {S : Nat → Nat} {Pr : Nat → Value} (h : TreeIn w tb V S Pr) {k : Nat} (hk : k < 26) : w.cell? ⟨tb, 27 + k, none⟩ = some (Pr k) := by
  obtain ⟨cs, hb, _, _, _, hp⟩ := h
  rw [hb.cell]; exact hp k hk
theorem TreeIn.below {w w' : World} {tb : Nat} {V : Value} {S : Nat → Nat} {Pr : Nat → Value} (h : TreeIn w tb V S Pr) (hb : Below w.heap.size w w') : TreeIn w' tb V S Pr := by
  obtain ⟨cs, hk, hr⟩ := h
  exact ⟨cs, hk.below hb hk.lt, hr⟩
/-- A set is written. -/
theorem TreeIn.put {w : World} {tb : Nat} {V : Value} {S : Nat → Nat} {Pr : Nat → Value} (h : TreeIn w tb V S Pr) {t : Nat} (ht : t < 26) (v : Nat) : TreeIn (w.setCell ⟨tb, 1 + t, none⟩ (.int .u32 v)) tb V (fun k => if k = t then v else S k) Pr := by
  obtain ⟨cs, hb, hz, hv, hs, hp⟩ := h
  refine ⟨_, hb.set_ (1 + t) _, by simp [hz], ?_, fun k hk => ?_, fun k hk => ?_⟩
  · rw [Array.getElem?_setIfInBounds_ne (by omega)]; exact hv
  · show _ = some (Value.int .u32 ((if k = t then v else S k : Nat) : Int))
    by_cases e : k = t
    · subst e
      rw [if_pos rfl, Array.getElem?_setIfInBounds_self_of_lt (by omega)]
    · rw [if_neg e, Array.getElem?_setIfInBounds_ne (by omega)]; exact hs k hk
  · rw [Array.getElem?_setIfInBounds_ne (by omega)]; exact hp k hk

set_option maxRecDepth 100000 in
theorem dominates_any (tb NB : Nat) (V : Value) (S : Nat → Nat) (Pr : Nat → Value) (g : List Bl) (a b : Nat) (w : World) (hT : TreeIn w tb V S Pr) (hN : NodesIn w NB g) (hl : g.length ≤ 26) (ha : a < g.length) (hb : b < g.length) (hS : S b < 4294967296) :
    Calls Tryz.prog 55 #[.pointer (some ⟨tb, 0, none⟩), nptr NB a, nptr NB b] w fun e w' => e = .returned (.bool ((S b).testBit a)) ∧ ∃ m, w' = w.drewN m := by
  have c0 : w.cell? ⟨nb NB b, 0, none⟩ = some (.int .i64 b) := by have := (hN b hb).cell 0; simpa using this
  have c1 := hT.set (k := b) (by omega)
  have hb0 : (0 : Int) ≤ (b : Int) := by omega
  have hb1 : (b : Int) < 26 := by omega
  have hb2 : b < 26 := by omega
  obtain ⟨x, hx⟩ : ∃ x, x = S b := ⟨_, rfl⟩
  rw [← hx] at c1 hS ⊢
  have tS : ∀ n, Calls Tryz.prog 85 #[.int .u32 x, nptr NB a] (w.drewN n) fun e w'' => e = .returned (.bool (x.testBit a)) ∧ ∃ m, w'' = w.drewN m := fun n => by
    have hN2 := hN.below (below_drewN w n)
    have c : (w.drewN n).cell? ⟨nb NB a, 0, none⟩ = some (.int .i64 a) := by have := (hN2 a ha).cell 0; simpa using this
    exact Calls.quiet_of_same ((has_any x (nb NB a) a (w.drewN n) hS c (by omega)).mono fun _ _ ⟨p, q⟩ => ⟨p, q.symm⟩)
  clear hx hT hN
  go_enter Tryz.func55, Tryz.ntmps55
  go_wp2_with fail
  go_quiet (with_reducible exact tS _)
  clear tS
  go_wp2_with fail
  go_ret
  exact ⟨rfl, _, rfl⟩
end Go.Proofs.YtklnhbfpmmdhjaaGreat
