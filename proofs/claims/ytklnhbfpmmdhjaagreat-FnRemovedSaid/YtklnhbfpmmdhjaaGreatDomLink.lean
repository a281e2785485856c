/-
  The model's answer about dominators and the plain one are the same.
-/
import Derived.Test.YtklnhbfpmmdhjaaGreatDomSpec
import Derived.Test.YtklnhbfpmmdhjaaGreatDomSets
namespace Go.Proofs.YtklnhbfpmmdhjaaGreat

theorem dmB_iff {g : List Bl} (hv : validB g = true) {a b : Nat} : dmB g a b = true ↔ Dm g a b := by
  unfold dmB Dm
  rw [Bool.or_eq_true_iff, decide_eq_true_iff, decide_eq_true_iff, mem_reachW hv]

theorem dmB_eq {g : List Bl} (hv : validB g = true) {a b : Nat} {S : Nat → Nat} (hS : ∀ b, Rch g [] b → ∀ a, (S b).testBit a = true ↔ Dm g a b) (hb : Rch g [] b) : (S b).testBit a = dmB g a b := by
  rw [Bool.eq_iff_iff, hS b hb a, dmB_iff hv]
end Go.Proofs.YtklnhbfpmmdhjaaGreat
