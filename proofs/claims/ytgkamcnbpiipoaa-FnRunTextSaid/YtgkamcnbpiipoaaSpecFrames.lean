/-
  The model's count of frames within each other.
-/
import Derived.Test.YtgkamcnbpiipoaaMRead
import Derived.Test.YtgkamcnbpiipoaaWithin
namespace Go.Proofs.Ytgkamcnbpiipoaa
open Go.RowKit Go.Sort

theorem dpI_bod (i : It) : dpI i = dpB (bodI i) + (if frI i then 1 else 0) := by
  cases i with
  | ask c l r => rw [dpI]; show _ = dpB [l, r] + 0; rw [dpB, dpB, dpB]; omega
  | frame b l => rw [dpI]; show _ = dpB [l] + 1; rw [dpB, dpB]; omega
  | pick bs => rw [dpI]; rfl
  | _ => rw [dpI]; show _ = dpB [] + 0; rw [dpB]
theorem dpL_step {l : List It} {j : Nat} (h : j < l.length) : dpL (l.take (j + 1)) = max (dpL (l.take j)) (dpI l[j]) := by
  rw [List.take_succ_eq_append_getElem h, dpL_append, dpL, dpL]; omega
theorem dpB_append : ∀ (a b : List (List It)), dpB (a ++ b) = max (dpB a) (dpB b)
  | [], b => by rw [dpB]; simp
  | x :: a, b => by rw [List.cons_append, dpB, dpB, dpB_append a b]; omega
theorem dpB_step {bs : List (List It)} {m : Nat} (h : m < bs.length) : dpB (bs.take (m + 1)) = max (dpB (bs.take m)) (dpL bs[m]) := by
  rw [List.take_succ_eq_append_getElem h, dpB_append, dpB, dpB]; omega
theorem dpL_take (l : List It) (j : Nat) : dpL (l.take j) ≤ dpL l := by
  have h := dpL_append (l.take j) (l.drop j)
  rw [List.take_append_drop] at h
  omega
theorem dpB_take (bs : List (List It)) (j : Nat) : dpB (bs.take j) ≤ dpB bs := by
  have h := dpB_append (bs.take j) (bs.drop j)
  rw [List.take_append_drop] at h
  omega
theorem dpI_le {l : List It} {j : Nat} (h : j < l.length) : dpI l[j] ≤ dpL l := by
  have h1 := dpL_step h
  have h2 := dpL_take l (j + 1)
  omega
theorem max_cast (a b : Nat) : ((max a b : Nat) : Int) = max (a : Int) (b : Int) := by omega

theorem kind_cases (i : It) : ((((kindI i).toNat : Int) == 40) = true ∧ frI i = true) ∨ ((((kindI i).toNat : Int) == 40) = false ∧ (((kindI i).toNat : Int) == 123) = true ∧ frI i = true) ∨ ((((kindI i).toNat : Int) == 40) = false ∧ (((kindI i).toNat : Int) == 123) = false ∧ frI i = false) := by
  cases i with
  | frame b l => cases b
                 · exact .inl ⟨rfl, rfl⟩
                 · exact .inr (.inl ⟨rfl, rfl, rfl⟩)
  | _ => exact .inr (.inr ⟨rfl, rfl, rfl⟩)

end Go.Proofs.Ytgkamcnbpiipoaa
