/-
  All short choices, the shorter ones first: the list as both make it, place by place; plain facts.
-/
import Derived.Test.YtgkamcnbpiipoaaGreatBase
namespace Go.Proofs.YtgkamcnbpiipoaaGreat

/-- What has been made when the first k have been looked at. -/
def bq (n : Nat) : Nat → List (List UInt8)
  | 0 => [[]]
  | k + 1 => match (bq n k)[k]? with
    | some x => if x.length < n then bq n k ++ [x ++ [108], x ++ [114]] else bq n k
    | none => bq n k
def shortL (n : Nat) : List (List UInt8) := bq n 127

theorem bq_more {n k : Nat} (h : k < (bq n k).length) (hs : (bq n k)[k].length < n) : bq n (k + 1) = bq n k ++ [(bq n k)[k] ++ [108], (bq n k)[k] ++ [114]] := by
  rw [bq, List.getElem?_eq_getElem h]
  simp only
  rw [if_pos hs]
theorem bq_same {n k : Nat} (h : k < (bq n k).length) (hs : ¬ (bq n k)[k].length < n) : bq n (k + 1) = bq n k := by
  rw [bq, List.getElem?_eq_getElem h]
  simp only
  rw [if_neg hs]
theorem bq_stay {n k : Nat} (h : ¬ k < (bq n k).length) : bq n (k + 1) = bq n k := by
  rw [bq, List.getElem?_eq_none (by omega)]
theorem bq_pre (n k : Nat) : bq n k <+: bq n (k + 1) := by
  by_cases h : k < (bq n k).length
  · by_cases hs : (bq n k)[k].length < n
    · rw [bq_more h hs]; exact List.prefix_append _ _
    · rw [bq_same h hs]; exact List.prefix_refl _
  · rw [bq_stay h]; exact List.prefix_refl _
theorem bq_pre_add (n k : Nat) : ∀ m, bq n k <+: bq n (k + m)
  | 0 => List.prefix_refl _
  | m + 1 => (bq_pre_add n k m).trans (bq_pre n (k + m))
theorem bq_pre_le {n j k : Nat} (h : j ≤ k) : bq n j <+: bq n k := by
  obtain ⟨m, rfl⟩ := Nat.le.dest h
  exact bq_pre_add n j m
theorem bq_done {n k : Nat} (h : ¬ k < (bq n k).length) : ∀ m, bq n (k + m) = bq n k
  | 0 => rfl
  | m + 1 => by
    have ih := bq_done h m
    rw [← Nat.add_assoc, bq_stay (by rw [ih]; omega), ih]
theorem shortL_len {n : Nat} (hn : n ≤ 6) : (shortL n).length ≤ 127 := by
  have : n = 0 ∨ n = 1 ∨ n = 2 ∨ n = 3 ∨ n = 4 ∨ n = 5 ∨ n = 6 := by omega
  rcases this with rfl | rfl | rfl | rfl | rfl | rfl | rfl <;> decide +kernel
theorem bq_len {n k : Nat} (hn : n ≤ 6) (hk : k ≤ 127) : (bq n k).length ≤ 127 := Nat.le_trans (bq_pre_le hk).length_le (shortL_len hn)
theorem bq_end {n k : Nat} (hk : k ≤ 127) (h : ¬ k < (bq n k).length) : bq n k = shortL n := by
  obtain ⟨m, hm⟩ := Nat.le.dest hk
  unfold shortL
  rw [← hm, bq_done h m]
theorem bq_size (n : Nat) : ∀ k, ∀ x ∈ bq n k, x.length ≤ n
  | 0, x, hx => by
    rw [bq, List.mem_singleton] at hx
    rw [hx]; exact Nat.zero_le _
  | k + 1, x, hx => by
    by_cases h : k < (bq n k).length
    · by_cases hs : (bq n k)[k].length < n
      · rw [bq_more h hs, List.mem_append] at hx
        rcases hx with hx | hx
        · exact bq_size n k x hx
        · simp only [List.mem_cons, List.not_mem_nil, or_false] at hx
          rcases hx with rfl | rfl <;> simp <;> omega
      · rw [bq_same h hs] at hx; exact bq_size n k x hx
    · rw [bq_stay h] at hx; exact bq_size n k x hx
theorem bq_take {n k : Nat} (hk : k < 127) (h : k < (bq n k).length) : (bq n k).take k ++ [(bq n k)[k]] <+: shortL n := by
  have : (bq n k).take k ++ [(bq n k)[k]] = (bq n k).take (k + 1) := by rw [List.take_succ_eq_append_getElem h]
  rw [this]
  exact (List.take_prefix _ _).trans (bq_pre_le (by omega))
theorem bq_take' {n k : Nat} (h : k < (bq n k).length) : (bq n (k + 1)).take (k + 1) = (bq n k).take k ++ [(bq n k)[k]] := by
  have h1 := (List.prefix_iff_eq_take.1 (bq_pre n k))
  have : (bq n k).take k ++ [(bq n k)[k]] = (bq n k).take (k + 1) := by rw [List.take_succ_eq_append_getElem h]
  rw [this]
  rw [h1, List.take_take]
  congr 1
  have h2 : (bq n k).length = min (bq n k).length (bq n (k+1)).length := by have := (bq_pre n k).length_le; omega
  omega
end Go.Proofs.YtgkamcnbpiipoaaGreat
