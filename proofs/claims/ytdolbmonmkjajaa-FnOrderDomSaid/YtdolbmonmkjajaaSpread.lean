/-
  What is found from some blocks on, by whatever follows from each: plain facts.
-/
import Derived.Test.YtdolbmonmkjajaaRuns
namespace Go.Proofs.Ytdolbmonmkjajaa

/-- Blocks in the order in which they are found, from some on, when k of them have been looked at. -/
def spr (f : Nat → List Nat) (s : List Nat) : Nat → List Nat
  | 0 => stepL [] s
  | k + 1 => match (spr f s k)[k]? with
    | none => spr f s k
    | some n => stepL (spr f s k) (f n)

variable {f : Nat → List Nat} {s : List Nat}

theorem spr_step {k : Nat} (h : k < (spr f s k).length) : spr f s (k + 1) = stepL (spr f s k) (f (spr f s k)[k]) := by
  simp only [spr, List.getElem?_eq_getElem h]
theorem spr_stay {k : Nat} (h : (spr f s k).length ≤ k) : spr f s (k + 1) = spr f s k := by
  simp only [spr, List.getElem?_eq_none h]
theorem spr_nodup (f : Nat → List Nat) (s : List Nat) : ∀ k, (spr f s k).Nodup
  | 0 => stepL_nodup _ _ .nil
  | k + 1 => by
    by_cases h : k < (spr f s k).length
    · rw [spr_step h]; exact stepL_nodup _ _ (spr_nodup f s k)
    · rw [spr_stay (by omega)]; exact spr_nodup f s k
theorem spr_lt {N : Nat} (hs : ∀ t ∈ s, t < N) (hf : ∀ i, i < N → ∀ t ∈ f i, t < N) : ∀ k, ∀ x ∈ spr f s k, x < N
  | 0, x, hx => by
    rcases (stepL_mem _ _ _).1 hx with h | h
    · simp at h
    · exact hs x h
  | k + 1, x, hx => by
    have ih := spr_lt hs hf k
    by_cases h : k < (spr f s k).length
    · rw [spr_step h, stepL_mem] at hx
      rcases hx with hx | hx
      · exact ih x hx
      · exact hf _ (ih _ (List.getElem_mem h)) x hx
    · rw [spr_stay (by omega)] at hx; exact ih x hx
theorem spr_len {N : Nat} (hs : ∀ t ∈ s, t < N) (hf : ∀ i, i < N → ∀ t ∈ f i, t < N) (k : Nat) : (spr f s k).length ≤ N := nodup_lt_len _ _ (spr_nodup f s k) (spr_lt hs hf k)
theorem spr_prefix (f : Nat → List Nat) (s : List Nat) (k : Nat) : spr f s k <+: spr f s (k + 1) := by
  by_cases h : k < (spr f s k).length
  · rw [spr_step h]; exact stepL_prefix _ _
  · rw [spr_stay (by omega)]; exact List.prefix_refl _
theorem spr_more {k : Nat} (h : (spr f s k).length ≤ k) : ∀ m, spr f s (k + m) = spr f s k
  | 0 => rfl
  | m + 1 => by
    have ih := spr_more h m
    rw [← Nat.add_assoc, spr_stay (by rw [ih]; omega), ih]
theorem spr_prefixes (f : Nat → List Nat) (s : List Nat) (k : Nat) : ∀ m, spr f s k <+: spr f s (k + m)
  | 0 => List.prefix_refl _
  | m + 1 => (spr_prefixes f s k m).trans (spr_prefix f s (k + m))

/-- All that is found. -/
def spread (f : Nat → List Nat) (s : List Nat) (N : Nat) : List Nat := spr f s N

theorem spread_done {N k : Nat} (hk : k ≤ N) (h : (spr f s k).length ≤ k) : spr f s k = spread f s N := by
  have := spr_more h (N - k)
  unfold spread
  rw [← this]; congr 1; omega
theorem spr_spread {N k : Nat} (hk : k ≤ N) : spr f s k <+: spread f s N := by
  have := spr_prefixes f s k (N - k)
  unfold spread
  rwa [show k + (N - k) = N by omega] at this
theorem spread_nodup (f : Nat → List Nat) (s : List Nat) (N : Nat) : (spread f s N).Nodup := spr_nodup f s N
theorem spread_lt {N : Nat} (hs : ∀ t ∈ s, t < N) (hf : ∀ i, i < N → ∀ t ∈ f i, t < N) : ∀ x ∈ spread f s N, x < N := spr_lt hs hf N
theorem spread_len {N : Nat} (hs : ∀ t ∈ s, t < N) (hf : ∀ i, i < N → ∀ t ∈ f i, t < N) : (spread f s N).length ≤ N := spr_len hs hf N

theorem spr_bfs (g : List Bl) : ∀ k, spr (nxt g) [0] k = bfs g k
  | 0 => rfl
  | k + 1 => by
    simp only [spr, bfs, spr_bfs g k]
    cases (bfs g k)[k]? <;> rfl
theorem spread_reach (g : List Bl) : spread (nxt g) [0] g.length = reach g := spr_bfs g g.length

/-- What is found. -/
inductive FoundBy (f : Nat → List Nat) (s : List Nat) : Nat → Prop where
  | start {i : Nat} (h : i ∈ s) : FoundBy f s i
  | step {i t : Nat} (h : FoundBy f s i) (hn : t ∈ f i) : FoundBy f s t

theorem spr_found (f : Nat → List Nat) (s : List Nat) : ∀ k, ∀ x ∈ spr f s k, FoundBy f s x
  | 0, x, hx => by
    rcases (stepL_mem _ _ _).1 hx with h | h
    · simp at h
    · exact .start h
  | k + 1, x, hx => by
    have ih := spr_found f s k
    by_cases h : k < (spr f s k).length
    · rw [spr_step h, stepL_mem] at hx
      rcases hx with hx | hx
      · exact ih x hx
      · exact .step (ih _ (List.getElem_mem h)) hx
    · rw [spr_stay (by omega)] at hx; exact ih x hx

theorem spr_closed (f : Nat → List Nat) (s : List Nat) : ∀ k j, j < k → ∀ (h : j < (spr f s k).length), ∀ t ∈ f (spr f s k)[j], t ∈ spr f s k
  | 0, j, hj, _, _, _ => absurd hj (by omega)
  | k + 1, j, hj, h, t, ht => by
    have pre := spr_prefix f s k
    by_cases hk : k < (spr f s k).length
    · have hjk : j < (spr f s k).length := by omega
      have e : (spr f s (k + 1))[j] = (spr f s k)[j] := by
        obtain ⟨r, hr⟩ := pre
        have : (spr f s k ++ r)[j]? = (spr f s k)[j]? := List.getElem?_append_left hjk
        rw [hr, List.getElem?_eq_getElem h, List.getElem?_eq_getElem hjk] at this
        exact Option.some.inj this
      rw [e] at ht
      rcases Nat.lt_succ_iff_lt_or_eq.1 hj with hj | rfl
      · exact pre.subset (spr_closed f s k j hj hjk t ht)
      · rw [spr_step hk, stepL_mem]; exact .inr ht
    · have e := spr_stay (f := f) (s := s) (k := k) (by omega)
      have hjk : j < (spr f s k).length := by rw [← e]; exact h
      have e2 : (spr f s (k + 1))[j] = (spr f s k)[j] := by congr 1
      rw [e2] at ht
      rw [e]
      exact spr_closed f s k j (by omega) hjk t ht

theorem mem_spread {N : Nat} (hs : ∀ t ∈ s, t < N) (hf : ∀ i, i < N → ∀ t ∈ f i, t < N) {x : Nat} : x ∈ spread f s N ↔ FoundBy f s x := by
  refine ⟨spr_found f s N x, fun h => ?_⟩
  induction h with
  | start h =>
    exact (spr_spread (Nat.zero_le N)).subset ((stepL_mem _ _ _).2 (.inr h))
  | @step i t _ hn ih =>
    obtain ⟨j, hj, rfl⟩ := List.getElem_of_mem ih
    have hl := spread_len (f := f) hs hf
    exact spr_closed f s N j (by omega) hj t hn
end Go.Proofs.Ytdolbmonmkjajaa
