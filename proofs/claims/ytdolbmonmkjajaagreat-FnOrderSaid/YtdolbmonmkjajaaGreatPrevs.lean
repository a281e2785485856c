/-
  Which blocks go on to one, by their numbers; a letter among names; how many there are in all: plain facts.
-/
import Derived.Test.YtdolbmonmkjajaaGreatPrevN
import Derived.Test.YtdolbmonmkjajaaGreatCount
import Derived.Test.YtdolbmonmkjajaaGreatRuns
import Derived.Test.YtdolbmonmkjajaaGreatLaw
namespace Go.Proofs.YtdolbmonmkjajaaGreat
open Go.RowKit Go.Sort

def sumTo (f : Nat → Nat) : Nat → Nat
  | 0 => 0
  | k + 1 => sumTo f k + f k

theorem sumTo_add (f h : Nat → Nat) : ∀ k, sumTo (fun i => f i + h i) k = sumTo f k + sumTo h k
  | 0 => rfl
  | k + 1 => by simp only [sumTo, sumTo_add f h k]; omega

theorem sumTo_zero : ∀ k, sumTo (fun _ => 0) k = 0
  | 0 => rfl
  | k + 1 => by simp only [sumTo, sumTo_zero k]

theorem sumTo_congr {f h : Nat → Nat} : ∀ k, (∀ i, i < k → f i = h i) → sumTo f k = sumTo h k
  | 0, _ => rfl
  | k + 1, e => by simp only [sumTo]; rw [sumTo_congr k fun i hi => e i (by omega), e k (by omega)]

theorem sumTo_mono (f : Nat → Nat) {j k : Nat} (h : j ≤ k) : sumTo f j ≤ sumTo f k := by
  induction k with
  | zero => rw [Nat.le_zero.1 h]; exact Nat.le_refl _
  | succ k ih =>
    rcases Nat.lt_or_ge k j with hlt | hge
    · have : j = k + 1 := by omega
      rw [this]; exact Nat.le_refl _
    · have := ih hge; simp only [sumTo]; omega

theorem sumTo_mem {l : List Nat} (hn : l.Nodup) (n : Nat) (hl : ∀ x ∈ l, x < n) : sumTo (fun i => if i ∈ l then 1 else 0) n = l.length := by
  have key : ∀ k, sumTo (fun i => if i ∈ l then 1 else 0) k = ((List.range k).filter fun i => decide (i ∈ l)).length := by
    intro k
    induction k with
    | zero => rfl
    | succ k ih =>
      rw [sumTo, ih, List.range_succ, List.filter_append, List.length_append]
      by_cases h : k ∈ l
      · rw [if_pos h, List.filter_cons, if_pos (by simpa using h)]; rfl
      · rw [if_neg h, List.filter_cons, if_neg (by simpa using h)]; rfl
  rw [key]
  refine List.Perm.length_eq ((List.perm_ext_iff_of_nodup (List.Pairwise.filter _ List.nodup_range) hn).2 fun x => ?_)
  rw [List.mem_filter, List.mem_range]
  constructor
  · intro h; simpa using h.2
  · intro h; exact ⟨hl x h, by simpa using h⟩

theorem nxt_nodup {g : List Bl} (hv : validB g = true) {i : Nat} (hi : i < g.length) : (nxt g i).Nodup := by
  rcases goes hv hi with ⟨h, _⟩ | ⟨p, _, h, _⟩ | ⟨p, q, _, _, h, _, _, _, _, _, hne⟩
  · rw [h]; simp
  · rw [h]; simp
  · rw [h]; simp [hne]

/-- Each jump is counted at its end as at its beginning. -/
theorem sum_prev {g : List Bl} (hv : validB g = true) : ∀ k, k ≤ g.length → sumTo (fun i => (prevN g i k).length) g.length = sumTo (fun j => (nxt g j).length) k
  | 0, _ => by simp only [prevN, List.range_zero, List.filter_nil, List.length_nil, sumTo]; exact sumTo_zero _
  | k + 1, h => by
    have ih := sum_prev hv k (by omega)
    have e : ∀ i, (prevN g i (k + 1)).length = (prevN g i k).length + (if i ∈ nxt g k then 1 else 0) := by
      intro i
      by_cases hm : i ∈ nxt g k
      · rw [prevN_yes hm, if_pos hm]; simp
      · rw [prevN_no hm, if_neg hm]; simp
    have e2 : (fun i => (prevN g i (k + 1)).length) = fun i => (prevN g i k).length + (if i ∈ nxt g k then 1 else 0) := funext e
    rw [e2, sumTo_add, ih, sumTo_mem (nxt_nodup hv (by omega)) _ (fun x hx => nxt_lt hv (by omega) hx)]
    rfl

end Go.Proofs.YtdolbmonmkjajaaGreat
