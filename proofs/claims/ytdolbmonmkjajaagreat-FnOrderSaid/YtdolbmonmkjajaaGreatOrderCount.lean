/-
  Counts of jumps: back jumps counted by the blocks that they go to; forward jumps to a block: plain facts.
-/
import Derived.Test.YtdolbmonmkjajaaGreatLoopMath
import Derived.Test.YtdolbmonmkjajaaGreatPrevs
namespace Go.Proofs.YtdolbmonmkjajaaGreat

theorem filter_len_countP {l k : List Nat} (hl : l.Nodup) (hk : k.Nodup) {p q : Nat → Bool} (h : ∀ x, (x ∈ l ∧ p x = true) ↔ (x ∈ k ∧ q x = true)) : l.countP p = k.countP q := by
  rw [List.countP_eq_length_filter, List.countP_eq_length_filter]
  refine List.Perm.length_eq ((List.perm_ext_iff_of_nodup (hl.filter _) (hk.filter _)).2 fun x => ?_)
  rw [List.mem_filter, List.mem_filter]; exact h x

theorem mem_prevN {g : List Bl} {t p : Nat} : p ∈ prevN g t g.length ↔ p < g.length ∧ t ∈ nxt g p := by
  unfold prevN; rw [List.mem_filter, List.mem_range, decide_eq_true_iff]
theorem prevN_nodup (g : List Bl) (t k : Nat) : (prevN g t k).Nodup := List.Pairwise.filter _ List.nodup_range

/-- Which blocks ahead go forward, and which go back, of those that go on to one. -/
def fwdP (g : List Bl) (t p : Nat) : Bool := decide (p ∈ wayOrd g) && decide (placeN g p < placeN g t)
def bckP (g : List Bl) (t p : Nat) : Bool := decide (p ∈ wayOrd g) && decide (placeN g t ≤ placeN g p)

theorem fwd_len {g : List Bl} (hv : validB g = true) (t : Nat) : (prevN g t g.length).countP (fwdP g t) = (srcL g fwdK t).length := by
  have e : (srcL g fwdK t).length = (srcL g fwdK t).countP fun _ => true := by simp
  rw [e]
  have hsn : (srcL g fwdK t).Nodup := List.Pairwise.filter _ (List.Pairwise.filter _ List.nodup_range)
  refine filter_len_countP (prevN_nodup g t _) hsn fun x => ?_
  rw [mem_prevN, mem_srcL hv]
  unfold fwdP
  rw [Bool.and_eq_true_iff, decide_eq_true_iff, decide_eq_true_iff, mem_wayOrd hv]
  constructor
  · rintro ⟨⟨_, h2⟩, h3, h4⟩
    exact ⟨⟨h3, h2, by rw [kind_fwd h4]; rfl⟩, rfl⟩
  · rintro ⟨⟨h1, h2, h3⟩, _⟩
    refine ⟨⟨h1.lt hv, h2⟩, h1, ?_⟩
    have : kindN g x t = 0 := by simpa [fwdK] using h3
    rcases Nat.lt_or_ge (placeN g x) (placeN g t) with h | h
    · exact h
    · exact absurd this (kind_back.2 h)

theorem back_len {g : List Bl} (hv : validB g = true) : sumF (fun t => (prevN g t g.length).countP (bckP g t)) (wayOrd g) = (jumpL g backK).length := by
  have hn := wayOrd_nodup hv
  have h1 : ∀ t, (prevN g t g.length).countP (bckP g t) = (wayOrd g).countP fun p => decide (t ∈ nxt g p) && decide (placeN g t ≤ placeN g p) := fun t => by
    refine filter_len_countP (prevN_nodup g t _) hn fun x => ?_
    rw [mem_prevN]
    unfold bckP
    rw [Bool.and_eq_true_iff, Bool.and_eq_true_iff, decide_eq_true_iff, decide_eq_true_iff, decide_eq_true_iff]
    constructor
    · rintro ⟨⟨_, b⟩, c, d⟩; exact ⟨c, b, d⟩
    · rintro ⟨c, b, d⟩; exact ⟨⟨wayOrd_lt hv x c, b⟩, c, d⟩
  have h2 : ∀ i ∈ wayOrd g, (jumpsOf1 g backK i).length = (wayOrd g).countP fun t => decide (t ∈ nxt g i) && decide (placeN g t ≤ placeN g i) := fun i hi => by
    unfold jumpsOf1
    rw [List.length_map, ← List.countP_eq_length_filter]
    have hir := (mem_wayOrd hv).1 hi
    refine filter_len_countP (nxt_nodup hv (hir.lt hv)) hn fun x => ?_
    rw [Bool.and_eq_true_iff, decide_eq_true_iff, backK_kind, mem_wayOrd hv]
    constructor
    · rintro ⟨a, b⟩; exact ⟨.step hir a (by simp), a, b⟩
    · rintro ⟨_, a, b⟩; exact ⟨a, b⟩
  have h3 : (jumpL g backK).length = sumF (fun i => (wayOrd g).countP fun t => decide (t ∈ nxt g i) && decide (placeN g t ≤ placeN g i)) (wayOrd g) := by
    unfold jumpL sumF
    rw [List.length_flatMap]
    congr 1
    exact List.map_congr_left h2
  rw [h3]
  have h4 := countP_sum (fun t p => decide (t ∈ nxt g p) && decide (placeN g t ≤ placeN g p)) (wayOrd g) (wayOrd g)
  rw [← h4]
  unfold sumF
  congr 1
  exact List.map_congr_left fun t _ => h1 t

theorem live_len {g : List Bl} (hv : validB g = true) : (wayOrd g).length = (reachS g).length := by
  have hsn : (reachS g).Nodup := List.Pairwise.filter _ List.nodup_range
  exact List.Perm.length_eq ((List.perm_ext_iff_of_nodup (wayOrd_nodup hv) hsn).2 fun x => by rw [mem_wayOrd hv, mem_reachS' hv])
end Go.Proofs.YtdolbmonmkjajaaGreat
