/-
  Runs go along jumps: plain facts.
-/
import Derived.Test.YtdolbmonmkjajaaGreatLoopMath
import Derived.Test.YtdolbmonmkjajaaGreatPathRun
namespace Go.Proofs.YtdolbmonmkjajaaGreat
open Go.RowKit

/-- The names of a run. -/
def runNs (g : List Bl) (s : ByteArray) : List Nat := (runOf g s).map (·.1)

theorem runL_first (g : List Bl) (m i : Nat) (left : List UInt8) : ∃ e r, runL g (m + 1) i left = (i, e) :: r := runL_head' g m i left

/-- Reached blocks, each next one one that the one ahead goes on to. -/
structure Steps (g : List Bl) (l : List Nat) : Prop where
  live : ∀ x ∈ l, Rch g [] x
  step : ∀ k (h : k + 1 < l.length), l[k + 1] ∈ nxt g l[k]

theorem Steps.one {g : List Bl} {i : Nat} (h : Rch g [] i) : Steps g [i] := ⟨fun x hx => by simp at hx; rw [hx]; exact h, fun k hk => by simp at hk⟩
theorem Steps.cons {g : List Bl} {i j : Nat} {l : List Nat} (hi : Rch g [] i) (h : Steps g (j :: l)) (hj : j ∈ nxt g i) : Steps g (i :: j :: l) := by
  refine ⟨fun x hx => (List.mem_cons.1 hx).elim (fun q => q ▸ hi) (h.live x), fun k hk => ?_⟩
  cases k with
  | zero => exact hj
  | succ k => exact h.step k (by simpa using hk)

theorem runL_steps {g : List Bl} (hv : validB g = true) : ∀ (m i : Nat) (left : List UInt8), Rch g [] i → Steps g ((runL g m i left).map (·.1))
  | 0, i, left, _ => ⟨by simp [runL], fun k h => by simp [runL] at h⟩
  | m + 1, i, left, hr => by
    have key : ∀ (j : Nat) (l : List UInt8), j ∈ nxt g i → Steps g (((i, 2) :: runL g m j l).map (·.1)) := by
      intro j l hj
      have hjr : Rch g [] j := .step hr hj (by simp)
      have ih := runL_steps hv m j l hjr
      cases m with
      | zero => exact Steps.one hr
      | succ m =>
        obtain ⟨e2, r, hr2⟩ := runL_first g m j l
        rw [hr2] at ih ⊢
        exact Steps.cons hr ih hj
    rcases goes hv (hr.lt hv) with ⟨e, _⟩ | ⟨p, _, e, _⟩ | ⟨p, q, _, _, e, _⟩
    · rw [runL_stop e]; exact Steps.one hr
    · rw [runL_jump e]; exact key p left (by rw [e]; simp)
    · cases left with
      | nil => rw [runL_ask e]; exact Steps.one hr
      | cons c l =>
        rw [runL_go e]
        exact key (if c = 108 then p else q) l (by rw [e]; split <;> simp)

theorem run_live {g : List Bl} (hv : validB g = true) (s : ByteArray) : ∀ x ∈ runNs g s, Rch g [] x := (runL_steps hv 60 0 _ (.start (by simp))).live
theorem run_step {g : List Bl} (hv : validB g = true) (s : ByteArray) (k : Nat) (h : k + 1 < (runNs g s).length) : (runNs g s)[k + 1] ∈ nxt g (runNs g s)[k] := (runL_steps hv 60 0 _ (.start (by simp))).step k h
theorem run_pos (g : List Bl) (s : ByteArray) : 0 < (runNs g s).length := by
  obtain ⟨e, r, h⟩ := runL_first g 59 0 s.data.toList
  show 0 < ((runL g 60 0 s.data.toList).map (·.1)).length
  rw [h]; simp

/-- A run that ends as it does only when too long has all its steps. -/
theorem runL_long {g : List Bl} (hv : validB g = true) : ∀ (m i : Nat) (left : List UInt8), i < g.length → lastEnd (runL g m i left) = 2 → (runL g m i left).length = m
  | 0, _, _, _, h => by simp [runL, lastEnd] at h
  | m + 1, i, left, hi, h => by
    have key : ∀ (j : Nat) (l : List UInt8), j < g.length → runL g (m + 1) i left = (i, 2) :: runL g m j l → (runL g (m + 1) i left).length = m + 1 := by
      intro j l hj e
      rw [e] at h ⊢
      rw [lastEnd_cons] at h
      by_cases hn : runL g m j l = []
      · cases m with
        | zero => simp [runL]
        | succ m =>
          obtain ⟨e2, r, hr2⟩ := runL_first g m j l
          rw [hr2] at hn; cases hn
      · rw [if_neg hn] at h
        rw [List.length_cons, runL_long hv m j l hj h]
    rcases goes hv hi with ⟨e, _⟩ | ⟨p, hp, e, _⟩ | ⟨p, q, hp, hq, e, _⟩
    · rw [runL_stop e] at h; simp [lastEnd] at h
    · exact key p left hp (runL_jump e)
    · cases left with
      | nil => rw [runL_ask e] at h; simp [lastEnd] at h
      | cons c l => exact key (if c = 108 then p else q) l (by split <;> assumption) (runL_go e)

/-- Without jumps back a run's blocks stand one behind the other in the way order. -/
theorem run_forward {g : List Bl} (hv : validB g = true) (hb : jumpL g backK = []) (s : ByteArray) : ∀ k (h : k < (runNs g s).length) j (hj : j < k), placeN g ((runNs g s)[j]'(by omega)) < placeN g (runNs g s)[k] := by
  have one : ∀ k (h : k + 1 < (runNs g s).length), placeN g ((runNs g s)[k]'(by omega)) < placeN g (runNs g s)[k + 1] := fun k h => by
    have h1 := run_live hv s _ (List.getElem_mem (show k < (runNs g s).length by omega))
    have h2 := run_step hv s k h
    rcases Nat.lt_or_ge (placeN g ((runNs g s)[k]'(by omega))) (placeN g (runNs g s)[k + 1]) with q | q
    · exact q
    · have : ((runNs g s)[k]'(by omega), (runNs g s)[k + 1]) ∈ jumpL g backK := (mem_jumpL hv).2 ⟨h1, h2, by rw [backK_kind]; exact decide_eq_true q⟩
      rw [hb] at this; simp at this
  intro k
  induction k with
  | zero => intro _ j hj; omega
  | succ k ih =>
    intro h j hj
    rcases Nat.lt_succ_iff_lt_or_eq.1 hj with hj | rfl
    · exact Nat.lt_trans (ih (by omega) j hj) (one k h)
    · exact one j h

theorem run_short {g : List Bl} (hv : validB g = true) (hb : jumpL g backK = []) (s : ByteArray) : (runNs g s).Nodup ∧ (runNs g s).length ≤ g.length := by
  have hf := run_forward hv hb s
  have hn : (runNs g s).Nodup := by
    rw [List.nodup_iff_pairwise_ne, List.pairwise_iff_getElem]
    intro i j hi hj hij e
    have := hf j hj i hij
    rw [e] at this; omega
  exact ⟨hn, nodup_lt_len _ _ hn fun x hx => (run_live hv s x hx).lt hv⟩
end Go.Proofs.YtdolbmonmkjajaaGreat
