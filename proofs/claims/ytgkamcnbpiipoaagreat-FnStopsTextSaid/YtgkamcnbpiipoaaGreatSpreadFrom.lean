/-
  What is found from some blocks on, by whatever follows from each: plain facts.
-/
import Derived.Test.YtgkamcnbpiipoaaGreatRuns
import Derived.Test.YtgkamcnbpiipoaaGreatSpecRun
import Derived.Test.YtgkamcnbpiipoaaGreatTrace
import Derived.Test.YtgkamcnbpiipoaaGreatIter
import Derived.Maps.AppendAt
namespace Go.Proofs.YtgkamcnbpiipoaaGreat

/-- Blocks in the order in which they are found, from some on, when k of them have been looked at. -/
def spr (f : Nat → List Nat) (s : List Nat) : Nat → List Nat
  | 0 => stepL [] s
  | k + 1 => match (spr f s k)[k]? with
    | none => spr f s k
    | some n => stepL (spr f s k) (f n)

variable {f : Nat → List Nat} {s : List Nat}

theorem spr_step {k : Nat} (h : k < (spr f s k).length) : spr f s (k + 1) = stepL (spr f s k) (f (spr f s k)[k]) := by
  simp only [spr, List.getElem?_eq_getElem h]
theorem spr_stay {k : Nat} (h : (spr f s k).length ≤ k) : spr f s (k + 1) = spr f s k := by
  simp only [spr, List.getElem?_eq_none h]
theorem spr_nodup (f : Nat → List Nat) (s : List Nat) : ∀ k, (spr f s k).Nodup
  | 0 => stepL_nodup _ _ .nil
  | k + 1 => by
    by_cases h : k < (spr f s k).length
    · rw [spr_step h]; exact stepL_nodup _ _ (spr_nodup f s k)
    · rw [spr_stay (by omega)]; exact spr_nodup f s k
theorem spr_lt {N : Nat} (hs : ∀ t ∈ s, t < N) (hf : ∀ i, i < N → ∀ t ∈ f i, t < N) : ∀ k, ∀ x ∈ spr f s k, x < N
  | 0, x, hx => by
    rcases (stepL_mem _ _ _).1 hx with h | h
    · simp at h
    · exact hs x h
  | k + 1, x, hx => by
    have ih := spr_lt hs hf k
    by_cases h : k < (spr f s k).length
    · rw [spr_step h, stepL_mem] at hx
      rcases hx with hx | hx
      · exact ih x hx
      · exact hf _ (ih _ (List.getElem_mem h)) x hx
    · rw [spr_stay (by omega)] at hx; exact ih x hx
theorem spr_len {N : Nat} (hs : ∀ t ∈ s, t < N) (hf : ∀ i, i < N → ∀ t ∈ f i, t < N) (k : Nat) : (spr f s k).length ≤ N := nodup_lt_len _ _ (spr_nodup f s k) (spr_lt hs hf k)
theorem spr_prefix (f : Nat → List Nat) (s : List Nat) (k : Nat) : spr f s k <+: spr f s (k + 1) := by
  by_cases h : k < (spr f s k).length
  · rw [spr_step h]; exact stepL_prefix _ _
  · rw [spr_stay (by omega)]; exact List.prefix_refl _
theorem spr_more {k : Nat} (h : (spr f s k).length ≤ k) : ∀ m, spr f s (k + m) = spr f s k
  | 0 => rfl
  | m + 1 => by
    have ih := spr_more h m
    rw [← Nat.add_assoc, spr_stay (by rw [ih]; omega), ih]
theorem spr_prefixes (f : Nat → List Nat) (s : List Nat) (k : Nat) : ∀ m, spr f s k <+: spr f s (k + m)
  | 0 => List.prefix_refl _
  | m + 1 => (spr_prefixes f s k m).trans (spr_prefix f s (k + m))

/-- All that is found. -/
def spread (f : Nat → List Nat) (s : List Nat) (N : Nat) : List Nat := spr f s N

theorem spread_done {N k : Nat} (hk : k ≤ N) (h : (spr f s k).length ≤ k) : spr f s k = spread f s N := by
  have := spr_more h (N - k)
  unfold spread
  rw [← this]; congr 1; omega
theorem spr_spread {N k : Nat} (hk : k ≤ N) : spr f s k <+: spread f s N := by
  have := spr_prefixes f s k (N - k)
  unfold spread
  rwa [show k + (N - k) = N by omega] at this
theorem spread_nodup (f : Nat → List Nat) (s : List Nat) (N : Nat) : (spread f s N).Nodup := spr_nodup f s N
theorem spread_lt {N : Nat} (hs : ∀ t ∈ s, t < N) (hf : ∀ i, i < N → ∀ t ∈ f i, t < N) : ∀ x ∈ spread f s N, x < N := spr_lt hs hf N
theorem spread_len {N : Nat} (hs : ∀ t ∈ s, t < N) (hf : ∀ i, i < N → ∀ t ∈ f i, t < N) : (spread f s N).length ≤ N := spr_len hs hf N

theorem spr_bfs (g : List Bl) : ∀ k, spr (nxt g) [0] k = bfs g k
  | 0 => rfl
  | k + 1 => by
    simp only [spr, bfs, spr_bfs g k]
    cases (bfs g k)[k]? <;> rfl
theorem spread_reach (g : List Bl) : spread (nxt g) [0] g.length = reach g := spr_bfs g g.length

/-- What is found. -/
inductive FoundBy (f : Nat → List Nat) (s : List Nat) : Nat → Prop where
  | start {i : Nat} (h : i ∈ s) : FoundBy f s i
  | step {i t : Nat} (h : FoundBy f s i) (hn : t ∈ f i) : FoundBy f s t

theorem spr_found (f : Nat → List Nat) (s : List Nat) : ∀ k, ∀ x ∈ spr f s k, FoundBy f s x
  | 0, x, hx => by
    rcases (stepL_mem _ _ _).1 hx with h | h
    · simp at h
    · exact .start h
  | k + 1, x, hx => by
    have ih := spr_found f s k
    by_cases h : k < (spr f s k).length
    · rw [spr_step h, stepL_mem] at hx
      rcases hx with hx | hx
      · exact ih x hx
      · exact .step (ih _ (List.getElem_mem h)) hx
    · rw [spr_stay (by omega)] at hx; exact ih x hx

theorem spr_closed (f : Nat → List Nat) (s : List Nat) : ∀ k j, j < k → ∀ (h : j < (spr f s k).length), ∀ t ∈ f (spr f s k)[j], t ∈ spr f s k
  | 0, j, hj, _, _, _ => absurd hj (by omega)
  | k + 1, j, hj, h, t, ht => by
    have pre := spr_prefix f s k
    by_cases hk : k < (spr f s k).length
    · have hjk : j < (spr f s k).length := by omega
      have e : (spr f s (k + 1))[j] = (spr f s k)[j] := by
        obtain ⟨r, hr⟩ := pre
        have : (spr f s k ++ r)[j]? = (spr f s k)[j]? := List.getElem?_append_left hjk
        rw [hr, List.getElem?_eq_getElem h, List.getElem?_eq_getElem hjk] at this
        exact Option.some.inj this
      rw [e] at ht
      rcases Nat.lt_succ_iff_lt_or_eq.1 hj with hj | rfl
      · exact pre.subset (spr_closed f s k j hj hjk t ht)
      · rw [spr_step hk, stepL_mem]; exact .inr ht
    · have e := spr_stay (f := f) (s := s) (k := k) (by omega)
      have hjk : j < (spr f s k).length := by rw [← e]; exact h
      have e2 : (spr f s (k + 1))[j] = (spr f s k)[j] := by congr 1
      rw [e2] at ht
      rw [e]
      exact spr_closed f s k j (by omega) hjk t ht

theorem mem_spread {N : Nat} (hs : ∀ t ∈ s, t < N) (hf : ∀ i, i < N → ∀ t ∈ f i, t < N) {x : Nat} : x ∈ spread f s N ↔ FoundBy f s x := by
  refine ⟨spr_found f s N x, fun h => ?_⟩
  induction h with
  | start h =>
    exact (spr_spread (Nat.zero_le N)).subset ((stepL_mem _ _ _).2 (.inr h))
  | @step i t _ hn ih =>
    obtain ⟨j, hj, rfl⟩ := List.getElem_of_mem ih
    have hl := spread_len (f := f) hs hf
    exact spr_closed f s N j (by omega) hj t hn
end Go.Proofs.YtgkamcnbpiipoaaGreat

/-
  Contracts: what is found from some blocks on, by whatever follows from each: join, the iterator, what makes it.
-/
namespace Go.Proofs.YtgkamcnbpiipoaaGreat
open Go.RowKit Go.Sort Go.Shelf
attribute [local go_sem] Oper.semAt_some

/-- What has been seen. -/
def seenC (out : List Nat) : Array Value := ((List.range 26).map fun j => Value.bool (decide (j ∈ out))).toArray

theorem seenC_size (out : List Nat) : (seenC out).size = 26 := by simp [seenC]
theorem seenC_get (out : List Nat) {j : Nat} (hj : j < 26) : (seenC out)[j]? = some (.bool (decide (j ∈ out))) := by simp [seenC, hj]
theorem seenC_set (out : List Nat) (t : Nat) : (seenC out).setIfInBounds t (.bool true) = seenC (out ++ [t]) := by
  apply Array.ext_getElem?
  intro j
  rw [Array.getElem?_setIfInBounds, seenC_size]
  by_cases hj : j < 26
  · rw [seenC_get _ hj, seenC_get _ hj]
    by_cases e : t = j
    · subst e; rw [if_pos rfl, if_pos hj]; simp
    · rw [if_neg e]; congr 2; simp [Ne.symm e]
  · have h1 : (seenC out)[j]? = none := Array.getElem?_eq_none (by rw [seenC_size]; omega)
    have h2 : (seenC (out ++ [t]))[j]? = none := Array.getElem?_eq_none (by rw [seenC_size]; omega)
    rw [h1, h2]
    split
    · rw [if_neg (by omega)]
    · rfl

/-- The blocks that have been found (out), and those of them that are still to be looked at (behind the first k), as they lie. -/
structure JoinAt (w : World) (NB : Nat) (g : List Bl) (SB QB : Nat) (O : Nat → Prop) (out : List Nat) (k : Nat) : Prop where
  seen : Blk w SB 128 (seenC out)
  queue : ∃ q, Boxed w QB 54 q ∧ Row w 60 1 (fun b => O b ∧ b ≠ SB ∧ b ≠ QB) q (out.length - k) ((out.drop k).map (nptr NB))
  nodes : NodesIn w NB g
  ownS : O SB
  ownQ : O QB

theorem JoinAt.kept {w w' : World} {NB : Nat} {g : List Bl} {SB QB : Nat} {O O' : Nat → Prop} {out : List Nat} {k : Nat} (h : JoinAt w NB g SB QB O out k) (hk : Keeps O w w') (hn : NodesIn w' NB g) (hO : ∀ b, O b → O' b) : JoinAt w' NB g SB QB O' out k := by
  obtain ⟨q, hq, hr⟩ := h.queue
  exact ⟨(hk.2 _ h.seen.lt h.ownS).trans h.seen, ⟨q, (hk.2 _ hq.lt h.ownQ).trans hq, hr.kept (hk.fewer fun b hb => hb.1) fun b _ hb => ⟨hO b hb.1, hb.2⟩⟩, hn, hO _ h.ownS, hO _ h.ownQ⟩

theorem JoinAt.wider {w : World} {NB : Nat} {g : List Bl} {SB QB : Nat} {O O' : Nat → Prop} {out : List Nat} {k : Nat} (h : JoinAt w NB g SB QB O out k) (hO : ∀ b, b < w.heap.size → O b → O' b) : JoinAt w NB g SB QB O' out k := by
  obtain ⟨q, hq, hr⟩ := h.queue
  exact ⟨h.seen, ⟨q, hq, hr.kept (Keeps.refl _ _) fun b hb h => ⟨hO b hb h.1, h.2⟩⟩, h.nodes, hO _ h.seen.lt h.ownS, hO _ hq.lt h.ownQ⟩

/-- One more that has not been seen: the world behind it. -/
theorem JoinAt.put {wr w1 : World} {NB : Nat} {g : List Bl} {SB QB : Nat} {O : Nat → Prop} {out : List Nat} {k t : Nat} {q v : Value} (h : JoinAt wr NB g SB QB O out k) (hSQ : SB ≠ QB) (hNO : ∀ i, i < g.length → ¬ O (nb NB i)) (hk : k ≤ out.length)
    (hq : Boxed wr QB 54 q)
    (hT' : Turns (fun b => O b ∧ b ≠ SB ∧ b ≠ QB) ((wr.setCell ⟨SB, t, none⟩ (.bool true)).alloc (.cells #[nptr NB t] 60)) w1)
    (hq' : Que w1 60 1 (more (fun b => O b ∧ b ≠ SB ∧ b ≠ QB) ((wr.setCell ⟨SB, t, none⟩ (.bool true)).alloc (.cells #[nptr NB t] 60)) w1) v (out.length - k + 1) ((out.drop k).map (nptr NB) ++ [nptr NB t])) :
    Turns O wr (w1.setCell ⟨QB, 0, none⟩ v) ∧ JoinAt (w1.setCell ⟨QB, 0, none⟩ v) NB g SB QB (more O wr (w1.setCell ⟨QB, 0, none⟩ v)) (out ++ [t]) k := by
  have hs := h.seen
  have hsA : ((wr.setCell ⟨SB, t, none⟩ (.bool true)).alloc (.cells #[nptr NB t] 60)).heap.size = wr.heap.size + 1 := by simp
  have T0 : Turns O wr ((wr.setCell ⟨SB, t, none⟩ (.bool true)).alloc (.cells #[nptr NB t] 60)) :=
    (Turns.setCell (O := O) (p := ⟨SB, t, none⟩) h.ownS (.bool true)).trans ((Turns.alloc O _ _).wider fun b hb => .inl hb)
  have T1 : Turns O wr w1 := T0.trans (hT'.wider fun b hb => .inl hb.1)
  have T2 : Turns O wr (w1.setCell ⟨QB, 0, none⟩ v) := T1.trans ((Turns.setCell (O := O) (p := ⟨QB, 0, none⟩) h.ownQ v).wider fun b hb => .inl hb)
  have hz : (w1.setCell ⟨QB, 0, none⟩ v).heap.size = w1.heap.size := by simp
  have h1s := hT'.size
  rw [hsA] at h1s
  have kQ0 : Boxed (wr.setCell ⟨SB, t, none⟩ (.bool true)) QB 54 q := (Below.heap_setCell _ _ _ _ (fun e => hSQ e.symm)).trans hq
  have kQ : Boxed w1 QB 54 q := (hT'.block _ (by rw [hsA]; have := hq.lt; omega) fun hb => hb.2.2 rfl).trans (kQ0.alloc _)
  refine ⟨T2, ?_, ⟨v, kQ.set v, .inr ?_⟩, fun i hi => (T2.block _ (h.nodes i hi).lt (hNO i hi)).trans (h.nodes i hi), .inl h.ownS, .inl h.ownQ⟩
  · rw [← seenC_set]
    have a1 : Blk w1 SB 128 ((seenC out).setIfInBounds t (.bool true)) := (hT'.block _ (by rw [hsA]; have := hs.lt; omega) fun hb => hb.2.1 rfl).trans ((hs.set_ t (.bool true)).alloc _)
    exact (Below.heap_setCell _ _ _ _ hSQ).trans a1
  · have e1 : (out ++ [t]).length - k = out.length - k + 1 := by rw [List.length_append, List.length_singleton]; omega
    have e2 : ((out ++ [t]).drop k).map (nptr NB) = (out.drop k).map (nptr NB) ++ [nptr NB t] := by rw [List.drop_append_of_le_length hk, List.map_append]; rfl
    rw [e1, e2]
    refine hq'.kept (Turns.keeps (Turns.setCell (O := fun b => b = QB) (p := ⟨QB, 0, none⟩) rfl v) fun b hb e => ?_) fun b hb hm => ?_
    · rcases hb with hb | hb
      · exact hb.2.2 e
      · rw [hsA] at hb; have := hq.lt; omega
    · rcases hm with hm | hm
      · exact ⟨.inl hm.1, hm.2⟩
      · rw [hsA] at hm
        exact ⟨.inr ⟨by omega, by rw [hz]; omega⟩, by have := hs.lt; omega, by have := hq.lt; omega⟩


/-- A function value that tells what follows from a block. -/
structure Follows (f : Nat → List Nat) (NB : Nat) (g : List Bl) (R : Nat → Prop) (gf : FuncId) (lb : Array Value) (w0 : World) : Prop where
  enter : ∀ args w, (callFunc gf args).run Tryz.prog w = .ok (.enter gf args) w
  goes : ∀ W i, i < g.length → Keeps R w0 W → NodesIn W NB g → Calls Tryz.prog gf (#[nptr NB i] ++ lb) W fun e W' => ∃ A cap, e = .returned (.slice A (f i).length cap) ∧ PtsI W' A NB (f i) ∧ (∀ b off, 0 < (f i).length → A = some ⟨b, off, none⟩ → W.heap.size ≤ b) ∧ Below W.heap.size W W'


end Go.Proofs.YtgkamcnbpiipoaaGreat
