/-
  What is found from some blocks on, by whatever follows from each: plain facts.
-/
import Derived.Test.YtdpjdhllaokbfaaGreatRuns
import Derived.Test.YtdpjdhllaokbfaaGreatSpecRun
import Derived.Test.YtdpjdhllaokbfaaGreatTrace
import Derived.Test.YtdpjdhllaokbfaaGreatIter
import Derived.Maps.AppendAt
namespace Go.Proofs.YtdpjdhllaokbfaaGreat

/-- Blocks in the order in which they are found, from some on, when k of them have been looked at. -/
def spr (f : Nat → List Nat) (s : List Nat) : Nat → List Nat
  | 0 => stepL [] s
  | k + 1 => match (spr f s k)[k]? with
    | none => spr f s k
    | some n => stepL (spr f s k) (f n)

variable {f : Nat → List Nat} {s : List Nat}

theorem spr_step {k : Nat} (h : k < (spr f s k).length) : spr f s (k + 1) = stepL (spr f s k) (f (spr f s k)[k]) := by
  simp only [spr, List.getElem?_eq_getElem h]
theorem spr_stay {k : Nat} (h : (spr f s k).length ≤ k) : spr f s (k + 1) = spr f s k := by
  simp only [spr, List.getElem?_eq_none h]
theorem spr_nodup (f : Nat → List Nat) (s : List Nat) : ∀ k, (spr f s k).Nodup
  | 0 => stepL_nodup _ _ .nil
  | k + 1 => by
    by_cases h : k < (spr f s k).length
    · rw [spr_step h]; exact stepL_nodup _ _ (spr_nodup f s k)
    · rw [spr_stay (by omega)]; exact spr_nodup f s k
theorem spr_lt {N : Nat} (hs : ∀ t ∈ s, t < N) (hf : ∀ i, i < N → ∀ t ∈ f i, t < N) : ∀ k, ∀ x ∈ spr f s k, x < N
  | 0, x, hx => by
    rcases (stepL_mem _ _ _).1 hx with h | h
    · simp at h
    · exact hs x h
  | k + 1, x, hx => by
    have ih := spr_lt hs hf k
    by_cases h : k < (spr f s k).length
    · rw [spr_step h, stepL_mem] at hx
      rcases hx with hx | hx
      · exact ih x hx
      · exact hf _ (ih _ (List.getElem_mem h)) x hx
    · rw [spr_stay (by omega)] at hx; exact ih x hx
theorem spr_len {N : Nat} (hs : ∀ t ∈ s, t < N) (hf : ∀ i, i < N → ∀ t ∈ f i, t < N) (k : Nat) : (spr f s k).length ≤ N := nodup_lt_len _ _ (spr_nodup f s k) (spr_lt hs hf k)
theorem spr_prefix (f : Nat → List Nat) (s : List Nat) (k : Nat) : spr f s k <+: spr f s (k + 1) := by
  by_cases h : k < (spr f s k).length
  · rw [spr_step h]; exact stepL_prefix _ _
  · rw [spr_stay (by omega)]; exact List.prefix_refl _
theorem spr_more {k : Nat} (h : (spr f s k).length ≤ k) : ∀ m, spr f s (k + m) = spr f s k
  | 0 => rfl
  | m + 1 => by
    have ih := spr_more h m
    rw [← Nat.add_assoc, spr_stay (by rw [ih]; omega), ih]
theorem spr_prefixes (f : Nat → List Nat) (s : List Nat) (k : Nat) : ∀ m, spr f s k <+: spr f s (k + m)
  | 0 => List.prefix_refl _
  | m + 1 => (spr_prefixes f s k m).trans (spr_prefix f s (k + m))

/-- All that is found. -/
def spread (f : Nat → List Nat) (s : List Nat) (N : Nat) : List Nat := spr f s N

theorem spread_done {N k : Nat} (hk : k ≤ N) (h : (spr f s k).length ≤ k) : spr f s k = spread f s N := by
  have := spr_more h (N - k)
  unfold spread
  rw [← this]; congr 1; omega
theorem spr_spread {N k : Nat} (hk : k ≤ N) : spr f s k <+: spread f s N := by
  have := spr_prefixes f s k (N - k)
  unfold spread
  rwa [show k + (N - k) = N by omega] at this
theorem spread_nodup (f : Nat → List Nat) (s : List Nat) (N : Nat) : (spread f s N).Nodup := spr_nodup f s N
theorem spread_lt {N : Nat} (hs : ∀ t ∈ s, t < N) (hf : ∀ i, i < N → ∀ t ∈ f i, t < N) : ∀ x ∈ spread f s N, x < N := spr_lt hs hf N
theorem spread_len {N : Nat} (hs : ∀ t ∈ s, t < N) (hf : ∀ i, i < N → ∀ t ∈ f i, t < N) : (spread f s N).length ≤ N := spr_len hs hf N

theorem spr_bfs (g : List Bl) : ∀ k, spr (nxt g) [0] k = bfs g k
  | 0 => rfl
  | k + 1 => by
    simp only [spr, bfs, spr_bfs g k]
    cases (bfs g k)[k]? <;> rfl
theorem spread_reach (g : List Bl) : spread (nxt g) [0] g.length = reach g := spr_bfs g g.length

/-- What is found. -/
inductive FoundBy (f : Nat → List Nat) (s : List Nat) : Nat → Prop where
  | start {i : Nat} (h : i ∈ s) : FoundBy f s i
  | step {i t : Nat} (h : FoundBy f s i) (hn : t ∈ f i) : FoundBy f s t

theorem spr_found (f : Nat → List Nat) (s : List Nat) : ∀ k, ∀ x ∈ spr f s k, FoundBy f s x
  | 0, x, hx => by
    rcases (stepL_mem _ _ _).1 hx with h | h
    · simp at h
    · exact .start h
  | k + 1, x, hx => by
    have ih := spr_found f s k
    by_cases h : k < (spr f s k).length
    · rw [spr_step h, stepL_mem] at hx
      rcases hx with hx | hx
      · exact ih x hx
      · exact .step (ih _ (List.getElem_mem h)) hx
    · rw [spr_stay (by omega)] at hx; exact ih x hx

theorem spr_closed (f : Nat → List Nat) (s : List Nat) : ∀ k j, j < k → ∀ (h : j < (spr f s k).length), ∀ t ∈ f (spr f s k)[j], t ∈ spr f s k
  | 0, j, hj, _, _, _ => absurd hj (by omega)
  | k + 1, j, hj, h, t, ht => by
    have pre := spr_prefix f s k
    by_cases hk : k < (spr f s k).length
    · have hjk : j < (spr f s k).length := by omega
      have e : (spr f s (k + 1))[j] = (spr f s k)[j] := by
        obtain ⟨r, hr⟩ := pre
        have : (spr f s k ++ r)[j]? = (spr f s k)[j]? := List.getElem?_append_left hjk
        rw [hr, List.getElem?_eq_getElem h, List.getElem?_eq_getElem hjk] at this
        exact Option.some.inj this
      rw [e] at ht
      rcases Nat.lt_succ_iff_lt_or_eq.1 hj with hj | rfl
      · exact pre.subset (spr_closed f s k j hj hjk t ht)
      · rw [spr_step hk, stepL_mem]; exact .inr ht
    · have e := spr_stay (f := f) (s := s) (k := k) (by omega)
      have hjk : j < (spr f s k).length := by rw [← e]; exact h
      have e2 : (spr f s (k + 1))[j] = (spr f s k)[j] := by congr 1
      rw [e2] at ht
      rw [e]
      exact spr_closed f s k j (by omega) hjk t ht

theorem mem_spread {N : Nat} (hs : ∀ t ∈ s, t < N) (hf : ∀ i, i < N → ∀ t ∈ f i, t < N) {x : Nat} : x ∈ spread f s N ↔ FoundBy f s x := by
  refine ⟨spr_found f s N x, fun h => ?_⟩
  induction h with
  | start h =>
    exact (spr_spread (Nat.zero_le N)).subset ((stepL_mem _ _ _).2 (.inr h))
  | @step i t _ hn ih =>
    obtain ⟨j, hj, rfl⟩ := List.getElem_of_mem ih
    have hl := spread_len (f := f) hs hf
    exact spr_closed f s N j (by omega) hj t hn
end Go.Proofs.YtdpjdhllaokbfaaGreat

/-
  Contracts: what is found from some blocks on, by whatever follows from each: join, the iterator, what makes it.
-/
namespace Go.Proofs.YtdpjdhllaokbfaaGreat
open Go.RowKit Go.Sort Go.Shelf
attribute [local go_sem] Oper.semAt_some

/-- What has been seen. -/
def seenC (out : List Nat) : Array Value := ((List.range 26).map fun j => Value.bool (decide (j ∈ out))).toArray

theorem seenC_size (out : List Nat) : (seenC out).size = 26 := by simp [seenC]
theorem seenC_get (out : List Nat) {j : Nat} (hj : j < 26) : (seenC out)[j]? = some (.bool (decide (j ∈ out))) := by simp [seenC, hj]
theorem seenC_set (out : List Nat) (t : Nat) : (seenC out).setIfInBounds t (.bool true) = seenC (out ++ [t]) := by
  apply Array.ext_getElem?
  intro j
  rw [Array.getElem?_setIfInBounds, seenC_size]
  by_cases hj : j < 26
  · rw [seenC_get _ hj, seenC_get _ hj]
    by_cases e : t = j
    · subst e; rw [if_pos rfl, if_pos hj]; simp
    · rw [if_neg e]; congr 2; simp [Ne.symm e]
  · have h1 : (seenC out)[j]? = none := Array.getElem?_eq_none (by rw [seenC_size]; omega)
    have h2 : (seenC (out ++ [t]))[j]? = none := Array.getElem?_eq_none (by rw [seenC_size]; omega)
    rw [h1, h2]
    split
    · rw [if_neg (by omega)]
    · rfl

/-- The blocks that have been found (out), and those of them that are still to be looked at (behind the first k), as they lie. -/
structure JoinAt (w : World) (NB : Nat) (g : List Bl) (SB QB : Nat) (O : Nat → Prop) (out : List Nat) (k : Nat) : Prop where
  seen : Blk w SB 140 (seenC out)
  queue : ∃ q, Boxed w QB 54 q ∧ Row w 73 1 (fun b => O b ∧ b ≠ SB ∧ b ≠ QB) q (out.length - k) ((out.drop k).map (nptr NB))
  nodes : NodesIn w NB g
  ownS : O SB
  ownQ : O QB

theorem JoinAt.kept {w w' : World} {NB : Nat} {g : List Bl} {SB QB : Nat} {O O' : Nat → Prop} {out : List Nat} {k : Nat} (h : JoinAt w NB g SB QB O out k) (hk : Keeps O w w') (hn : NodesIn w' NB g) (hO : ∀ b, O b → O' b) : JoinAt w' NB g SB QB O' out k := by
  obtain ⟨q, hq, hr⟩ := h.queue
  exact ⟨(hk.2 _ h.seen.lt h.ownS).trans h.seen, ⟨q, (hk.2 _ hq.lt h.ownQ).trans hq, hr.kept (hk.fewer fun b hb => hb.1) fun b _ hb => ⟨hO b hb.1, hb.2⟩⟩, hn, hO _ h.ownS, hO _ h.ownQ⟩

theorem JoinAt.wider {w : World} {NB : Nat} {g : List Bl} {SB QB : Nat} {O O' : Nat → Prop} {out : List Nat} {k : Nat} (h : JoinAt w NB g SB QB O out k) (hO : ∀ b, b < w.heap.size → O b → O' b) : JoinAt w NB g SB QB O' out k := by
  obtain ⟨q, hq, hr⟩ := h.queue
  exact ⟨h.seen, ⟨q, hq, hr.kept (Keeps.refl _ _) fun b hb h => ⟨hO b hb h.1, h.2⟩⟩, h.nodes, hO _ h.seen.lt h.ownS, hO _ hq.lt h.ownQ⟩

/-- One more that has not been seen: the world behind it. -/
theorem JoinAt.put {wr w1 : World} {NB : Nat} {g : List Bl} {SB QB : Nat} {O : Nat → Prop} {out : List Nat} {k t : Nat} {q v : Value} (h : JoinAt wr NB g SB QB O out k) (hSQ : SB ≠ QB) (hNO : ∀ i, i < g.length → ¬ O (nb NB i)) (hk : k ≤ out.length)
    (hq : Boxed wr QB 54 q)
    (hT' : Turns (fun b => O b ∧ b ≠ SB ∧ b ≠ QB) ((wr.setCell ⟨SB, t, none⟩ (.bool true)).alloc (.cells #[nptr NB t] 73)) w1)
    (hq' : Que w1 73 1 (more (fun b => O b ∧ b ≠ SB ∧ b ≠ QB) ((wr.setCell ⟨SB, t, none⟩ (.bool true)).alloc (.cells #[nptr NB t] 73)) w1) v (out.length - k + 1) ((out.drop k).map (nptr NB) ++ [nptr NB t])) :
    Turns O wr (w1.setCell ⟨QB, 0, none⟩ v) ∧ JoinAt (w1.setCell ⟨QB, 0, none⟩ v) NB g SB QB (more O wr (w1.setCell ⟨QB, 0, none⟩ v)) (out ++ [t]) k := by
  have hs := h.seen
  have hsA : ((wr.setCell ⟨SB, t, none⟩ (.bool true)).alloc (.cells #[nptr NB t] 73)).heap.size = wr.heap.size + 1 := by simp
  have T0 : Turns O wr ((wr.setCell ⟨SB, t, none⟩ (.bool true)).alloc (.cells #[nptr NB t] 73)) :=
    (Turns.setCell (O := O) (p := ⟨SB, t, none⟩) h.ownS (.bool true)).trans ((Turns.alloc O _ _).wider fun b hb => .inl hb)
  have T1 : Turns O wr w1 := T0.trans (hT'.wider fun b hb => .inl hb.1)
  have T2 : Turns O wr (w1.setCell ⟨QB, 0, none⟩ v) := T1.trans ((Turns.setCell (O := O) (p := ⟨QB, 0, none⟩) h.ownQ v).wider fun b hb => .inl hb)
  have hz : (w1.setCell ⟨QB, 0, none⟩ v).heap.size = w1.heap.size := by simp
  have h1s := hT'.size
  rw [hsA] at h1s
  have kQ0 : Boxed (wr.setCell ⟨SB, t, none⟩ (.bool true)) QB 54 q := (Below.heap_setCell _ _ _ _ (fun e => hSQ e.symm)).trans hq
  have kQ : Boxed w1 QB 54 q := (hT'.block _ (by rw [hsA]; have := hq.lt; omega) fun hb => hb.2.2 rfl).trans (kQ0.alloc _)
  refine ⟨T2, ?_, ⟨v, kQ.set v, .inr ?_⟩, fun i hi => (T2.block _ (h.nodes i hi).lt (hNO i hi)).trans (h.nodes i hi), .inl h.ownS, .inl h.ownQ⟩
  · rw [← seenC_set]
    have a1 : Blk w1 SB 140 ((seenC out).setIfInBounds t (.bool true)) := (hT'.block _ (by rw [hsA]; have := hs.lt; omega) fun hb => hb.2.1 rfl).trans ((hs.set_ t (.bool true)).alloc _)
    exact (Below.heap_setCell _ _ _ _ hSQ).trans a1
  · have e1 : (out ++ [t]).length - k = out.length - k + 1 := by rw [List.length_append, List.length_singleton]; omega
    have e2 : ((out ++ [t]).drop k).map (nptr NB) = (out.drop k).map (nptr NB) ++ [nptr NB t] := by rw [List.drop_append_of_le_length hk, List.map_append]; rfl
    rw [e1, e2]
    refine hq'.kept (Turns.keeps (Turns.setCell (O := fun b => b = QB) (p := ⟨QB, 0, none⟩) rfl v) fun b hb e => ?_) fun b hb hm => ?_
    · rcases hb with hb | hb
      · exact hb.2.2 e
      · rw [hsA] at hb; have := hq.lt; omega
    · rcases hm with hm | hm
      · exact ⟨.inl hm.1, hm.2⟩
      · rw [hsA] at hm
        exact ⟨.inr ⟨by omega, by rw [hz]; omega⟩, by have := hs.lt; omega, by have := hq.lt; omega⟩

set_option maxRecDepth 100000 in
set_option maxHeartbeats 1000000 in
theorem join_all (NB SB QB cap k : Nat) (g : List Bl) (T : Nat → Prop) (out ts : List Nat) (A : Option Addr) (w : World) (h26 : g.length ≤ 26) (hSQ : SB ≠ QB) (hJ : JoinAt w NB g SB QB T out k) (hA : PtsI w A NB ts)
    (hAT : ∀ b off, 0 < ts.length → A = some ⟨b, off, none⟩ → ¬ T b) (hNT : ∀ i, i < g.length → ¬ T (nb NB i)) (hts : ∀ t ∈ ts, t < g.length) (htl : ts.length ≤ 1048576) (hk : k ≤ out.length) (hnd : out.Nodup) (hol : ∀ x ∈ out, x < g.length) :
    Calls Tryz.prog 102 #[.slice A ts.length cap, .pointer (some ⟨SB, 0, none⟩), .pointer (some ⟨QB, 0, none⟩)] w fun e w' =>
      e = .returned (.tuple #[]) ∧ Turns T w w' ∧ JoinAt w' NB g SB QB (more T w w') (stepL out ts) k := by
  obtain ⟨i0, hi0, hz0, hz1, hz2⟩ := info_parts info_ptr
  have HNL := Lib.hid (fun i hi => (hJ.nodes i hi).lt)
  have HA := Lib.hid hA
  have HAT := Lib.hid hAT
  have HNT := Lib.hid hNT
  have HTS := Lib.hid hts
  have HND := Lib.hid hnd
  have HOL := Lib.hid hol
  have HJ := Lib.hid hJ
  clear hA hAT hNT hts hnd hol hJ
  refine (callsIn_wide (n := 4)).1 ?_
  refine callsIn_of_wp Tryz.func102 rfl trivial ?_ rfl
  simp only [Tryz.ntmps102, List.size_toArray, List.length_cons, List.length_nil, Nat.reduceAdd, Nat.reduceSub, Array.replicate_succ, Array.replicate_zero, List.push_toArray, List.append_toArray, List.nil_append, List.cons_append]
  gi_wp2
  gi_loopw [8] (fun i wr => ∃ (j : Nat) (o : List Nat), j ≤ ts.length ∧ i = .int .i64 j ∧ Hid (o = stepL out (ts.take j)) ∧ Turns T w wr ∧ JoinAt wr NB g SB QB (more T w wr) o k) (fun i _ => ts.length - (intOf i).toNat)
  case atStart => exact ⟨0, out, Nat.zero_le _, rfl, rfl, Turns.refl _ _, HJ.out.wider fun b _ h => .inl h⟩
  case round =>
    obtain ⟨j, o, hj, rfl, HO, hT, hJ⟩ := hrel
    have hko : k ≤ o.length := by rw [HO.out]; have := (stepL_prefix (ts.take j) out).length_le; omega
    have hoN : o.Nodup := HO.out ▸ stepL_nodup _ _ HND.out
    have hoL : ∀ x ∈ o, x < g.length := fun x hx => by
      rw [HO.out, stepL_mem] at hx
      exact hx.elim (HOL.out x) fun h => HTS.out x ((List.take_subset _ _) h)
    have hol2 : o.length ≤ 26 := by have := nodup_lt_len _ _ hoN hoL; omega
    have HOL2 := Lib.hid hol2
    have HKO := Lib.hid hko
    have HT := Lib.hid hT
    have HJJ := Lib.hid hJ
    clear hoN hoL hol2 hko hT hJ
    by_cases hjd : j < ts.length
    · have HJD := Lib.hid hjd
      obtain ⟨t, ht⟩ : ∃ t, t = ts[j]'hjd := ⟨_, rfl⟩
      have htl2 : t < g.length := ht ▸ HTS.out _ (List.getElem_mem hjd)
      obtain ⟨tb, off, rfl, htb, hrow⟩ := HA.out (by omega)
      have hTB : ¬ T tb := HAT.out tb off (by omega) rfl
      have cT : wr.cell? ⟨tb, off + j, none⟩ = some (nptr NB t) := by
        rw [World.cell?_of_block (HT.out.block tb htb hTB), hrow j hjd, ht]
      have nI : wr.cell? ⟨nb NB t, 0, none⟩ = some (.int .i64 t) := by have := (HJJ.out.nodes t htl2).cell 0; simpa using this
      have t26 : t < 26 := by omega
      have cS : wr.cell? ⟨SB, t, none⟩ = some (.bool (decide (t ∈ o))) := (HJJ.out.seen.cell t).trans (seenC_get _ t26)
      have fS := HJJ.out.seen.frozen t
      have HST := Lib.hid (show stepL out (ts.take (j + 1)) = if t ∈ o then o else o ++ [t] by
        rw [List.take_succ_eq_append_getElem hjd, ← ht, stepL_snoc, ← HO.out])
      have hSl := HJJ.out.seen.lt
      clear ht hrow hTB
      by_cases hin : t ∈ o
      · rw [decide_eq_true hin] at cS
        rw [if_pos hin] at HST
        clear hin
        gi_wp2
        go_roundw
        case rel => exact ⟨j + 1, o, by have := HJD.out; omega, by go_num, HST.out.symm, HT.out, HJJ.out⟩
        case measure => have := HJD.out; simp [intOf]; omega
      · rw [decide_eq_false hin] at cS
        rw [if_neg hin] at HST
        clear hin
        obtain ⟨q, hq, hr⟩ := HJJ.out.queue
        have HQ := Lib.hid hq
        have cQ : (wr.setCell ⟨SB, t, none⟩ (.bool true)).cell? ⟨QB, 0, none⟩ = some q :=
          (World.cell?_of_block (Below.heap_setCell _ _ _ _ (fun e => hSQ e.symm))).trans hq.cell
        have hQl := hq.lt
        have kQ0 : Boxed (wr.setCell ⟨SB, t, none⟩ (.bool true)) QB 54 q := (Below.heap_setCell _ _ _ _ (fun e => hSQ e.symm)).trans hq
        have HKQ := Lib.hid (kQ0.alloc (.cells #[nptr NB t] 73))
        clear kQ0
        have HROW := Lib.hid (show Row ((wr.setCell ⟨SB, t, none⟩ (.bool true)).alloc (.cells #[nptr NB t] 73)) 73 1 (fun b => more T w wr b ∧ b ≠ SB ∧ b ≠ QB) q (o.length - k) ((o.drop k).map (nptr NB)) from
          hr.kept ((Turns.keeps (Turns.setCell (O := fun b => b = SB) (p := ⟨SB, t, none⟩) rfl (.bool true)) fun b hb e => hb.2.1 e).trans (Turns.keeps (O := fun _ => False) (Turns.alloc _ _ _) fun _ _ h => h)) fun b _ h => h)
        have HNEW := Lib.hid (show ∀ j u, [nptr NB t][j]? = some u → ((wr.setCell ⟨SB, t, none⟩ (.bool true)).alloc (.cells #[nptr NB t] 73)).cell? ((⟨wr.heap.size, 0, none⟩ : Addr).add j) = some u from by
          have := cell_one_new (wr.setCell ⟨SB, t, none⟩ (.bool true)) (nptr NB t) 73
          rwa [show (wr.setCell ⟨SB, t, none⟩ (.bool true)).heap.size = wr.heap.size from by simp] at this)
        have hlen : o.length - k + 1 ≤ 1048576 := by have := HOL2.out; omega
        clear hq hr
        gi_wp2_with (gi_at_builtin; refine wpListIn_append_row _ rfl _ _ 54 rfl 73 i0 (.pointer none) 1 Tryz.underlying54 hi0 hz0 hz1 (by rw [hz2]; decide) rfl (fun b => more T w wr b ∧ b ≠ SB ∧ b ≠ QB) q (o.length - k) ((o.drop k).map (nptr NB)) rfl HROW.out ⟨wr.heap.size, 0, none⟩ 1 1 [nptr NB t] rfl rfl HNEW.out (by simp [Value.oneCell']) hlen (by decide) ?_; intro v' w1 hq' hT'; obtain ⟨B', off', cap', rfl, _⟩ := hq'.cells; have k2 : Boxed w1 QB 54 q := (hT'.block _ (by simp; omega) fun hb => hb.2.2 rfl).trans HKQ.out; have c2 := k2.cell; have f2 := k2.frozen; have HQQ := Lib.hid hq'; have HTT := Lib.hid hT'; clear k2 hq' hT')
        obtain ⟨p1, p2⟩ := HJJ.out.put (t := t) hSQ (fun i hi h => h.elim (HNT.out i hi) fun h => by have := HNL.out i hi; omega) HKO.out HQ.out HTT.out HQQ.out
        go_roundw
        case rel =>
          refine ⟨j + 1, o ++ [t], by have := HJD.out; omega, by go_num, HST.out.symm, HT.out.trans p1, p2.wider fun b hb h => ?_⟩
          rcases h with h | h
          · rcases h with h | h
            · exact .inl h
            · exact .inr ⟨h.1, hb⟩
          · exact .inr ⟨by have := HT.out.size; omega, hb⟩
        case measure => have := HJD.out; simp [intOf]; omega
    · have HE := Lib.hid (show o = stepL out ts by rw [HO.out, List.take_of_length_le (by omega)])
      gi_wp2
      go_end0
      exact ⟨rfl, HT.out, HE.out ▸ HJJ.out⟩

/-- A function value that tells what follows from a block. -/
structure Follows (f : Nat → List Nat) (NB : Nat) (g : List Bl) (R : Nat → Prop) (gf : FuncId) (lb : Array Value) (w0 : World) : Prop where
  enter : ∀ args w, (callFunc gf args).run Tryz.prog w = .ok (.enter gf args) w
  goes : ∀ W i, i < g.length → Keeps R w0 W → NodesIn W NB g → Calls Tryz.prog gf (#[nptr NB i] ++ lb) W fun e W' => ∃ A cap, e = .returned (.slice A (f i).length cap) ∧ PtsI W' A NB (f i) ∧ (∀ b off, 0 < (f i).length → A = some ⟨b, off, none⟩ → W.heap.size ≤ b) ∧ Below W.heap.size W W'

set_option maxRecDepth 100000 in
set_option maxHeartbeats 2000000 in
theorem spreadFrom1_own (n NB FB TB cap : Nat) (A : Option Addr) (g : List Bl) (f : Nat → List Nat) (s : List Nat) (gf : FuncId) (lb : Array Value) (R : Nat → Prop) (w : World) (hn : 1 ≤ n) (hv : validB g = true)
    (hs : ∀ t ∈ s, t < g.length) (hsl : s.length ≤ 1048576) (hf : ∀ i, i < g.length → ∀ t ∈ f i, t < g.length) (hfl : ∀ i, i < g.length → (f i).length ≤ 1048576)
    (hTB : w.cell? ⟨TB, 0, none⟩ = some (.slice A s.length cap)) (hA : PtsI w A NB s) (hFB : w.cell? ⟨FB, 0, none⟩ = some (.func (.func gf) #[] lb)) (hF : Follows f NB g R gf lb w)
    (hN : NodesIn w NB g) (hR : ∀ i, i < g.length → R (nb NB i)) (hRF : R FB) (hRl : ∀ k, R k → k < w.heap.size) (hTl : TB < w.heap.size) (hFl : FB < w.heap.size) :
    SeqOwn Fence.wide n Tryz.prog 101 #[.pointer (some ⟨TB, 0, none⟩), .pointer (some ⟨FB, 0, none⟩)] (fun x : Nat => #[nptr NB x]) R (fun _ => True) (fun pre x => pre ++ [x] <+: spread f s g.length)
      (fun xs => xs = spread f s g.length) (fun pre => pre <+: spread f s g.length) w := by
  intro l J Jx W hW hJ hBd hY h0
  have h26 := (valid_iff.1 hv).2.1
  have ct := (hW.cell (p := ⟨TB, 0, none⟩) hTl).trans hTB
  have hws := hW.size
  have hKW : Keeps R w W := ⟨hW.size, fun k hk _ => hW.block k hk⟩
  have cF := (hW.cell (p := ⟨FB, 0, none⟩) hFl).trans hFB
  have HENT := hF.enter
  have HGO := Lib.hid hF.goes
  have HAW := Lib.hid (show PtsI W A NB s from fun h => by
    obtain ⟨b, off, e, hb, hc⟩ := hA h
    exact ⟨b, off, e, by omega, fun k hk => (hW.cell (p := ⟨b, off + k, none⟩) hb).trans (hc k hk)⟩)
  have HAL := Lib.hid (show ∀ b off, 0 < s.length → A = some ⟨b, off, none⟩ → b < W.heap.size from fun b off h e => by
    obtain ⟨b', off', e', hb, _⟩ := hA h
    rw [e] at e'; simp only [Option.some.injEq, Addr.mk.injEq] at e'
    omega)
  have HN := Lib.hid (hN.below hW)
  have HNL := Lib.hid (fun i hi => (HN.out i hi).lt)
  have HY := Lib.hid hY
  have HJ := Lib.hid hJ
  have HV := Lib.hid hv
  have HSL := Lib.hid hs
  have HFL := Lib.hid hf
  have HFN := Lib.hid hfl
  have HRR := Lib.hid hR
  have HRL := Lib.hid hRl
  have HKW := Lib.hid hKW
  have HCF := Lib.hid cF
  clear hTB hA hFB hF hN hW hY hJ hBd hv hs hf hfl hR hRl hKW cF
  refine callsIn_of_wp Tryz.func101 rfl trivial ?_ rfl
  simp only [Tryz.ntmps101, List.size_toArray, List.length_cons, List.length_nil, Nat.reduceAdd, Nat.reduceSub, Array.replicate_succ, Array.replicate_zero, List.push_toArray, List.append_toArray, List.nil_append, List.cons_append]
  obtain ⟨W2, hW2⟩ : ∃ W2, (W.alloc (.cells #[.bool false, .bool false, .bool false, .bool false, .bool false, .bool false, .bool false, .bool false, .bool false, .bool false, .bool false, .bool false, .bool false, .bool false, .bool false, .bool false, .bool false, .bool false, .bool false, .bool false, .bool false, .bool false, .bool false, .bool false, .bool false, .bool false] 140)).alloc (.cells #[.slice none 0 0] 54) = W2 := ⟨_, rfl⟩
  have hS : Blk W2 W.heap.size 140 (seenC []) := by rw [← hW2]; exact (Blk.new W _ _).alloc _
  have hQ : Boxed W2 (W.heap.size + 1) 54 (.slice none 0 0) := by
    have := Boxed.new (W.alloc (.cells #[.bool false, .bool false, .bool false, .bool false, .bool false, .bool false, .bool false, .bool false, .bool false, .bool false, .bool false, .bool false, .bool false, .bool false, .bool false, .bool false, .bool false, .bool false, .bool false, .bool false, .bool false, .bool false, .bool false, .bool false, .bool false, .bool false] 140)) 54 (.slice none 0 0)
    rw [World.size_alloc, hW2] at this; exact this
  have hb2 : Below W.heap.size W W2 := by rw [← hW2]; exact ((Below.refl _ W).alloc (Nat.le_refl _) _).alloc (by simp) _
  have hs2 : W2.heap.size = W.heap.size + 2 := by rw [← hW2]; simp
  have hJ2 := HJ.out _ _ _ W2 h0 (Turns.of_below hb2)
  have hJA : JoinAt W2 NB g W.heap.size (W.heap.size + 1) (more (fun _ => False) W W2) [] 0 :=
    ⟨hS, ⟨_, hQ, Row.nil _ _ _ _⟩, HN.out.below hb2, .inr ⟨Nat.le_refl _, by omega⟩, .inr ⟨by omega, by omega⟩⟩
  have hPA : PtsI W2 A NB s := fun h => by
    obtain ⟨b, off, e, hb, hc⟩ := HAW.out h
    exact ⟨b, off, e, by omega, fun k hk => (hb2.cell (p := ⟨b, off + k, none⟩) hb).trans (hc k hk)⟩
  have HJO := Lib.hid (join_all NB W.heap.size (W.heap.size + 1) cap 0 g (more (fun _ => False) W W2) [] s A W2 h26 (by omega) hJA hPA
    (fun b off h e hm => by have := HAL.out b off h e; rcases hm with hm | hm; exact hm; omega) (fun i hi hm => by have := HNL.out i hi; rcases hm with hm | hm; exact hm; omega) HSL.out hsl (Nat.le_refl _) .nil (by simp))
  have HJ2 := Lib.hid hJ2
  have HK2 := Lib.hid (show Keeps R W W2 from ⟨hb2.size, fun k hk _ => hb2.block k hk⟩)
  have ct2 := (hb2.cell (p := ⟨TB, 0, none⟩) (by show TB < W.heap.size; omega)).trans ct
  rw [← hW2] at ct2
  have HW2 := Lib.hid hW2
  have HS2 := Lib.hid hs2
  clear hW2 hS hQ hb2 hJ2 hJA hPA hs2 ct
  gi_wp2_with fail
  rw [HW2.out]
  clear ct2
  have hs2 := HS2.out
  refine ⟨trivial, (callsIn_wide.2 HJO.out).mono ?_⟩
  rintro e W3 ⟨rfl, hT3, hJ3⟩
  have HJ3 := Lib.hid (HJ.out _ _ _ W3 HJ2.out hT3)
  have HT3 := Lib.hid hT3
  have HA3 := Lib.hid (hJ3.wider (O' := more (more (fun _ => False) W W2) W2 W3) fun b _ h => h)
  have HK3 := Lib.hid (HKW.out.trans (HK2.out.trans (hT3.keeps fun k hk hm => by have := HRL.out k hk; rcases hm with hm | hm; exact hm; omega)))
  have h3s := hT3.size
  clear hT3 hJ3
  gi_wp2_with fail
  gi_loopg [7] g.length (fun gk _ wr => ∃ O k, gk = g.length - k ∧ k ≤ (spr f s k).length ∧ J O ((spr f s k).take k) wr ∧ JoinAt wr NB g W.heap.size (W.heap.size + 1) O (spr f s k) k ∧ Keeps R w wr ∧ W.heap.size + 2 ≤ wr.heap.size ∧ ∀ b, O b → W.heap.size ≤ b ∧ b < wr.heap.size)
  case atStart =>
    refine ⟨_, 0, rfl, Nat.zero_le _, HJ3.out, HA3.out, HK3.out, by omega, fun b hb => ?_⟩
    rcases hb with (hb | hb) | hb
    · exact hb.elim
    · omega
    · omega
  case round =>
    obtain ⟨O, k, rfl, hkl, hJs, hJA, hKR, hWl, hOb⟩ := hrel
    have hlen := spr_len (s := s) HSL.out HFL.out k
    obtain ⟨q, hq, hr⟩ := hJA.queue
    have cQ := hq.cell
    have fQ := hq.frozen
    have hQl := hq.lt
    by_cases hlt : k < (spr f s k).length
    · obtain ⟨x, hx⟩ : ∃ x, x = (spr f s k)[k] := ⟨_, rfl⟩
      have hxl : x < g.length := hx ▸ spr_lt HSL.out HFL.out k _ (List.getElem_mem hlt)
      obtain ⟨m, hm⟩ : ∃ m, (spr f s k).length - k = m + 1 := ⟨(spr f s k).length - k - 1, by omega⟩
      have hdrop : (spr f s k).drop k = x :: (spr f s k).drop (k + 1) := by rw [List.drop_eq_getElem_cons hlt, ← hx]
      have hQu : Que wr 73 1 (fun b => O b ∧ b ≠ W.heap.size ∧ b ≠ W.heap.size + 1) q ((spr f s k).length - k) (((spr f s k).drop k).map (nptr NB)) := by
        rcases hr with ⟨_, h, _⟩ | h
        · omega
        · exact h
      obtain ⟨B, off, cap2, rfl, hcap, hOB, hBl, hcells⟩ := hQu.cells
      rw [hm, hdrop, List.map_cons] at hQu
      rw [hdrop, List.map_cons] at hcells
      have hc0 : wr.cell? ⟨B, off, none⟩ = some (nptr NB x) := by have := hcells 0 (by simp); simpa using this
      rw [hm] at hcap cQ
      have hQ2 : ∃ v2, Que wr 73 1 (fun b => O b ∧ b ≠ W.heap.size ∧ b ≠ W.heap.size + 1) v2 m (((spr f s k).drop (k + 1)).map (nptr NB)) ∧ (cap2 = 1 ∧ v2 = .slice (some ⟨B, off, none⟩) m 0 ∨ cap2 ≠ 1 ∧ v2 = .slice (some ⟨B, off + 1, none⟩) m (cap2 - 1)) := by
        by_cases h1 : cap2 = 1
        · exact ⟨_, hQu.tail0 h1, .inl ⟨h1, rfl⟩⟩
        · exact ⟨_, by have := hQu.tail; simpa using this, .inr ⟨h1, rfl⟩⟩
      obtain ⟨v2, hQ2, hv2⟩ := hQ2
      -- behind 'queue = queue[1:]'
      obtain ⟨W1, hW1⟩ : ∃ W1, W1 = wr.setCell ⟨W.heap.size + 1, 0, none⟩ v2 := ⟨_, rfl⟩
      have TW1 : Turns O wr W1 := by rw [hW1]; exact Turns.setCell (O := O) (p := ⟨W.heap.size + 1, 0, none⟩) hJA.ownQ v2
      have hm1 : (spr f s k).length - (k + 1) = m := by omega
      have hs1 : W1.heap.size = wr.heap.size := by rw [hW1]; simp
      have hJA1 : JoinAt W1 NB g W.heap.size (W.heap.size + 1) (more O wr W1) (spr f s k) (k + 1) := by
        refine ⟨by rw [hW1]; exact (Below.heap_setCell _ _ _ _ (by show W.heap.size ≠ W.heap.size + 1; omega)).trans hJA.seen, ⟨v2, by rw [hW1]; exact hq.set v2, .inr ?_⟩,
          fun i hi => (TW1.block _ (hJA.nodes i hi).lt fun h => by have := hOb _ h; have := HNL.out i hi; omega).trans (hJA.nodes i hi), .inl hJA.ownS, .inl hJA.ownQ⟩
        rw [hm1, hW1]
        exact hQ2.kept (Turns.keeps (Turns.setCell (O := fun b => b = W.heap.size + 1) (p := ⟨W.heap.size + 1, 0, none⟩) rfl v2) fun b hb e => hb.2.2 e) fun b _ h => ⟨.inl h.1, h.2⟩
      have hKR1 : Keeps R w W1 := hKR.trans (TW1.keeps fun b hb h => by have := hOb _ h; have := HRL.out b hb; omega)
      have hpx : (spr f s k).take k ++ [x] <+: spread f s g.length := by
        have : (spr f s k).take k ++ [x] = (spr f s k).take (k + 1) := by rw [List.take_succ_eq_append_getElem hlt, ← hx]
        rw [this]; exact (List.take_prefix _ _).trans (spr_spread (by omega))
      have hJ1 := HJ.out O _ wr W1 hJs TW1
      have HPX := Lib.hid hpx
      have HX := Lib.hid hx
      have HM := Lib.hid hm
      have HLEN := Lib.hid hlen
      have HLT := Lib.hid hlt
      have HA1 := Lib.hid hJA1
      have HKR1 := Lib.hid hKR1
      have HOB := Lib.hid hOb
      obtain ⟨fn, tmps, assign, body, hy, hRd⟩ := HY.out _ _ x W1 hJ1 hpx
      have hy' : (Instr.yield l #[nptr NB x]).run Tryz.prog W1 = .ok (.round l fn tmps assign body) W1 := hy
      have hcap1 : 1 ≤ cap2 := by omega
      clear hy hpx hx hm hm1 hdrop hcells hQu hQ2 hJs hJA hJA1 hKR hKR1 hOb hr hJ1 hlen TW1 hq
      rcases hv2 with ⟨hc1, rfl⟩ | ⟨hc1, rfl⟩
      all_goals
        rw [hW1] at hy'
        have HW1 := Lib.hid hW1
        clear hW1
        gi_wp2_with fail
        rw [← HW1.out]
        refine hRd.mono ?_
        rintro e W3 (⟨rfl, hJ3', hk3⟩ | ⟨rfl, hJx3⟩)
        · have hA3' : JoinAt W3 NB g W.heap.size (W.heap.size + 1) (more O wr W1) (spr f s k) (k + 1) := HA1.out.kept (hk3.fewer fun b h => .inr h) (HA1.out.nodes.kept hk3 fun i hi => .inl (HRR.out i hi)) fun b h => h
          have hK3' : Keeps R w W3 := HKR1.out.trans (hk3.fewer fun b h => .inl h)
          have cF3 : W3.cell? ⟨FB, 0, none⟩ = some (.func (.func gf) #[] lb) := by
            rw [World.cell?_of_block (hK3'.2 FB hFl hRF), ← World.cell?_of_block (HKW.out.2 FB hFl hRF)]
            exact HCF.out
          have HG3 := Lib.hid (HGO.out W3 x hxl hK3' hA3'.nodes)
          have hk3s := hk3.1
          have HA3' := Lib.hid hA3'
          have HK3' := Lib.hid hK3'
          have HJ3' := Lib.hid hJ3'
          clear hA3' hK3' hJ3' hk3 hRd
          gi_wp2_with fail
          refine ⟨trivial, (callsIn_wide.2 HG3.out).mono ?_⟩
          rintro e W4 ⟨A4, cap4, rfl, hP4, hL4, hB4⟩
          have hA4 : JoinAt W4 NB g W.heap.size (W.heap.size + 1) (more O wr W1) (spr f s k) (k + 1) := HA3'.out.kept ((Turns.of_below (O := fun _ => False) hB4).keeps fun _ _ h => h) (HA3'.out.nodes.below hB4) fun b h => h
          have h4s := hB4.size
          have hOb1 : ∀ b, more O wr W1 b → W.heap.size ≤ b ∧ b < wr.heap.size := fun b hb => by
            rcases hb with hb | hb
            · exact HOB.out b hb
            · omega
          have htake : (spr f s k).take k ++ [x] = (spr f s k).take (k + 1) := by rw [List.take_succ_eq_append_getElem HLT.out, ← HX.out]
          have hJ4 := HJ.out _ _ W3 W4 HJ3'.out (Turns.of_below hB4)
          rw [htake] at hJ4
          have HJO4 := Lib.hid (join_all NB W.heap.size (W.heap.size + 1) cap4 (k + 1) g (more O wr W1) (spr f s k) (f x) A4 W4 h26 (by omega) hA4 hP4
            (fun b off h e hm => by have := hL4 b off h e; have := hOb1 b hm; omega) (fun i hi hm => by have := hOb1 _ hm; have := HNL.out i hi; omega) (HFL.out x hxl) (HFN.out x hxl) HLT.out (spr_nodup f s k) (spr_lt HSL.out HFL.out k))
          have HJ4 := Lib.hid hJ4
          have HK4 := Lib.hid (HK3'.out.trans (show Keeps R W3 W4 from ⟨hB4.size, fun b hb _ => hB4.block b hb⟩))
          have HOB1 := Lib.hid hOb1
          clear hP4 hL4 hB4 hA4 hJ4 hOb1 htake
          gi_wp2_with fail
          refine ⟨trivial, (callsIn_wide.2 HJO4.out).mono ?_⟩
          rintro e W5 ⟨rfl, hT5, hJ5⟩
          have h5s := hT5.size
          have HSP := Lib.hid (show stepL (spr f s k) (f x) = spr f s (k + 1) by rw [spr_step HLT.out, ← HX.out])
          rw [HSP.out] at hJ5
          have HT5 := Lib.hid hT5
          have HJ5 := Lib.hid hJ5
          have HJJ5 := Lib.hid (HJ.out _ _ W4 W5 HJ4.out (hT5.wider fun b hb => .inl hb))
          have HK5 := Lib.hid (HK4.out.trans (hT5.keeps fun b hb h => by have := HOB1.out b h; have := HRL.out b hb; omega))
          clear hT5 hJ5
          gi_wp2_with fail
          gi_roundg (g.length - (k + 1))
          case measure => have := HLEN.out; have := HLT.out; omega
          case rel =>
            refine ⟨_, k + 1, rfl, ?_, ?_, HJ5.out.wider (O' := more (more (more O wr W1) W3 W4) W4 W5) fun b _ h => ?_, HK5.out, by omega, fun b hb => ?_⟩
            · have := (spr_prefix f s k).length_le; have := HLT.out; omega
            · have : (spr f s (k + 1)).take (k + 1) = (spr f s k).take (k + 1) := by
                obtain ⟨r, hr⟩ := spr_prefix f s k
                rw [← hr, List.take_append_of_le_length (by have := HLT.out; omega)]
              rw [this]; exact HJJ5.out
            · rcases h with h | h
              · exact .inl (.inl h)
              · exact .inr h
            · rcases hb with (hb | hb) | hb
              · have := HOB1.out b hb; omega
              · omega
              · omega
        · gi_wp2_with fail
          refine bodyPost_ret (results_none rfl _ _ _) rfl ?_
          exact ⟨⟨_, rfl⟩, .inr ⟨_, HPX.out, hJx3⟩⟩
    · have hq0 : (spr f s k).length - k = 0 := by omega
      have hre : (spr f s k).take k = spread f s g.length := by rw [List.take_of_length_le (by omega)]; exact spread_done (by omega) (by omega)
      rw [hre] at hJs
      have hqv : ∃ A0 c0, q = .slice A0 0 c0 := by
        rcases hr with ⟨e, _, _⟩ | h
        · exact ⟨_, _, e⟩
        · obtain ⟨B, off, c, e, _⟩ := h.cells
          rw [hq0] at e; exact ⟨_, _, e⟩
      obtain ⟨A0, c0, rfl⟩ := hqv
      clear hr hJA
      gi_wp2_with fail
      go_end0
      exact ⟨⟨_, rfl⟩, .inl ⟨_, _, rfl, hJs⟩⟩

/-- The iterator's maker: two variables are laid. -/
theorem spreadFrom_any (v u : Value) (w : World) (hv : v.oneCell' = true) (hu : u.oneCell' = true) :
    Calls Tryz.prog 86 #[v, u] w fun e w' =>
      e = .returned (.func (.func 101) #[] #[.pointer (some ⟨w.heap.size, 0, none⟩), .pointer (some ⟨w.heap.size + 1, 0, none⟩)]) ∧ w' = (w.alloc (.cells #[v] 54)).alloc (.cells #[u] 117) := by
  go_enter Tryz.func86, Tryz.ntmps86
  go_wp2
  go_ret
  exact ⟨rfl, rfl⟩
end Go.Proofs.YtdpjdhllaokbfaaGreat
