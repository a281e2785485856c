/-
  The law FnCountJumps, walked: blocks that are reached need one jump at least.
-/
import Derived.Test.YtimgkjlhahapnaaNextPrev
import Derived.Test.YtimgkjlhahapnaaReachedOf
namespace Go.Proofs.Ytimgkjlhahapnaa
open Go.RowKit Go.Sort

/-- How many jumps these have in all. -/
def sumL (g : List Bl) (l : List Nat) : Nat := (l.map fun i => (nxt g i).length).sum

theorem sumL_append (g : List Bl) (a b : List Nat) : sumL g (a ++ b) = sumL g a + sumL g b := by simp [sumL]
theorem sumL_one (g : List Bl) (i : Nat) : sumL g [i] = (nxt g i).length := by simp [sumL]
theorem sumL_take_succ (g : List Bl) (l : List Nat) {k : Nat} (h : k < l.length) : sumL g (l.take (k + 1)) = sumL g (l.take k) + (nxt g l[k]).length := by
  rw [List.take_succ_eq_append_getElem h, sumL_append, sumL_one]
theorem sumL_take_le (g : List Bl) (l : List Nat) (k : Nat) : sumL g (l.take k) ≤ sumL g l := by
  have := sumL_append g (l.take k) (l.drop k)
  rw [List.take_append_drop] at this; omega

theorem sumL_range {g : List Bl} : ∀ k, k ≤ g.length → sumL g (List.range k) = nexts (g.take k)
  | 0, _ => by simp [sumL, nexts]
  | k + 1, h => by rw [List.range_succ, sumL_append, sumL_one, sumL_range k (by omega), nexts_take g k (by omega), nxt_length (by omega)]

theorem sumL_filter_le (g : List Bl) (p : Nat → Bool) : ∀ l : List Nat, sumL g (l.filter p) ≤ sumL g l
  | [] => Nat.le_refl _
  | i :: l => by
    have ih := sumL_filter_le g p l
    have e : sumL g (i :: l) = (nxt g i).length + sumL g l := by simp [sumL]
    by_cases h : p i = true
    · rw [List.filter_cons, if_pos h]
      have e2 : sumL g (i :: l.filter p) = (nxt g i).length + sumL g (l.filter p) := by simp [sumL]
      omega
    · rw [List.filter_cons, if_neg h]; omega

theorem sum_reach_le (g : List Bl) : sumL g (reachS g) ≤ nexts g := by
  have h1 := sumL_filter_le g (fun i => decide (i ∈ reach g)) (List.range g.length)
  have h2 := sumL_range (g := g) g.length (Nat.le_refl _)
  rw [List.take_length] at h2
  unfold reachS; omega

theorem nexts_two {g : List Bl} (hv : validB g = true) : nexts g ≤ 2 * g.length := by
  have key : ∀ k, k ≤ g.length → nexts (g.take k) ≤ 2 * k := by
    intro k
    induction k with
    | zero => intro _; simp [nexts]
    | succ k ih =>
      intro h
      have := ih (by omega)
      have h2 := (nextB_iff.1 (nextsB_iff.1 (valid_iff.1 hv).2.2.2 k (by omega))).1
      rw [nexts_take g k (by omega)]; omega
  have := key g.length (Nat.le_refl _)
  rwa [List.take_length] at this

theorem stepL_len (ts : List Nat) : ∀ o, (stepL o ts).length ≤ o.length + ts.length := by
  induction ts with
  | nil => intro o; exact Nat.le_refl _
  | cons t ts ih =>
    intro o
    rw [stepL_cons, List.length_cons]
    by_cases h : t ∈ o
    · rw [if_pos h]; have := ih o; omega
    · rw [if_neg h]; have := ih (o ++ [t]); rw [List.length_append, List.length_singleton] at this; omega

theorem bfs_sum (g : List Bl) : ∀ k, k ≤ g.length → (bfs g k).length ≤ 1 + sumL g ((reach g).take k)
  | 0, _ => by simp [bfs]
  | k + 1, h => by
    have ih := bfs_sum g k (by omega)
    by_cases hlt : k < (bfs g k).length
    · have hp := bfs_reach (g := g) (k := k) (by omega)
      have hlr : k < (reach g).length := Nat.lt_of_lt_of_le hlt hp.length_le
      have he : (reach g)[k] = (bfs g k)[k] := (hp.getElem hlt).symm
      have := stepL_len (nxt g (bfs g k)[k]) (bfs g k)
      rw [bfs_step hlt, sumL_take_succ g _ hlr, he]; omega
    · rw [bfs_stay (by omega)]
      have : (reach g).take k = reach g := List.take_of_length_le (by
        have h1 : bfs g k = reach g := reach_done (by omega) (by omega)
        rw [← h1]; omega)
      rw [this] at ih
      rw [show (reach g).take (k + 1) = reach g from List.take_of_length_le (by
        have h1 : bfs g k = reach g := reach_done (by omega) (by omega)
        rw [← h1]; omega)]
      exact ih

theorem reach_sum {g : List Bl} (hv : validB g = true) : (reachS g).length ≤ 1 + sumL g (reachS g) := by
  have h1 := bfs_sum g g.length (Nat.le_refl _)
  have h2 := sumL_take_le g (reach g) g.length
  have h3 : sumL g (reachS g) = sumL g (reach g) := ((reachS_perm hv).map _).sum_nat
  have h4 := (reachS_perm hv).length_eq
  have h5 : (bfs g g.length).length = (reach g).length := rfl
  omega

theorem bfs_from (g : List Bl) : ∀ k, ∀ i ∈ bfs g k, i ≠ 0 → ∃ j ∈ bfs g k, i ∈ nxt g j
  | 0, i, hi, h0 => by simp [bfs] at hi; exact absurd hi h0
  | k + 1, i, hi, h0 => by
    by_cases hlt : k < (bfs g k).length
    · rw [bfs_step hlt] at hi ⊢
      rcases (stepL_mem _ _ _).1 hi with h | h
      · obtain ⟨j, hj, e⟩ := bfs_from g k i h h0
        exact ⟨j, (stepL_mem _ _ _).2 (.inl hj), e⟩
      · exact ⟨_, (stepL_mem _ _ _).2 (.inl (List.getElem_mem hlt)), h⟩
    · rw [bfs_stay (by omega)] at hi ⊢
      exact bfs_from g k i hi h0

theorem mem_reachS {g : List Bl} {i : Nat} : i ∈ reachS g ↔ i < g.length ∧ i ∈ reach g := by
  unfold reachS; rw [List.mem_filter, List.mem_range]; simp

theorem reachS_later {g : List Bl} {k : Nat} (hk : k < (reachS g).length) (h0 : 0 < k) : (reachS g)[k] ≠ 0 := by
  have := List.pairwise_iff_getElem.1 (reachS_up g) 0 k (by omega) hk h0
  omega

theorem prev_some {g : List Bl} (hv : validB g = true) {k : Nat} (hk : k < (reachS g).length) (h0 : 0 < k) : 0 < (prevN g (reachS g)[k] g.length).length := by
  obtain ⟨h1, h2⟩ := mem_reachS.1 (List.getElem_mem hk)
  obtain ⟨j, hj, e⟩ := bfs_from g g.length _ h2 (reachS_later hk h0)
  have hjl := bfs_lt hv _ j hj
  have : j ∈ prevN g (reachS g)[k] g.length := by
    unfold prevN; rw [List.mem_filter, List.mem_range]; exact ⟨hjl, by simpa using e⟩
  exact List.length_pos_of_mem this

set_option maxRecDepth 100000 in
set_option maxHeartbeats 3200000 in
theorem countJumps_walk (A : Option Addr) (la ca : Nat) (w : World) (hA : Bytes w A la) (h1 : la ≤ ca) (h3 : ca ≤ 9223372036854775807) :
    Calls Try.prog 13 #[.slice A la ca] w fun e w' => e = .returned (.bool true) ∧ Below w.heap.size w w' := by
  by_cases g1 : (1048576 : Int) < la
  · clear hA
    go_enter Try.func13, Try.ntmps13
    go_wp2_with fail
    go_ret
    exact ⟨rfl, Below.refl _ _⟩
  have HA := Lib.hid (drawCountJumps_any A la ca w hA h1 h3)
  clear hA
  go_enter Try.func13, Try.ntmps13
  go_wp2_with fail
  refine HA.out.mono ?_
  intro e w1 hd1
  obtain ⟨A1, c1, g, rfl, hc1, gg, hn1, b1⟩ := drawn_of hd1
  have HNI := Lib.hid (fun w (h : Gr w A1 g) s => implNext_any A1 c1 g s w h (by omega))
  have HPI := Lib.hid (fun w (h : Gr w A1 g) s => implPrev_any A1 c1 g s w h (by omega))
  have HB1 := Lib.hid b1
  obtain ⟨cv, hcv⟩ : ∃ cv, cv = countVal g := ⟨_, rfl⟩
  have hCI := fun w (h : Gr w A1 g) => implCount_any A1 c1 g w h (by omega)
  have hCS := fun w (h : Gr w A1 g) => specCount_any A1 c1 g w h (by omega) hc1
  have hRI := fun w (h : Gr w A1 g) => implReached_any A1 c1 g w h (by omega)
  simp only [← hcv] at hCI hCS
  have HCI := Lib.hid hCI
  have HCS := Lib.hid hCS
  have HCV := Lib.hid hcv
  clear hd1 b1 hCI hCS hcv
  go_wp2_with fail
  refine (HCI.out w1 gg).mono ?_
  rintro e w2 ⟨rfl, b2⟩
  have gg2 := gg.below b2
  have HB2 := Lib.hid (below_trans_self HB1.out b2)
  clear b2
  go_wp2_with fail
  refine (HCS.out w2 gg2).mono ?_
  rintro e w3 ⟨rfl, b3⟩
  have gg3 := gg2.below b3
  have HB3 := Lib.hid (below_trans_self HB2.out b3)
  clear b3
  by_cases hv : validB g = true
  · obtain ⟨r, hr⟩ : ∃ r, r = reachV g := ⟨_, rfl⟩
    rw [hv] at hRI
    simp only [← hr] at hRI
    have HRI := Lib.hid hRI
    have hr2 : r = namesAt g (reachS g) := hr.trans (reachV_yes hv)
    have hrz : r.size = (reachS g).length := by rw [hr2, namesAt_size hv _ (reachS_lt g)]
    have HR := Lib.hid hr2
    have HV := Lib.hid hv
    have hcn : cv = (nexts g : Int) := HCV.out.trans (countVal_yes hv)
    have n1 := nexts_two hv
    have n2 := sum_reach_le g
    have n3 := reach_sum hv
    have h26 := (valid_iff.1 hv).2.1
    have HCN := Lib.hid hcn
    clear hRI hr hr2 hv hcn
    go_wp2_with fail
    refine (HRI.out w3 gg3).mono ?_
    rintro e w4 ⟨rfl, b4⟩
    have gg4 := gg3.below b4
    have HB4 := Lib.hid (below_trans_self HB3.out b4)
    clear b4
    go_wp2_with fail
    go_loopw [7, 35] (fun j i wr => ∃ k : Nat, k ≤ r.size ∧ i = .int .i64 k ∧ j = .int .i64 (sumL g ((reachS g).take k) : Nat) ∧ Below w.heap.size w wr ∧ Gr wr A1 g) (fun _ i _ => r.size - (intOf i).toNat)
    case atStart => exact ⟨0, Nat.zero_le _, rfl, rfl, HB4.out, gg4⟩
    case round =>
      obtain ⟨k, hk, rfl, rfl, hB, ggr⟩ := hrel
      have hle := sumL_take_le g (reachS g) k
      obtain ⟨sk, hsk⟩ : ∃ sk, sk = sumL g ((reachS g).take k) := ⟨_, rfl⟩
      rw [← hsk] at hle ⊢
      have HSK := Lib.hid hsk
      have HB := Lib.hid hB
      clear hsk hB
      by_cases hlt : k < r.size
      · have hkr : k < (reachS g).length := by omega
        have hk1 : k + 1 ≤ r.size := by omega
        obtain ⟨hil, hcut⟩ := namesAt_cut HV.out (reachS_lt g) hkr
        rw [← HR.out] at hcut
        have hpk := posOf_name HV.out hil
        obtain ⟨t, ht⟩ : ∃ t, t = r.extract k (k + 1) := ⟨_, rfl⟩
        have htg : t = g[(reachS g)[k]].1 := ht.trans hcut
        have hN1 := HNI.out wr ggr t
        have e1 : nextVal g t = g[(reachS g)[k]].2 := by rw [htg]; exact nextVal_some HV.out hpk hil
        have e2 : nextHas g t = true := by rw [htg]; exact nextHas_some HV.out hpk
        have e3 : prevVal g t = namesAt g (prevN g (reachS g)[k] g.length) := by rw [htg, prevVal_some HV.out hpk, prevs_all HV.out hil]
        obtain ⟨o, ho⟩ : ∃ o, o = g[(reachS g)[k]].2 := ⟨_, rfl⟩
        obtain ⟨bk, hbk⟩ : ∃ bk, bk = namesAt g (prevN g (reachS g)[k] g.length) := ⟨_, rfl⟩
        rw [e1, e2, ← ho] at hN1
        have hP1 := fun w h => HPI.out w h t
        simp only [e3, e2, ← hbk] at hP1
        have hoz : o.size ≤ 2 := by rw [ho]; exact (nextB_iff.1 (nextsB_iff.1 (valid_iff.1 HV.out).2.2.2 _ hil)).1
        have hbz : bk.size = (prevN g (reachS g)[k] g.length).length := by rw [hbk, namesAt_size HV.out _ (prevN_lt (Nat.le_refl _))]
        have hstep : sumL g ((reachS g).take (k + 1)) = sk + o.size := by rw [sumL_take_succ g _ hkr, ← HSK.out, nxt_length hil, ← ho]
        have hle2 := sumL_take_le g (reachS g) (k + 1)
        rw [hstep] at hle2
        have hpos : 0 < k → 0 < bk.size := fun h => by rw [hbz]; exact prev_some HV.out hkr h
        rw [ht] at hN1 hP1
        have HN1 := Lib.hid hN1
        have HP1 := Lib.hid hP1
        have HST := Lib.hid hstep
        have HPOS := Lib.hid hpos
        clear hN1 hP1 hcut hpk ht htg e1 e2 e3 ho hbk hbz hstep hpos
        go_wp2_with fail
        refine HN1.out.mono ?_
        rintro e v1 ⟨rfl, d1⟩
        have gv1 := ggr.below d1
        have HD1 := Lib.hid (HB.out.trans (d1.mono HB.out.size))
        clear d1
        go_wp2_with fail
        refine (HP1.out v1 gv1).mono ?_
        rintro e v2 ⟨rfl, d2⟩
        have gv2 := gv1.below d2
        have HD2 := Lib.hid (HD1.out.trans (d2.mono HD1.out.size))
        clear d2
        by_cases hk0 : k = 0
        · subst hk0
          go_wp2_with fail
          go_roundw
          case rel => exact ⟨1, by omega, by go_num, by rw [HST.out]; go_num, HD2.out, gv2⟩
          case measure => simp [intOf]; omega
        · have q1 := beq_empty (HPOS.out (by omega))
          have q0 : 0 < k := by omega
          go_wp2_with fail
          go_roundw
          case rel => exact ⟨k + 1, by omega, by go_num, by rw [HST.out]; go_num, HD2.out, gv2⟩
          case measure => simp [intOf]; omega
      · have hke : (reachS g).take k = reachS g := List.take_of_length_le (by omega)
        have hsk2 : sk = sumL g (reachS g) := by rw [HSK.out, hke]
        have hcv2 := HCN.out
        clear hke
        go_wp2_with fail
        go_ret
        exact ⟨ret_bool (decide_eq_true (by omega)), HB.out⟩
  · have hv' : validB g = false := by simpa using hv
    have hr := reachV_no hv'
    rw [hv', hr] at hRI
    have HRI := Lib.hid hRI
    have hcn : cv = -1 := HCV.out.trans (countVal_no hv')
    clear hRI hv hv' hr
    go_wp2_with fail
    refine (HRI.out w3 gg3).mono ?_
    rintro e w4 ⟨rfl, b4⟩
    go_wp2_with fail
    go_ret
    exact ⟨rfl, below_trans_self HB3.out b4⟩
end Go.Proofs.Ytimgkjlhahapnaa
