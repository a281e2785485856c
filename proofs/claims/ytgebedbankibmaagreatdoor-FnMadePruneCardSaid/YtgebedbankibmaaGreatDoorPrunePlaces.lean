import Derived.Test.YtgebedbankibmaaGreatDoorReachedNodes
import Derived.Test.YtgebedbankibmaaGreatDoorSpecReached
import Derived.Test.YtgebedbankibmaaGreatDoorExtra
import Derived.Test.YtgebedbankibmaaGreatDoorSpecDom
import Derived.Test.YtgebedbankibmaaGreatDoorLoopMath
/-
  Contract of the program's ReachedOf.
-/
namespace Go.Proofs.YtgebedbankibmaaGreatDoor
open Go.RowKit Go.Sort

theorem reachS_lt (g : List Bl) : ∀ i ∈ reachS g, i < g.length := srt_lt (g := g) (l := reach g) (Nat.le_refl _)

end Go.Proofs.YtgebedbankibmaaGreatDoor

/-
  Contract of the program's PruneGraph.
-/
namespace Go.Proofs.YtgebedbankibmaaGreatDoor
open Go.RowKit Go.Sort

/-- What PruneGraph leaves of a graph. -/
def pruneG (g : List Bl) : List Bl := (reachS g).map fun i => (nthName g i, nthNext g i)

theorem pruneG_length (g : List Bl) : (pruneG g).length = (reachS g).length := by simp [pruneG]
theorem pruneG_at {g : List Bl} {k x : Nat} (hk : k < (reachS g).length) (hx : (reachS g)[k] = x) (hxl : x < g.length) : (pruneG g)[k]'(by rw [pruneG_length]; exact hk) = g[x] := by
  subst hx
  simp only [pruneG, List.getElem_map]
  rw [nthName_at hxl, nthNext_at hxl]

def PrunePost (g : List Bl) (w : World) (e : Ending) (w' : World) : Prop :=
  ∃ B, w.heap.size ≤ B ∧ e = .returned (.tuple #[.slice (some ⟨B, 0, none⟩) (pruneG g).length (pruneG g).length, .bool true]) ∧ OwnGr w' B (pruneG g) ∧ Below w.heap.size w w'

set_option maxRecDepth 100000 in
set_option maxHeartbeats 1600000 in
theorem implPrune_yes (A : Option Addr) (cap : Nat) (g : List Bl) (w : World) (hg : Gr w A g) (hn : g.length + tot g ≤ 1048576) (hv : validB g = true) :
    Calls Tryz.prog 13 #[.slice A g.length cap] w (PrunePost g w) := by
  have HC := Lib.hid (reachedNodes_yes A cap g w hg hn hv)
  have hle : (reachS g).length ≤ 26 := by have := srt_len g (reach g) g.length; rw [← reachS_srt] at this; have := (valid_iff.1 hv).2.1; omega
  have HG := Lib.hid hg
  have hmk := run_make_blocks (reachS g).length (by omega)
  obtain ⟨n, hnn⟩ : ∃ n, n = (reachS g).length := ⟨_, rfl⟩
  rw [← hnn] at hle hmk
  have HPL := Lib.hid (show (pruneG g).length = n by rw [pruneG_length, hnn])
  have HN := Lib.hid hnn
  clear hv hg hnn
  go_enter Tryz.func13, Tryz.ntmps13
  go_wp2_with fail
  refine HC.out.mono ?_
  rintro e w1 ⟨NB, A1, cap1, hNB, rfl, hp, hnodes, b1⟩
  rw [← HN.out]
  have HP := Lib.hid hp
  have HND := Lib.hid hnodes
  have HB1 := Lib.hid b1
  have hs1 := b1.size
  clear hp hnodes b1 HC
  go_wp2_with fail
  clear hmk
  go_loopw [21] (fun i wr => ∃ k : Nat, k ≤ n ∧ i = .int .i64 k ∧ (∃ cs, Blk wr w1.heap.size 56 cs ∧ Filled cs (pruneG g) k) ∧ Below w1.heap.size w1 wr) (fun i _ => n - (intOf i).toNat)
  case atStart => exact ⟨0, Nat.zero_le _, rfl, ⟨_, Blk.new _ _ _, by rw [HPL.out]; exact size_madeCells _ _, fun j hj h => absurd h (by omega)⟩, (Below.refl _ _).alloc (Nat.le_refl _) _⟩
  case round =>
    obtain ⟨k, hk, rfl, ⟨cs, hblk, hf⟩, hB⟩ := hrel
    by_cases hlt : k < n
    · have hkr : k < (reachS g).length := by rw [← HN.out]; exact hlt
      obtain ⟨x, hx⟩ : ∃ x, x = (reachS g)[k] := ⟨_, rfl⟩
      have hxl : x < g.length := hx ▸ reachS_lt g _ (List.getElem_mem hkr)
      have hpts := HP.out.below hB
      obtain ⟨pb, po, rfl, hpb, hpc⟩ := hpts (by rw [nodesAt_length]; omega)
      obtain ⟨hp0, hpx, hpy⟩ := hpc k (by rw [nodesAt_length]; exact hkr)
      have hp0' : wr.cell? ⟨pb, po + k, none⟩ = some (.pointer (some ⟨nb NB x, 0, none⟩)) := by rw [hp0]; simp [nodesAt, hx]
      have hi0 : wr.cell? ⟨nb NB x, 0, none⟩ = some (.int .i64 x) := by have := ((HND.out.below hB) x hxl).cell 0; simpa using this
      obtain ⟨b, off, s, t, hA, hb, hc0, hc1, he, he2⟩ := gr_at (HG.out.below (below_trans_self HB1.out hB)) hxl
      have hkp : k < (pruneG g).length := by rw [HPL.out]; exact hlt
      have HPX : Hid ((pruneG g)[k]'hkp = g[x]) := pruneG_at hkr hx.symm hxl
      have HE := Lib.hid he
      have HE2 := Lib.hid he2
      have HF := Lib.hid hf
      have hsz := hf.1
      rw [HPL.out] at hsz
      obtain ⟨v0, x0⟩ := hblk.some_cell (i := k * 2) (by omega)
      obtain ⟨v1, x1⟩ := hblk.some_cell (i := k * 2 + 1) (by omega)
      have f0 := hblk.frozen (k * 2)
      have f1 := hblk.frozen (k * 2 + 1)
      have HBK := Lib.hid hblk
      subst hA
      clear hp0 hpx hpy hpc hpts hx hkr he he2 hf hblk hsz
      go_wp2_with fail
      go_roundw
      case rel => exact ⟨k + 1, by omega, by go_num, ⟨_, (HBK.out.set_ _ _).set_ _ _, HF.out.step hkp (by rw [HPX.out]; exact HE.out) (by rw [HPX.out]; exact HE2.out)⟩, (hB.setCell (p := ⟨w1.heap.size, k * 2, none⟩) (Nat.le_refl _) _).setCell (p := ⟨w1.heap.size, k * 2 + 1, none⟩) (Nat.le_refl _) _⟩
      case measure => simp [intOf]; omega
    · have HF := Lib.hid hf
      have HBK := Lib.hid hblk
      have HBF := Lib.hid (below_trans_self HB1.out hB)
      clear hf hblk hB
      go_wp2_with fail
      exact bodyPost_ret (v := .tuple #[.slice (some ⟨w1.heap.size, 0, none⟩) n n, .bool true]) (by simp [results, Tryz.results13, go_sem]) rfl ⟨w1.heap.size, hs1, by rw [HPL.out], ⟨cs, _, HBK.out, fun j hj => HF.out.2 j hj (by rw [HPL.out] at hj; omega)⟩, HBF.out⟩

theorem implPrune_no (A : Option Addr) (cap : Nat) (g : List Bl) (w : World) (hg : Gr w A g) (hn : g.length + tot g ≤ 1048576) (hv : validB g = false) :
    Calls Tryz.prog 13 #[.slice A g.length cap] w fun e w' => e = .returned (.tuple #[.slice none 0 0, .bool false]) ∧ Below w.heap.size w w' := by
  have HC := Lib.hid (reachedNodes_no A cap g w hg hn hv)
  clear hv
  go_enter Tryz.func13, Tryz.ntmps13
  go_wp2_with fail
  refine HC.out.mono ?_
  rintro e w1 ⟨rfl, b1⟩
  go_wp2_with fail
  exact bodyPost_ret (v := .tuple #[.slice none 0 0, .bool false]) (by simp [results, Tryz.results13, go_sem]) rfl ⟨rfl, b1⟩
end Go.Proofs.YtgebedbankibmaaGreatDoor

/-
  What PruneGraph leaves of a graph: plain facts.
-/
namespace Go.Proofs.YtgebedbankibmaaGreatDoor
open Go.RowKit Go.Sort

/-- What a block that can be come to goes on to can be come to. -/
theorem reach_closed {g : List Bl} (hv : validB g = true) {i t : Nat} (hi : i ∈ reach g) (ht : t ∈ nxt g i) : t ∈ reach g := by
  obtain ⟨k, hk, e⟩ := List.getElem_of_mem hi
  have hlen := reach_len hv
  have hkb : k < (bfs g k).length := by
    rcases Nat.lt_or_ge k (bfs g k).length with h | h
    · exact h
    · have := bfs_more h (g.length - k)
      rw [show k + (g.length - k) = g.length by omega] at this
      unfold reach at hk
      rw [this] at hk
      omega
  have hg := bfs_get (g := g) (k := k) (by omega) hkb
  have he : (bfs g k)[k] = i := by
    have h1 : ((bfs g k).take (k + 1))[k]? = ((reach g).take (k + 1))[k]? := by rw [hg]
    rw [List.getElem?_take_of_lt (by omega), List.getElem?_take_of_lt (by omega), List.getElem?_eq_getElem hkb, List.getElem?_eq_getElem hk, e] at h1
    exact Option.some.inj h1
  have hs := bfs_step hkb
  rw [he] at hs
  have hm : t ∈ bfs g (k + 1) := by rw [hs]; exact (stepL_mem _ _ _).2 (.inr ht)
  exact (bfs_reach (g := g) (k := k + 1) (by omega)).subset hm

theorem reachS_closed {g : List Bl} (hv : validB g = true) {i t : Nat} (hi : i ∈ reachS g) (ht : t ∈ nxt g i) : t ∈ reachS g := by
  have key : ∀ j, j ∈ reachS g ↔ j ∈ reach g := fun j => by
    rw [reachS_srt]; unfold srt
    rw [List.mem_filter, List.mem_range]
    constructor
    · rintro ⟨_, h⟩; simpa using h
    · intro h; exact ⟨reach_lt hv h, by simpa using h⟩
  exact (key t).2 (reach_closed hv ((key i).1 hi) ht)

/-- The names of what is left are those of the blocks that are reached. -/
theorem names_prune (g : List Bl) : ∀ l : List Nat, names (l.map fun i => (nthName g i, nthNext g i)) = namesAt g l
  | [] => rfl
  | i :: l => by
    have ih := names_prune g l
    simp only [List.map_cons, namesAt]
    rw [← ih]
    rfl

theorem reachS_in {g : List Bl} (hv : validB g = true) (j : Nat) : j ∈ reachS g ↔ j ∈ reach g := by
  rw [reachS_srt]; unfold srt
  rw [List.mem_filter, List.mem_range]
  constructor
  · rintro ⟨_, h⟩; simpa using h
  · intro h; exact ⟨reach_lt hv h, by simpa using h⟩

theorem reachS_sep (g : List Bl) : (reachS g).Nodup := by
  rw [reachS_srt]; unfold srt
  exact List.Pairwise.filter _ List.nodup_range

theorem reachS_zero {g : List Bl} (hv : validB g = true) : 0 ∈ reachS g := by
  rw [reachS_in hv]
  exact (bfs_reach (g := g) (k := 0) (by omega)).subset (by simp [bfs])

theorem prune_names (g : List Bl) (k : Nat) : names ((pruneG g).take k) = namesAt g ((reachS g).take k) := by
  unfold pruneG
  rw [← List.map_take, names_prune]

theorem prune_names_all (g : List Bl) : names (pruneG g) = namesAt g (reachS g) := names_prune g _

theorem prune_valid {g : List Bl} (hv : validB g = true) : validB (pruneG g) = true := by
  have hle : (reachS g).length ≤ 26 := by have := srt_len g (reach g) g.length; rw [← reachS_srt] at this; have := (valid_iff.1 hv).2.1; omega
  have h0 : 0 < (reachS g).length := List.length_pos_of_mem (reachS_zero hv)
  refine valid_iff.2 ⟨by rw [pruneG_length]; exact h0, by rw [pruneG_length]; exact hle, newsB_iff.2 fun k hk => ?_, nextsB_iff.2 fun k hk => ?_⟩
  all_goals
    have hkr : k < (reachS g).length := by rw [← pruneG_length]; exact hk
    have hxl : (reachS g)[k] < g.length := reachS_lt g _ (List.getElem_mem hkr)
    have hP := pruneG_at hkr rfl hxl
    rw [hP]
  · have hn := newsB_iff.1 (valid_iff.1 hv).2.2.1 _ hxl
    obtain ⟨c, hc, _⟩ := valid_one hv (List.getElem_mem hxl)
    unfold newB at hn ⊢
    rw [(Bool.and_eq_true_iff.1 hn).1, Bool.true_and, prune_names, hc]
    simp only [Bool.not_eq_true']
    rw [Bool.eq_false_iff]
    intro h
    have hm : c ∈ (namesAt g ((reachS g).take k)).data.toList := by simpa using h
    obtain ⟨i, hi, hci⟩ := mem_namesAt.1 hm
    obtain ⟨j, hj, hji⟩ := List.getElem_of_mem hi
    have hjk : j < k := by simp at hj; omega
    have hjl : j < (reachS g).length := by omega
    have hji' : (reachS g)[j] = i := by rw [← hji]; simp
    have hil : i < g.length := hji' ▸ reachS_lt g _ (List.getElem_mem hjl)
    obtain ⟨d, hd, _⟩ := valid_one hv (List.getElem_mem hil)
    rw [nthName_at hil, hd] at hci
    have hcd : c = d := by simpa using hci
    have := name_inj hv hil hxl (by rw [hd, hc, hcd])
    rw [← hji'] at this
    have := (List.getElem_inj (reachS_sep g)).1 this
    omega
  · have hn := nextB_iff.1 (nextsB_iff.1 (valid_iff.1 hv).2.2.2 _ hxl)
    refine nextB_iff.2 ⟨hn.1, fun j hj => ?_, hn.2.2⟩
    obtain ⟨t, htl, hget, _, hnm⟩ := nxt_get hv hxl hj
    rw [idx_mem, prune_names_all]
    refine mem_namesAt.2 ⟨t, reachS_closed hv (List.getElem_mem hkr) (List.mem_of_getElem? hget), ?_⟩
    rw [nthName_at htl, hnm]
    simp

/-- The search finds no more than any set that is closed. -/
theorem reach_least {g : List Bl} (S : Nat → Prop) (h0 : S 0) (hc : ∀ i t, S i → t ∈ nxt g i → S t) : ∀ i, i ∈ reach g → S i := by
  have key : ∀ k, ∀ i ∈ bfs g k, S i := by
    intro k
    induction k with
    | zero => intro i hi; simp [bfs] at hi; subst hi; exact h0
    | succ k ih =>
      intro i hi
      by_cases h : k < (bfs g k).length
      · rw [bfs_step h] at hi
        rcases (stepL_mem _ _ _).1 hi with h1 | h1
        · exact ih i h1
        · exact hc _ _ (ih _ (List.getElem_mem h)) h1
      · rw [bfs_stay (by omega)] at hi
        exact ih i hi
  exact key _

theorem prune_name {g : List Bl} {j t : Nat} (hj : j < (reachS g).length) (e : (reachS g)[j] = t) (ht : t < g.length) : ∃ h : j < (pruneG g).length, (pruneG g)[j] = g[t] :=
  ⟨by rw [pruneG_length]; exact hj, pruneG_at hj e ht⟩

/-- To what goes a block of what is left: as before, by the new numbers. -/
theorem prune_nxt {g : List Bl} (hv : validB g = true) {k x t : Nat} (hk : k < (reachS g).length) (e : (reachS g)[k] = x) (ht : t ∈ nxt g x) : ∃ j, ∃ hj : j < (reachS g).length, (reachS g)[j] = t ∧ j ∈ nxt (pruneG g) k := by
  have hxl : x < g.length := e ▸ reachS_lt g _ (List.getElem_mem hk)
  have htl := nxt_lt hv hxl ht
  have htr := reachS_closed hv (e ▸ List.getElem_mem hk) ht
  obtain ⟨j, hj, hjt⟩ := List.getElem_of_mem htr
  obtain ⟨hk', hkx⟩ := prune_name hk e hxl
  obtain ⟨hj', hjx⟩ := prune_name hj hjt htl
  obtain ⟨c, hc, _⟩ := valid_one hv (List.getElem_mem htl)
  refine ⟨j, hj, hjt, ?_⟩
  rw [nxt_mem (prune_valid hv) hk' hj' (c := c) (by rw [hjx, hc]), hkx]
  exact (nxt_mem hv hxl htl hc).1 ht

theorem reachS_first {g : List Bl} (hv : validB g = true) : ∃ h : 0 < (reachS g).length, (reachS g)[0] = 0 := by
  have h0 := reachS_zero hv
  have hp := List.length_pos_of_mem h0
  refine ⟨hp, ?_⟩
  have hpos := (valid_iff.1 hv).1
  obtain ⟨m, hm⟩ : ∃ m, g.length = m + 1 := ⟨g.length - 1, by omega⟩
  have h0r := (reachS_in hv 0).1 h0
  have : reachS g = 0 :: ((List.range' 1 m).filter fun i => decide (i ∈ reach g)) := by
    rw [reachS_srt]; unfold srt
    rw [hm, List.range_eq_range', List.range'_succ, List.filter_cons, if_pos (by simpa using h0r)]
  simp only [this, List.getElem_cons_zero]

/-- All that is left can be come to. -/
theorem prune_reach {g : List Bl} (hv : validB g = true) {j : Nat} (hj : j < (reachS g).length) : j ∈ reach (pruneG g) := by
  have hPv := prune_valid hv
  obtain ⟨hz, h0⟩ := reachS_first hv
  have hS := reach_least (g := g) (fun i => ∃ j, ∃ hj : j < (reachS g).length, (reachS g)[j] = i ∧ j ∈ reach (pruneG g))
    ⟨0, hz, h0, (reachS_in hPv 0).1 (reachS_zero hPv)⟩
    (fun i t ⟨k, hk, e, hkr⟩ ht => by
      obtain ⟨j, hj, e2, hjn⟩ := prune_nxt hv hk e ht
      exact ⟨j, hj, e2, reach_closed hPv hkr hjn⟩)
  obtain ⟨j', hj', e, hr⟩ := hS _ ((reachS_in hv _).1 (List.getElem_mem hj))
  have := (List.getElem_inj (reachS_sep g)).1 e
  subst this
  exact hr

theorem prune_reachS {g : List Bl} (hv : validB g = true) : reachS (pruneG g) = List.range (pruneG g).length := by
  rw [reachS_srt]; unfold srt
  refine List.filter_eq_self.2 fun i hi => ?_
  have := List.mem_range.1 hi
  rw [pruneG_length] at this
  simpa using prune_reach hv this

end Go.Proofs.YtgebedbankibmaaGreatDoor

/-
  Which blocks are left when blocks are left out, and how they go on: plain facts.
-/
namespace Go.Proofs.YtgebedbankibmaaGreatDoor
open Go.RowKit Go.Sort

/-- Which block of a graph is the j-th that is left. -/
def rho (g : List Bl) (j : Nat) : Nat := (reachS g).getD j 0

section
variable {g : List Bl}

theorem rho_at {j : Nat} (hj : j < (reachS g).length) : rho g j = (reachS g)[j] := by unfold rho; rw [List.getD_eq_getElem?_getD, List.getElem?_eq_getElem hj]; rfl
theorem rho_mem {j : Nat} (hj : j < (reachS g).length) : rho g j ∈ reachS g := by rw [rho_at hj]; exact List.getElem_mem hj
theorem rho_lt {j : Nat} (hj : j < (reachS g).length) : rho g j < g.length := reachS_lt g _ (rho_mem hj)
theorem rho_of {t : Nat} (ht : t ∈ reachS g) : ∃ j, j < (reachS g).length ∧ rho g j = t := by
  obtain ⟨j, hj, e⟩ := List.getElem_of_mem ht
  exact ⟨j, hj, by rw [rho_at hj, e]⟩
theorem rho_inj {i j : Nat} (hi : i < (reachS g).length) (hj : j < (reachS g).length) (h : rho g i = rho g j) : i = j := by
  rw [rho_at hi, rho_at hj] at h
  exact (List.getElem_inj (reachS_sep g)).1 h

theorem prune_at {j : Nat} (hj : j < (reachS g).length) : ∃ h : j < (pruneG g).length, (pruneG g)[j] = g[rho g j]'(rho_lt hj) :=
  ⟨by rw [pruneG_length]; exact hj, pruneG_at hj (rho_at hj).symm (rho_lt hj)⟩

theorem prune_name' {j : Nat} (hj : j < (reachS g).length) : nthName (pruneG g) j = nthName g (rho g j) := by
  obtain ⟨h, e⟩ := prune_at hj
  rw [nthName_at h, nthName_at (rho_lt hj), e]

theorem prune_nxts (hv : validB g = true) {j : Nat} (hj : j < (reachS g).length) : (nxt (pruneG g) j).map (rho g) = nxt g (rho g j) := by
  obtain ⟨h, e⟩ := prune_at hj
  have hx := rho_lt hj
  have hpv := prune_valid hv
  unfold nxt
  rw [nthNext_at h, nthNext_at hx, e, List.map_map]
  refine List.map_congr_left fun c hc => ?_
  obtain ⟨k, hk, ec⟩ := List.getElem_of_mem hc
  have hk' : k < (g[rho g j]'hx).2.size := by rw [← list_of_size]; exact hk
  obtain ⟨t, ht, hget, hpos, hn⟩ := nxt_get hv hx hk'
  have hb : (g[rho g j]'hx).2[k]'hk' = c := by
    have h1 := byte_at (g[rho g j]'hx).2 k hk'
    rw [List.getElem?_eq_getElem hk, ec] at h1
    exact (Option.some.inj h1).symm
  rw [hb] at hpos hn
  have htr : t ∈ reachS g := reachS_closed hv (rho_mem hj) (List.mem_of_getElem? hget)
  obtain ⟨j', hj', ej⟩ := rho_of htr
  obtain ⟨h', e'⟩ := prune_at hj'
  have hnm : (pruneG g)[j'].1 = ⟨#[c]⟩ := by
    rw [e']
    have : g[rho g j']'(rho_lt hj') = g[t] := by congr 1
    rw [this, hn]
  have hpp : posOf (pruneG g) ⟨#[c]⟩ = some j' := by rw [← hnm]; exact posOf_name hpv h'
  simp only [Function.comp, hpp, hpos, Option.getD_some, ej]

theorem prune_lt (hv : validB g = true) {j t : Nat} (hj : j < (reachS g).length) (ht : t ∈ nxt (pruneG g) j) : t < (reachS g).length := by
  have := nxt_lt (prune_valid hv) (by rw [pruneG_length]; exact hj) ht
  rwa [pruneG_length] at this

theorem rho_zero (hv : validB g = true) : rho g 0 = 0 ∧ 0 < (reachS g).length := by
  obtain ⟨h, e⟩ := reachS_first hv
  exact ⟨by rw [rho_at h, e], h⟩

end
end Go.Proofs.YtgebedbankibmaaGreatDoor

/-
  Contracts of the model: the text of the tree, the frontier, where two lines part.
-/
namespace Go.Proofs.YtgebedbankibmaaGreatDoor
open Go.RowKit Go.Sort

end Go.Proofs.YtgebedbankibmaaGreatDoor

/-
  What is left when blocks are left out has the same way order, the same dominators and the same tree: plain facts.
-/
namespace Go.Proofs.YtgebedbankibmaaGreatDoor

/-- More fuel finds nothing more. -/
theorem visit_more {g : List Bl} (hv : validB g = true) : ∀ (m i : Nat) (s d : List Nat), i ∉ s → Rch g [] i → Seen g s → g.length ≤ m + s.length → (∀ x ∈ d, x < g.length) → d.length ≤ s.length →
    visit (nxt g) (m + 1) i (s, d) = visit (nxt g) m i (s, d)
  | 0, i, s, d, hi, hr, hs, hm, _, _ => by
    have := (hs.snoc (hr.lt hv) hi).len
    simp at this; omega
  | m + 1, i, s, d, hi, hr, hs, hm, hd, hl => by
    have ih := visit_more hv m
    have inner : ∀ (ts s1 d1 : List Nat), (∀ t ∈ ts, t ∈ nxt g i) → Seen g s1 → g.length ≤ m + s1.length → (∀ x ∈ d1, x < g.length) → d1.length ≤ s1.length →
        visits (nxt g) (m + 1) (s1, d1) ts = visits (nxt g) m (s1, d1) ts := by
      intro ts
      induction ts with
      | nil => intros; rfl
      | cons t ts iht =>
        intro s1 d1 hts h1 hm1 hd1 hl1
        rw [visits_cons, visits_cons]
        by_cases ht : t ∈ s1
        · rw [if_pos ht, if_pos ht]; exact iht s1 d1 (fun x hx => hts x (List.mem_cons_of_mem _ hx)) h1 hm1 hd1 hl1
        · rw [if_neg ht, if_neg ht]
          have htr : Rch g [] t := .step hr (hts t (by simp)) (by simp)
          rw [ih t s1 d1 ht htr h1 hm1 hd1 hl1]
          have G := visit_gone hv (m := m) ht htr h1 hm1 hd1 hl1
          exact iht _ _ (fun x hx => hts x (List.mem_cons_of_mem _ hx)) G.ok (by have := G.pre.length_le; omega) G.lt G.len
    rw [visit_succ, visit_succ, inner _ (s ++ [i]) d (fun t ht => List.mem_reverse.1 ht) (hs.snoc (hr.lt hv) hi) (by simp; omega) hd (by simp; omega)]

theorem visit_fuel {g : List Bl} (hv : validB g = true) : ∀ k, visit (nxt g) (g.length + k) 0 ([], []) = visit (nxt g) g.length 0 ([], [])
  | 0 => rfl
  | k + 1 => by
    rw [← visit_fuel hv k]
    exact visit_more hv (g.length + k) 0 [] [] (by simp) (.start (by simp)) ⟨.nil, by simp⟩ (by simp) (by simp) (by simp)

section
variable {g : List Bl}

theorem visit_map (hv : validB g = true) : ∀ (m i : Nat) (s d : List Nat), i < (reachS g).length → (∀ x ∈ s, x < (reachS g).length) →
    visit (nxt g) m (rho g i) (s.map (rho g), d.map (rho g)) = ((visit (nxt (pruneG g)) m i (s, d)).1.map (rho g), (visit (nxt (pruneG g)) m i (s, d)).2.map (rho g)) ∧ ∀ x ∈ (visit (nxt (pruneG g)) m i (s, d)).1, x < (reachS g).length
  | 0, _, _, _, _, hs => ⟨rfl, hs⟩
  | m + 1, i, s, d, hi, hs => by
    have ih := visit_map hv m
    have inner : ∀ (ts s1 d1 : List Nat), (∀ t ∈ ts, t < (reachS g).length) → (∀ x ∈ s1, x < (reachS g).length) →
        visits (nxt g) m (s1.map (rho g), d1.map (rho g)) (ts.map (rho g)) = ((visits (nxt (pruneG g)) m (s1, d1) ts).1.map (rho g), (visits (nxt (pruneG g)) m (s1, d1) ts).2.map (rho g)) ∧ ∀ x ∈ (visits (nxt (pruneG g)) m (s1, d1) ts).1, x < (reachS g).length := by
      intro ts
      induction ts with
      | nil => intro s1 d1 _ h1; exact ⟨rfl, h1⟩
      | cons t ts iht =>
        intro s1 d1 hts h1
        have htl := hts t (by simp)
        have hm : rho g t ∈ s1.map (rho g) ↔ t ∈ s1 := by
          rw [List.mem_map]
          exact ⟨fun ⟨x, hx, e⟩ => rho_inj (h1 x hx) htl e ▸ hx, fun h => ⟨t, h, rfl⟩⟩
        rw [List.map_cons, visits_cons, visits_cons]
        by_cases ht : t ∈ s1
        · rw [if_pos ht, if_pos (hm.2 ht)]
          exact iht s1 d1 (fun x hx => hts x (List.mem_cons_of_mem _ hx)) h1
        · rw [if_neg ht, if_neg fun h => ht (hm.1 h)]
          obtain ⟨e, hl⟩ := ih t s1 d1 htl h1
          rw [e]
          exact iht _ _ (fun x hx => hts x (List.mem_cons_of_mem _ hx)) hl
    have hn : (nxt g (rho g i)).reverse = ((nxt (pruneG g) i).reverse).map (rho g) := by rw [← prune_nxts hv hi, List.map_reverse]
    obtain ⟨e, hl⟩ := inner (nxt (pruneG g) i).reverse (s ++ [i]) d (fun t ht => prune_lt hv hi (List.mem_reverse.1 ht)) (fun x hx => by
      rcases List.mem_append.1 hx with hx | hx
      · exact hs x hx
      · rw [List.mem_singleton.1 hx]; exact hi)
    rw [List.map_append] at e
    rw [visit_succ, visit_succ, hn]
    have e' : visits (nxt g) m (s.map (rho g) ++ [rho g i], d.map (rho g)) (((nxt (pruneG g) i).reverse).map (rho g)) = _ := e
    rw [e']
    exact ⟨rfl, hl⟩

/-- The way order of what is left. -/
theorem prune_order (hv : validB g = true) : wayOrd g = (wayOrd (pruneG g)).map (rho g) := by
  have hpv := prune_valid hv
  have hle : (pruneG g).length ≤ g.length := by
    rw [pruneG_length]; unfold reachS
    have := List.length_filter_le (fun i => decide (i ∈ reach g)) (List.range g.length)
    rw [List.length_range] at this
    exact this
  obtain ⟨h0, hpos⟩ := rho_zero hv
  have h1 := (visit_map hv g.length 0 [] [] hpos (by simp)).1
  rw [h0] at h1
  have h2 := visit_fuel hpv (g.length - (pruneG g).length)
  rw [show (pruneG g).length + (g.length - (pruneG g).length) = g.length by omega] at h2
  unfold wayOrd
  rw [← h2]
  exact congrArg (·.2) h1

theorem rch_up (hv : validB g = true) {A : List Nat} (hA : ∀ a ∈ A, a < (reachS g).length) {j : Nat} (h : Rch (pruneG g) A j) : j < (reachS g).length ∧ Rch g (A.map (rho g)) (rho g j) := by
  have out : ∀ j, j < (reachS g).length → j ∉ A → rho g j ∉ A.map (rho g) := fun j hj hn hm => by
    obtain ⟨a, ha, e⟩ := List.mem_map.1 hm
    exact hn (rho_inj (hA a ha) hj e ▸ ha)
  induction h with
  | start ha =>
    obtain ⟨h0, hpos⟩ := rho_zero hv
    refine ⟨hpos, ?_⟩
    have := out 0 hpos ha
    rw [h0] at this ⊢
    exact .start this
  | @step i t _ hn ha ih =>
    have ht := prune_lt hv ih.1 hn
    refine ⟨ht, .step ih.2 ?_ (out t ht ha)⟩
    rw [← prune_nxts hv ih.1]
    exact List.mem_map.2 ⟨t, hn, rfl⟩

theorem rch_down (hv : validB g = true) {A : List Nat} {i : Nat} (h : Rch g (A.map (rho g)) i) : ∃ j, j < (reachS g).length ∧ rho g j = i ∧ Rch (pruneG g) A j := by
  induction h with
  | start ha =>
    obtain ⟨h0, hpos⟩ := rho_zero hv
    exact ⟨0, hpos, h0, .start fun h => ha (List.mem_map.2 ⟨0, h, h0⟩)⟩
  | step _ hn ha ih =>
    obtain ⟨j, hj, rfl, hr⟩ := ih
    rw [← prune_nxts hv hj] at hn
    obtain ⟨u, hu, rfl⟩ := List.mem_map.1 hn
    exact ⟨u, prune_lt hv hj hu, rfl, .step hr hu fun h => ha (List.mem_map.2 ⟨u, h, rfl⟩)⟩

theorem prune_dm (hv : validB g = true) {a b : Nat} (ha : a < (reachS g).length) (hb : b < (reachS g).length) : Dm (pruneG g) a b ↔ Dm g (rho g a) (rho g b) := by
  unfold Dm
  constructor
  · rintro (rfl | h)
    · exact .inl rfl
    · refine .inr fun hr => h ?_
      obtain ⟨j, hj, e, k⟩ := rch_down (A := [a]) hv hr
      exact rho_inj hj hb e ▸ k
  · rintro (h | h)
    · exact .inl (rho_inj ha hb h)
    · exact .inr fun hr => h (rch_up hv (A := [a]) (by simpa using ha) hr).2

theorem prune_dmB (hv : validB g = true) {a b : Nat} (ha : a < (reachS g).length) (hb : b < (reachS g).length) : dmB g (rho g a) (rho g b) = dmB (pruneG g) a b := by
  rw [Bool.eq_iff_iff, dmB_iff hv, dmB_iff (prune_valid hv)]
  exact (prune_dm hv ha hb).symm

theorem order_left (hv : validB g = true) : ∀ a ∈ wayOrd (pruneG g), a < (reachS g).length := fun a ha => by
  have := wayOrd_lt (prune_valid hv) a ha
  rwa [pruneG_length] at this

theorem prune_domL (hv : validB g = true) {n : Nat} (hn : n < (reachS g).length) : domL g (rho g n) = (domL (pruneG g) n).map (rho g) := by
  unfold domL
  rw [prune_order hv, List.filter_map]
  congr 1
  refine List.filter_congr fun a ha => ?_
  exact prune_dmB hv (order_left hv a ha) hn

theorem prune_domL_lt (hv : validB g = true) (n : Nat) : ∀ a ∈ domL (pruneG g) n, a < (reachS g).length := fun a ha => order_left hv a (List.mem_filter.1 ha).1

theorem prune_parL (hv : validB g = true) {n : Nat} (hn : n < (reachS g).length) : parL g (rho g n) = (parL (pruneG g) n).map (rho g) := by
  unfold parL
  rw [prune_domL hv hn, ← List.map_dropLast, List.getLast?_map]

theorem prune_par_lt (hv : validB g = true) {n p : Nat} (h : parL (pruneG g) n = some p) : p < (reachS g).length :=
  prune_domL_lt hv n p (List.dropLast_subset _ (List.mem_of_getLast? h))

theorem reachS_map (hv : validB g = true) : reachS g = (reachS (pruneG g)).map (rho g) := by
  rw [prune_reachS hv, pruneG_length]
  refine List.ext_getElem (by simp) fun i h1 h2 => ?_
  rw [List.getElem_map, List.getElem_range, rho_at h1]

end

section
variable {g : List Bl}

end
end Go.Proofs.YtgebedbankibmaaGreatDoor

namespace Go.Proofs.YtgebedbankibmaaGreatDoor
open Go.RowKit Go.Sort

variable {g : List Bl}


theorem placeIn_map {f : Nat → Nat} {x : Nat} : ∀ {l : List Nat}, (∀ y ∈ l, f y = f x → y = x) → placeIn (l.map f) (f x) = placeIn l x
  | [], _ => rfl
  | y :: l, h => by
    rw [List.map_cons, placeIn_cons, placeIn_cons, placeIn_map fun z hz => h z (List.mem_cons_of_mem _ hz)]
    by_cases e : y = x
    · rw [if_pos e, if_pos (by rw [e])]
    · rw [if_neg e, if_neg fun q => e (h y (by simp) q)]

theorem prune_place (hv : validB g = true) {j : Nat} (hj : j < (reachS g).length) : placeN g (rho g j) = placeN (pruneG g) j := by
  unfold placeN
  rw [prune_order hv]
  exact placeIn_map fun y hy e => rho_inj (order_left hv y hy) hj e

theorem prune_kind (hv : validB g = true) {i t : Nat} (hi : i < (reachS g).length) (ht : t < (reachS g).length) : kindN g (rho g i) (rho g t) = kindN (pruneG g) i t := by
  unfold kindN
  rw [prune_place hv hi, prune_place hv ht, prune_dmB hv ht hi]

def rho2 (g : List Bl) (j : Nat × Nat) : Nat × Nat := (rho g j.1, rho g j.2)

theorem prune_jumps (hv : validB g = true) (K : Nat → Bool) : jumpL g K = (jumpL (pruneG g) K).map (rho2 g) := by
  unfold jumpL
  rw [prune_order hv, List.map_flatMap, List.flatMap_map]
  have : ∀ i ∈ wayOrd (pruneG g), jumpsOf1 g K (rho g i) = (jumpsOf1 (pruneG g) K i).map (rho2 g) := fun i hi => by
    have hil := order_left hv i hi
    unfold jumpsOf1
    rw [← prune_nxts hv hil, List.filter_map, List.map_map, List.map_map]
    have hc : (nxt (pruneG g) i).filter ((fun t => K (kindN g (rho g i) t)) ∘ rho g) = (nxt (pruneG g) i).filter fun t => K (kindN (pruneG g) i t) := List.filter_congr fun t ht => by
      show K (kindN g (rho g i) (rho g t)) = _
      rw [prune_kind hv hil (prune_lt hv hil ht)]
    rw [hc]
    exact List.map_congr_left fun t _ => rfl
  rw [List.flatMap_def, List.flatMap_def, List.map_congr_left this]

theorem prune_src (hv : validB g = true) (K : Nat → Bool) {t : Nat} (ht : t < (reachS g).length) : srcL g K (rho g t) = (srcL (pruneG g) K t).map (rho g) := by
  unfold srcL
  rw [reachS_map hv, List.filter_map]
  congr 1
  refine List.filter_congr fun i hi => ?_
  have hil : i < (reachS g).length := by
    rw [prune_reachS hv, pruneG_length] at hi; exact List.mem_range.1 hi
  show (decide (rho g t ∈ nxt g (rho g i)) && K (kindN g (rho g i) (rho g t))) = _
  rw [prune_kind hv hil ht, ← prune_nxts hv hil]
  congr 1
  rw [decide_eq_decide, List.mem_map]
  constructor
  · rintro ⟨s, hs, e⟩
    rw [← rho_inj (prune_lt hv hil hs) ht e]; exact hs
  · exact fun h => ⟨t, h, rfl⟩

theorem prune_goals (hv : validB g = true) (m : Nat) (K : Nat → Bool) : goalL g m K = (goalL (pruneG g) m K).map (rho g) := by
  unfold goalL
  rw [reachS_map hv, List.filter_map]
  congr 1
  refine List.filter_congr fun t ht => ?_
  have htl : t < (reachS g).length := by
    rw [prune_reachS hv, pruneG_length] at ht; exact List.mem_range.1 ht
  show decide (m ≤ (srcL g K (rho g t)).length) = _
  rw [prune_src hv K htl, List.length_map]

end Go.Proofs.YtgebedbankibmaaGreatDoor
