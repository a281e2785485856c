/-
  Contracts of the program's loopOf: the loop of a header.
-/
import Derived.Test.YtdolbmonmkjajaaGreatOrders
import Derived.Deep.RegionHeld3
import Derived.Test.YtdolbmonmkjajaaGreatLoopMath
namespace Go.Proofs.YtdolbmonmkjajaaGreat
open Go.RowKit Go.Sort Go.Shelf Go.Maps Go.WideMaps Go.Deep

attribute [local go_sem] Oper.semAt_some

section
variable {w w' : World} {WB tb NB MB cap : Nat} {A : Option Addr} {g : List Bl} {B off tcap : Nat} {S : Nat → Nat}

/-- What lies at blocks that are as they were lies there still. -/
theorem OrdAt.keeps (h : OrdAt w WB tb NB MB A cap g B off tcap S) (hs : w.heap.size ≤ w'.heap.size) (hk : ∀ k, k < w.heap.size → w'.heap[k]? = w.heap[k]?) : OrdAt w' WB tb NB MB A cap g B off tcap S := by
  have hc : ∀ (b o : Nat), b < w.heap.size → w'.cell? ⟨b, o, none⟩ = w.cell? ⟨b, o, none⟩ := fun b o hb => World.cell?_of_block (a := ⟨b, o, none⟩) (hk b hb)
  refine ⟨⟨?_, by have := h.tree.lt; omega, fun k hk2 => (hc B (off + k) h.tree.lt).trans (h.tree.row k hk2), h.tree.small, h.tree.sets, fun i hi => (hk _ (h.tree.nodes i hi).lt).trans (h.tree.nodes i hi)⟩,
    (hk _ h.store.lt).trans h.store, fun hp => ?_, h.atTree, h.atList, h.atStore, h.atNode, h.atRow⟩
  · obtain ⟨cs, hb, hr⟩ := h.tree.tree
    exact ⟨cs, (hk _ hb.lt).trans hb, hr⟩
  · obtain ⟨b, o, e, hb, hcc⟩ := h.row hp
    exact ⟨b, o, e, by omega, fun k hk2 => (hc b (o + k) hb).trans (hcc k hk2)⟩
end

theorem nb_ne {NB i h : Nat} (hne : i ≠ h) : (⟨nb NB i, 0, none⟩ : Addr) ≠ ⟨nb NB h, 0, none⟩ := by
  intro e
  injection e with e1 _
  unfold nb at e1
  omega

/-- Where a block stands among some, by their nodes. -/
def idxN (L : List Nat) (i : Nat) : Int := if i ∈ L then (placeIn L i : Int) else -1
theorem idxN_at {L : List Nat} {k : Nat} (hk : k < L.length) (hb : ∀ j (h : j < L.length), j < k → L[j] ≠ L[k]) : idxN L L[k] = k := by
  have hm : L[k] ∈ L := List.getElem_mem hk
  unfold idxN
  rw [if_pos hm]
  have h1 := placeIn_lt hm
  have h2 := placeIn_get hm
  rcases Nat.lt_trichotomy (placeIn L L[k]) k with q | q | q
  · exact absurd h2 (hb _ h1 q)
  · rw [q]
  · have := List.not_of_lt_findIdx (xs := L) (p := fun y => decide (y = L[k])) q
    simp at this
theorem idxN_no {L : List Nat} {i : Nat} (h : i ∉ L) : idxN L i = -1 := by unfold idxN; rw [if_neg h]
theorem idxN_has {L : List Nat} {i : Nat} : decide (0 ≤ idxN L i) = decide (i ∈ L) := by
  unfold idxN
  by_cases h : i ∈ L
  · rw [if_pos h, decide_eq_true h]; simp
  · rw [if_neg h, decide_eq_false h]; rfl

set_option maxRecDepth 100000 in
theorem indexN_any (A : Option Addr) (cap : Nat) (L : List Nat) (NB : Nat) (g : List Bl) (i0 : Nat) (w : World) (hp : PtsI w A NB L) (hn : L.length ≤ 1048576) (hN : NodesIn w NB g) (ha : ∀ i ∈ L, i < g.length) (hi0 : i0 < g.length) :
    Calls Tryz.prog 102 #[.slice A L.length cap, nptr NB i0] w fun e w' => e = .returned (.int .i64 (idxN L i0)) ∧ w = w' := by
  obtain ⟨jt, hjt, hjs⟩ := Option.map_eq_some_iff.1 info_node
  have HI := Lib.hid hi0
  have HN := Lib.hid hN
  have HA := Lib.hid ha
  have HP := Lib.hid hp
  clear hN ha hp
  go_enter Tryz.func102, Tryz.ntmps102
  go_wp2_with fail
  go_loop [8] (fun i => ∃ k : Nat, k ≤ L.length ∧ i = .int .i64 k ∧ Hid (∀ j (h : j < L.length), j < k → L[j] ≠ i0)) (fun i => L.length - (intOf i).toNat)
  case atStart => exact ⟨0, Nat.zero_le _, rfl, fun j _ h => absurd h (by omega)⟩
  case round =>
    obtain ⟨k, hk, rfl, HK⟩ := hrel
    by_cases hlt : k < L.length
    · obtain ⟨b, off, rfl, hb, hc⟩ := HP.out (by omega)
      have x0 := hc k hlt
      obtain ⟨p, hpe⟩ : ∃ p, p = L[k] := ⟨_, rfl⟩
      rw [← hpe] at x0
      have hpl := HA.out p (hpe ▸ List.getElem_mem hlt)
      have HPE := Lib.hid hpe
      clear hpe hc
      by_cases hq : p = i0
      · subst hq
        have HPX := Lib.hid (show idxN L p = k by
          rw [HPE.out]
          exact idxN_at hlt fun j h hj => by rw [← HPE.out]; exact HK.out j h hj)
        have heq := fun w => run_eql_ptr_same (P := Tryz.prog) w ⟨nb NB p, 0, none⟩ Tryz.underlying61 hjt
        go_wp2_with fail
        go_ret
        exact ⟨ret_int HPX.out.symm, rfl⟩
      · have HQ := Lib.hid hq
        have heq := run_eql_ptr_other (P := Tryz.prog) w (a := ⟨nb NB i0, 0, none⟩) (b := ⟨nb NB p, 0, none⟩) Tryz.underlying61 hjt (by rw [hjs]; decide) (nb_ne fun e => hq e.symm) (HN.out i0 HI.out) (HN.out p hpl)
        clear hq
        go_wp2_with fail
        go_round
        case rel =>
          refine ⟨k + 1, by omega, by go_num, fun j h hj => ?_⟩
          rcases Nat.lt_succ_iff_lt_or_eq.1 hj with hj | rfl
          · exact HK.out j h hj
          · rw [← HPE.out]; exact HQ.out
        case measure => simp [intOf]; omega
    · have HPX := Lib.hid (show idxN L i0 = -1 from idxN_no fun hm => by
        obtain ⟨j, hj, e⟩ := List.getElem_of_mem hm
        exact HK.out j hj (by omega) e)
      go_wp2_with fail
      go_ret
      exact ⟨ret_int HPX.out.symm, rfl⟩

theorem containsN_any (A : Option Addr) (cap : Nat) (L : List Nat) (NB : Nat) (g : List Bl) (i0 : Nat) (w : World) (hp : PtsI w A NB L) (hn : L.length ≤ 1048576) (hN : NodesIn w NB g) (ha : ∀ i ∈ L, i < g.length) (hi0 : i0 < g.length) :
    Calls Tryz.prog 65 #[.slice A L.length cap, nptr NB i0] w fun e w' => e = .returned (.bool (decide (i0 ∈ L))) ∧ w = w' := by
  rw [← idxN_has]
  have HC := Lib.hid (indexN_any A cap L NB g i0 w hp hn hN ha hi0)
  clear hp hN ha
  go_enter Tryz.func65, Tryz.ntmps65
  go_wp2_with fail
  refine HC.out.mono ?_
  rintro e w1 ⟨rfl, rfl⟩
  go_wp2_with fail
  go_ret
  exact ⟨rfl, rfl⟩

/-- What follows from a block in a loop, from behind. -/
theorem follows_loop (WB tb NB MB cap h hb wb : Nat) (A : Option Addr) (g : List Bl) (B off tcap : Nat) (S : Nat → Nat) (w : World) (hv : validB g = true)
    (hO : OrdAt w WB tb NB MB A cap g B off tcap S) (hM : KMap w g MB 52 (fun i t => Rch g [] i ∧ t ∈ nxt g i))
    (hw : Boxed w wb 58 (.pointer (some ⟨WB, 0, none⟩))) (hh : Boxed w hb 61 (nptr NB h)) (hhl : h < g.length) :
    Follows (folL g h) NB g (fun k => k < w.heap.size) 101 #[.pointer (some ⟨hb, 0, none⟩), .pointer (some ⟨wb, 0, none⟩)] w where
  enter := enters_of Tryz.func101 (by kernel_rfl) rfl
  goes := by
    intro W i hi hK hNW
    obtain ⟨jt, hjt, hjs⟩ := Option.map_eq_some_iff.1 info_node
    have hKb : ∀ k, k < w.heap.size → W.heap[k]? = w.heap[k]? := fun k hk => hK.2 k hk hk
    have c1 : W.cell? ⟨hb, 0, none⟩ = some (nptr NB h) := (World.cell?_of_block (a := ⟨hb, 0, none⟩) (hKb hb hh.lt)).trans hh.cell
    have c2 : W.cell? ⟨wb, 0, none⟩ = some (.pointer (some ⟨WB, 0, none⟩)) := (World.cell?_of_block (a := ⟨wb, 0, none⟩) (hKb wb hw.lt)).trans hw.cell
    have hO1 := hO.keeps hK.1 hKb
    have hM1 := hM.keep (hKb MB hM.lt)
    have b2 := (Below.refl W.heap.size W).alloc (Nat.le_refl _) (.cells #[.int .i64 0, .int .i64 1, .int .i64 2] 78)
    have k2 : KindsAt (W.alloc (.cells #[.int .i64 0, .int .i64 1, .int .i64 2] 78)) W.heap.size [0, 1, 2] := Blk.new W _ _
    have HS := Lib.hid (sourcesOf_own allK [0, 1, 2] W.heap.size allK_mem (by decide) WB tb NB MB cap A g B off tcap S i _ hv (hO1.below b2) (hM1.keep (b2.block MB hM1.lt)) k2 hi)
    have HB2 := Lib.hid b2
    show Calls Tryz.prog 101 #[nptr NB i, .pointer (some ⟨hb, 0, none⟩), .pointer (some ⟨wb, 0, none⟩)] W _
    clear hO hM hw hh hK hKb hO1 hM1 b2 k2
    by_cases hih : i = h
    · have heq := fun w => run_eql_ptr_same (P := Tryz.prog) w ⟨nb NB h, 0, none⟩ Tryz.underlying61 hjt
      have HE := Lib.hid (show folL g h i = [] by unfold folL; rw [if_pos hih])
      subst hih
      clear hNW hhl hjs
      go_enter Tryz.func101, Tryz.ntmps101
      go_wp2_with fail
      go_ret
      rw [HE.out]
      exact ⟨none, 0, rfl, fun k => absurd k (by simp), fun _ _ k => absurd k (by simp), Below.refl _ _⟩
    · have heq := run_eql_ptr_other (P := Tryz.prog) W (a := ⟨nb NB i, 0, none⟩) (b := ⟨nb NB h, 0, none⟩) Tryz.underlying61 hjt (by rw [hjs]; decide) (nb_ne hih) (hNW i hi) (hNW h hhl)
      have HE := Lib.hid (show folL g h i = srcL g allK i by unfold folL; rw [if_neg hih])
      clear hih hNW hhl hjs
      go_enter Tryz.func101, Tryz.ntmps101
      go_wp2_with fail
      refine HS.out.mono ?_
      rintro e w2 ⟨v, rfl, hown, b2⟩
      obtain ⟨A3, cap3, rfl, hP3, hL3⟩ := own_idx hown
      have HP := Lib.hid hP3
      have HL := Lib.hid hL3
      have HB3 := Lib.hid (HB2.out.trans (b2.mono HB2.out.size))
      clear hown hP3 hL3 b2
      go_wp2_with fail
      go_ret
      rw [HE.out]
      refine ⟨A3, cap3, rfl, HP.out, fun b off hp e => ?_, HB3.out⟩
      obtain ⟨B', e', hb', _⟩ := HL.out hp
      rw [e'] at e
      simp only [Option.some.injEq, Addr.mk.injEq] at e
      simp at hb'
      omega

theorem srt_same {g : List Bl} {L : List Nat} (hn : L.Nodup) (hl : ∀ x ∈ L, x < g.length) : (srt g L g.length).length = L.length := by
  refine List.Perm.length_eq ((List.perm_ext_iff_of_nodup (List.Pairwise.filter _ List.nodup_range) hn).2 fun x => ?_)
  rw [List.mem_filter, List.mem_range, decide_eq_true_iff]
  exact ⟨fun h => h.2, fun h => ⟨hl x h, h⟩⟩

/-- A loop's blocks, as they lie. -/
def LoopPost (w : World) (NB : Nat) (g : List Bl) (h : Nat) (e : Ending) (w' : World) : Prop :=
  ∃ A2 cap2, e = .returned (.slice A2 (loopL g h).length cap2) ∧ PtsI w' A2 NB (loopL g h) ∧ NodesIn w' NB g ∧ Below w.heap.size w w'

section
variable (w : World) (H K : Obj)
theorem below_e1 : Below w.heap.size w (w.alloc K).drew := ((Below.refl _ w).alloc (Nat.le_refl _) K).trans ((below_drewN (w.alloc K) 1).mono (by simp))
theorem below_f2 : Below w.heap.size w ((w.alloc K).alloc H).drew := (((Below.refl _ w).alloc (Nat.le_refl _) K).alloc (by simp) H).trans ((below_drewN ((w.alloc K).alloc H) 1).mono (by simp; omega))
theorem kinds_e1 : KindsAt (w.alloc (.cells #[.int .i64 1] 78)).drew w.heap.size [1] := Blk.new w _ _
theorem kinds_f2 : KindsAt ((w.alloc (.cells #[.int .i64 1] 78)).alloc H).drew w.heap.size [1] := (Blk.new w 78 #[.int .i64 1]).alloc H
theorem kinds_f3 : KindsAt ((w.alloc H).alloc (.cells #[.int .i64 1] 78)).drew (w.heap.size + 1) [1] := by
  have := Blk.new (w.alloc H) 78 #[.int .i64 1]
  rw [World.size_alloc] at this
  exact this
theorem hdr_f3 (v : Value) : Blk ((w.alloc (.cells #[v] 61)).alloc K).drew w.heap.size 61 #[v] := (Blk.new w 61 #[v]).alloc K
theorem hdr_f2 (v : Value) : Blk ((w.alloc K).alloc (.cells #[v] 61)).drew (w.heap.size + 1) 61 #[v] := by
  have := Blk.new (w.alloc K) 61 #[v]
  rw [World.size_alloc] at this
  exact this
end

set_option maxRecDepth 100000 in
set_option maxHeartbeats 4000000 in
theorem loopOf_any (WB tb NB MB cap h : Nat) (A : Option Addr) (g : List Bl) (B off tcap : Nat) (S : Nat → Nat) (w : World) (hv : validB g = true)
    (hO : OrdAt w WB tb NB MB A cap g B off tcap S) (hM : KMap w g MB 52 (fun i t => Rch g [] i ∧ t ∈ nxt g i)) (hhl : h < g.length) :
    Calls Tryz.prog 61 #[.pointer (some ⟨WB, 0, none⟩), nptr NB h] w (LoopPost w NB g h) := by
  obtain ⟨ip, hip, hz0, hz1, hz2⟩ := info_parts info_ptr
  have h26 := (valid_iff.1 hv).2.1
  have hsl : (srcL g tameK h).length ≤ 26 := Nat.le_trans (srcL_len tameK h) (reachS_small hv)
  have ba := (Below.refl w.heap.size w).alloc (Nat.le_refl _) (.cells #[.pointer (some ⟨WB, 0, none⟩)] 58)
  have bb := ba.alloc ba.size (.cells #[nptr NB h] 61)
  obtain ⟨w1, hw1⟩ : ∃ w1, w1 = (w.alloc (.cells #[.pointer (some ⟨WB, 0, none⟩)] 58)).alloc (.cells #[nptr NB h] 61) := ⟨_, rfl⟩
  rw [← hw1] at bb
  have k0 : Boxed w1 w.heap.size 58 (.pointer (some ⟨WB, 0, none⟩)) := by rw [hw1]; exact (Boxed.new w _ _).alloc _
  have k1 : Boxed w1 (w.heap.size + 1) 61 (nptr NB h) := by
    have := Boxed.new (w.alloc (.cells #[.pointer (some ⟨WB, 0, none⟩)] 58)) 61 (nptr NB h)
    rw [hw1]; simpa using this
  have hs1 : w1.heap.size = w.heap.size + 2 := by rw [hw1]; simp
  have hO1 := hO.below bb
  have hM1 := hM.keep (bb.block MB hM.lt)
  have HSRC := Lib.hid (fun (w' : World) (kb : Nat) (hb : Below w1.heap.size w1 w') (hk : KindsAt w' kb [1]) => (sourcesOf_own tameK [1] kb tameK_mem (by decide) WB tb NB MB cap A g B off tcap S h w' hv (hO1.below hb) (hM1.keep (hb.block MB hM1.lt)) hk hhl).mono fun e w2 q => show ∃ v, e = .returned v ∧ w2.ownsRow w1.heap.size 61 1 v (srcL g tameK h).length ((srcL g tameK h).map (nptr NB)) ∧ Below w1.heap.size w1 w2 ∧ Below w'.heap.size w' w2 from by
      obtain ⟨v, e1, e2, e3⟩ := q
      exact ⟨v, e1, own_lower e2 hb.size, hb.trans (e3.mono hb.size), e3⟩)
  have HO := Lib.hid hO1
  have HM := Lib.hid hM1
  have HB1 := Lib.hid bb
  have HK0 := Lib.hid k0
  have HK1 := Lib.hid k1
  have HV := Lib.hid hv
  clear hO hM hv ba bb k0 k1 hO1 hM1
  go_enter Tryz.func61, Tryz.ntmps61
  go_wp2_with fail
  rw [← hw1]
  have c0 : w1.cell? ⟨w.heap.size, 0, none⟩ = some (.pointer (some ⟨WB, 0, none⟩)) := HK0.out.cell
  have c1 : w1.cell? ⟨w.heap.size + 1, 0, none⟩ = some (nptr NB h) := HK1.out.cell
  clear hw1
  have la : w.heap.size < w1.heap.size := by omega
  have lb : w.heap.size + 1 < w1.heap.size := by omega
  have HKEEP := Lib.hid (fun (w' : World) (hb : Below w1.heap.size w1 w') => show w'.cell? ⟨w.heap.size, 0, none⟩ = some (.pointer (some ⟨WB, 0, none⟩)) ∧ w'.cell? ⟨w.heap.size + 1, 0, none⟩ = some (nptr NB h) from ⟨(hb.cell (p := ⟨w.heap.size, 0, none⟩) la).trans c0, (hb.cell (p := ⟨w.heap.size + 1, 0, none⟩) lb).trans c1⟩)
  have q0 := HKEEP.out w1 (Below.refl _ _)
  clear hs1
  have q1 := HKEEP.out w1.drew (below_drewN w1 1)
  have q7 := fun K => HKEEP.out _ (below_e1 w1 K)
  have q8 := fun H K => HKEEP.out _ (below_f2 w1 H K)
  go_region_held3 (fun w' => w'.cell? ⟨w.heap.size, 0, none⟩ = some (.pointer (some ⟨WB, 0, none⟩)) ∧ w'.cell? ⟨w.heap.size + 1, 0, none⟩ = some (nptr NB h))
    (first | with_reducible exact And.intro q9.1 q9.2 | with_reducible exact And.intro q5.1 q5.2 | with_reducible exact And.intro (q6 _).1 (q6 _).2 | with_reducible exact And.intro q0.1 q0.2 | with_reducible exact And.intro q1.1 q1.2 | with_reducible exact And.intro (q7 _).1 (q7 _).2 | with_reducible exact And.intro (q8 _ _).1 (q8 _ _).2 | fail)
    (first
      | (go_at_call 98
         refine (HSRC.out _ _ ?_ ?_).mono ?_
         · first | exact below_e1 w1 _ | exact below_f2 w1 _ _ | fail
         · first | exact kinds_e1 w1 | exact kinds_f2 w1 _ | exact kinds_f3 w1 _ | fail
         rintro e w2 ⟨v, rfl, hown, bA, b2⟩
         have q5 := HKEEP.out w2 bA
         have q6 := fun H => HKEEP.out (w2.alloc H) (bA.alloc bA.size H))
      | (refine step_append_lies _ (by rfl) (.tmp 9) (.tmp 11) 63 (by rfl) w1.heap.size 61 ip (.pointer none) 1 8 Tryz.underlying63 hip hz0 hz1 hz2 rfl Nat.one_pos v (srcL g tameK h).length ((srcL g tameK h).map (nptr NB)) (by rfl) ?_ ⟨w2.heap.size, 0, none⟩ 1 1 [nptr NB h] (by rfl) (by rfl) ?_ ?_ Nat.one_pos ?_ ?_ ?_ (w2.heap.size + 1) ?_ ?_
         · first | exact hown.alloc _ | fail
         · first | exact World.news_of_block (cs := #[nptr NB h]) (t := 61) (fr := (0, 0)) (heap_alloc_new w2 _) | fail
         · intro u hu; rw [List.mem_singleton.1 hu]; rfl
         · unfold maxLen; omega
         · omega
         · have := bA.size; first | omega | (simp; omega)
         · first | rfl | simp
         intro gg capg w5 hown5 hgrow hat hltg
         have hB5 := (bA.alloc bA.size (.cells #[nptr NB h] 61)).grown hgrow (by have := bA.size; simp; omega) (fun j hj => ((hown.alloc (.cells #[nptr NB h] 61)).lt j hj).1)
         have q9 := HKEEP.out w5 hB5)
      | (refine step_append_lies _ (by rfl) (.tmp 9) (.tmp 11) 63 (by rfl) w1.heap.size 61 ip (.pointer none) 1 8 Tryz.underlying63 hip hz0 hz1 hz2 rfl Nat.one_pos v (srcL g tameK h).length ((srcL g tameK h).map (nptr NB)) (by rfl) ?_ ⟨w1.heap.size + 1, 0, none⟩ 1 1 [nptr NB h] (by rfl) (by rfl) ?_ ?_ Nat.one_pos ?_ ?_ ?_ (w2.heap.size) ?_ ?_
         · first | exact hown | fail
         · first | exact World.news_of_block (cs := #[nptr NB h]) (t := 61) (fr := (0, 0)) ((hdr_f2 w1 _ _).below b2 (hdr_f2 w1 _ _).lt) | fail
         · intro u hu; rw [List.mem_singleton.1 hu]; rfl
         · unfold maxLen; omega
         · omega
         · have := bA.size; first | omega | (simp; omega)
         · first | rfl | simp
         intro gg capg w5 hown5 hgrow hat hltg
         have hB5 := bA.grown hgrow bA.size (fun j hj => (hown.lt j hj).1)
         have q9 := HKEEP.out w5 hB5)
      | (refine step_append_lies _ (by rfl) (.tmp 9) (.tmp 11) 63 (by rfl) w1.heap.size 61 ip (.pointer none) 1 8 Tryz.underlying63 hip hz0 hz1 hz2 rfl Nat.one_pos v (srcL g tameK h).length ((srcL g tameK h).map (nptr NB)) (by rfl) ?_ ⟨w1.heap.size, 0, none⟩ 1 1 [nptr NB h] (by rfl) (by rfl) ?_ ?_ Nat.one_pos ?_ ?_ ?_ (w2.heap.size) ?_ ?_
         · first | exact hown | fail
         · first | exact World.news_of_block (cs := #[nptr NB h]) (t := 61) (fr := (0, 0)) ((hdr_f3 w1 _ _).below b2 (hdr_f3 w1 _ _).lt) | fail
         · intro u hu; rw [List.mem_singleton.1 hu]; rfl
         · unfold maxLen; omega
         · omega
         · have := bA.size; first | omega | (simp; omega)
         · first | rfl | simp
         intro gg capg w5 hown5 hgrow hat hltg
         have hB5 := bA.grown hgrow bA.size (fun j hj => (hown.lt j hj).1)
         have q9 := HKEEP.out w5 hB5)
      | fail)
  all_goals
    obtain ⟨s, hs⟩ : ∃ s, s = srcL g tameK h ++ [h] := ⟨_, rfl⟩
    have hsn : s.length = (srcL g tameK h).length + 1 := by rw [hs]; simp
    have hown6 : w5.ownsRow w1.heap.size 61 1 (.slice (some ⟨gg, 0, none⟩) s.length capg) s.length (s.map (nptr NB)) := by
      rw [hsn, hs, List.map_append]; exact hown5
    obtain ⟨A3, cap3, e3, hP, -⟩ := own_idx hown6
    have e1 : some (⟨gg, 0, none⟩ : Addr) = A3 := by
      injection e3 with h1 _ _
    rw [← e1] at hP
    have hslt : ∀ t ∈ s, t < g.length := fun t ht => by
      rw [hs] at ht
      rcases List.mem_append.1 ht with q | q
      · exact srcL_lt _ _ t q
      · rw [List.mem_singleton.1 q]; exact hhl
    have HP := Lib.hid hP
    have HS := Lib.hid hs
    have HSL := Lib.hid hslt
    have HB5 := Lib.hid hB5
    clear hown5 hown6 hgrow hat hown e1 e3 hP hs hslt hB5 bA b2 hltg c0 c1 q0 q1 q5 q6 q7 q8 q9
    go_wp2_with fail
    refine (spreadFrom_any _ _ _ rfl rfl).mono ?_
    rintro e w7 ⟨rfl, hw7⟩
    have hs7 : w7.heap.size = w5.heap.size + 2 := by rw [hw7]; simp
    have b57 : Below w5.heap.size w5 w7 := by rw [hw7]; exact ((Below.refl _ w5).alloc (Nat.le_refl _) _).alloc (by simp) _
    have kT : Boxed w7 w5.heap.size 63 (.slice (some ⟨gg, 0, none⟩) ((srcL g tameK h).length + 1) capg) := by rw [hw7]; exact (Boxed.new w5 _ _).alloc _
    have kF : Boxed w7 (w5.heap.size + 1) 66 (.func (.func 101) #[] #[.pointer (some ⟨w.heap.size + 1, 0, none⟩), .pointer (some ⟨w.heap.size, 0, none⟩)]) := by
      have := Boxed.new (w5.alloc (.cells #[.slice (some ⟨gg, 0, none⟩) ((srcL g tameK h).length + 1) capg] 63)) 66 (.func (.func 101) #[] #[.pointer (some ⟨w.heap.size + 1, 0, none⟩), .pointer (some ⟨w.heap.size, 0, none⟩)])
      rw [hw7]; simpa using this
    have b17 : Below w1.heap.size w1 w7 := below_trans_self HB5.out b57
    have hO7 := HO.out.below b17
    have hM7 := HM.out.keep (b17.block MB HM.out.lt)
    have hN7 := hO7.tree.nodes
    have hfol := follows_loop WB tb NB MB cap h (w.heap.size + 1) w.heap.size A g B off tcap S w7 HV.out hO7 hM7 ((b17.block _ HK0.out.lt).trans HK0.out) ((b17.block _ HK1.out.lt).trans HK1.out) hhl
    have hP7 : PtsI w7 (some ⟨gg, 0, none⟩) NB s := fun hp => by
      obtain ⟨b, o, e, hb, hc⟩ := HP.out hp
      exact ⟨b, o, e, by omega, fun k hk => (b57.cell (p := ⟨b, o + k, none⟩) hb).trans (hc k hk)⟩
    have hfl : ∀ i, i < g.length → ∀ t ∈ folL g h i, t < g.length := fun i _ => folL_lt h i
    have hy := spreadFrom1_own 3 NB (w5.heap.size + 1) w5.heap.size capg (some ⟨gg, 0, none⟩) g (folL g h) s 101 #[.pointer (some ⟨w.heap.size + 1, 0, none⟩), .pointer (some ⟨w.heap.size, 0, none⟩)] (fun k => k < w7.heap.size) w7 (by decide) HV.out HSL.out (by omega) hfl (fun i hi => by
        unfold folL
        by_cases e : i = h
        · rw [if_pos e]; simp
        · rw [if_neg e]; have := srcL_len (g := g) allK i; have := reachS_small HV.out; omega)
      (by rw [hsn]; exact kT.cell) hP7 kF.cell hfol hN7 (fun i hi => (hN7 i hi).lt) (by show w5.heap.size + 1 < w7.heap.size; omega) (fun k hk => hk) (by omega) (by omega)
    have hspl := spread_lt HSL.out hfl
    have hspn := spread_nodup (folL g h) s g.length
    have hmem : h ∈ spread (folL g h) s g.length := (mem_spread HSL.out hfl).2 (.start (by rw [HS.out]; simp))
    have HIO := Lib.hid (inOrder_any NB 125 #[.pointer (some ⟨w5.heap.size, 0, none⟩), .pointer (some ⟨w5.heap.size + 1, 0, none⟩)] (fun k => k < w7.heap.size) (spread (folL g h) s g.length) g w7 HV.out (enters_of Tryz.func125 (by kernel_rfl) rfl) hy (fun k hk => hk) hN7 (List.length_pos_of_mem hmem) hspl hspn)
    have HLEN := Lib.hid (srt_same hspn hspl)
    have HLL := Lib.hid (show srt g (spread (folL g h) s g.length) g.length = loopL g h by rw [HS.out]; rfl)
    have HB7 := Lib.hid b17
    clear hw7 hs7 b57 kT kF b17 hO7 hM7 hN7 hfol hP7 hfl hy hspl hspn hmem
    go_wp2_with fail
    refine HIO.out.mono ?_
    rintro e w8 ⟨B8, off8, cap8, -, rfl, hBl, hc, hN8, b8⟩
    have HC8 := Lib.hid hc
    have HN8 := Lib.hid hN8
    have HB8 := Lib.hid (HB1.out.trans ((below_trans_self HB7.out b8).mono HB1.out.size))
    clear hc hN8 b8
    go_wp2_with fail
    go_ret
    rw [HLL.out] at HC8 HLEN
    refine ⟨some ⟨B8, off8, none⟩, cap8, by rw [HLEN.out]; rfl, fun _ => ⟨B8, off8, rfl, hBl, fun k hk => HC8.out k hk⟩, HN8.out, HB8.out⟩
end Go.Proofs.YtdolbmonmkjajaaGreat

/-
  Contracts of the program's LoopOf and DepthIn.
-/
namespace Go.Proofs.YtdolbmonmkjajaaGreat
open Go.RowKit Go.Sort Go.Shelf Go.Maps Go.WideMaps

attribute [local go_sem] Oper.semAt_some

theorem named_head {g : List Bl} (hv : validB g = true) (s : ByteArray) : named g (headL g) s = headOf g s := by
  cases hn : named g (headL g) s with
  | some i =>
    obtain ⟨h1, h2⟩ := named_is hn
    have hil := head_lt i h1
    rw [headOf_some hv (by rw [← h2, nthName_at hil]; exact posOf_name hv hil) h1]
  | none =>
    cases hl : headOf g s with
    | none => rfl
    | some i =>
      obtain ⟨_, hp, hr⟩ := headOf_is hl
      obtain ⟨hil, hnm⟩ := posOf_is hp
      unfold named at hn
      rw [List.find?_eq_none] at hn
      exact absurd (by rw [nthName_at hil, hnm]; simp) (hn i hr)

set_option maxRecDepth 100000 in
set_option maxHeartbeats 1000000 in
theorem implLoopOf_any (A : Option Addr) (cap : Nat) (g : List Bl) (s : ByteArray) (w : World) (hg : Gr w A g) (hn : g.length + tot g ≤ 1048576) :
    Calls Tryz.prog 16 #[.slice A g.length cap, .string s] w fun e w' => e = .returned (.tuple #[.string (loopV g s), .bool (loopB g s)]) ∧ Below w.heap.size w w' := by
  by_cases hv : validB g = true
  · have HC := Lib.hid (wayOrderOf_yes A cap g w hg hn hv)
    have HV := Lib.hid hv
    have h26 := (valid_iff.1 hv).2.1
    have hh26 := head_small hv
    clear hg hv
    cases hh : headOf g s with
    | none =>
      have HH := Lib.hid hh
      clear hh
      go_enter Tryz.func16, Tryz.ntmps16
      go_wp2_with fail
      refine HC.out.mono ?_
      rintro e w1 ⟨WB, tb, NB, MB, A2, cap2, B, off, tcap, S, _, rfl, hO, hM, b1⟩
      have HO := Lib.hid hO
      have HB1 := Lib.hid b1
      have HG := Lib.hid (headers_own WB tb NB MB cap2 A2 g B off tcap S w1 HV.out hO hM)
      clear hO hM b1
      go_wp2_with fail
      refine HG.out.mono ?_
      rintro e w2 ⟨v, rfl, hown, b2⟩
      obtain ⟨A3, cap3, rfl, hP3, -⟩ := own_idx hown
      have HB2 := Lib.hid (below_trans_self HB1.out b2)
      have hN := namedAt_any A3 NB cap3 g (headL g) s w2 hP3 (HO.out.tree.nodes.below b2) head_lt (by omega)
      rw [named_head HV.out, HH.out] at hN
      have HN : Hid (Calls Tryz.prog 58 #[.slice A3 (headL g).length cap3, .string s] w2 fun e w' => e = .returned (.pointer none) ∧ w2 = w') := hN
      clear hown hP3 b2 hN
      go_wp2_with fail
      refine HN.out.mono ?_
      rintro e w3 ⟨rfl, rfl⟩
      go_wp2_with fail
      go_ret2
      exact ⟨ret_tsb (loopV_none HH.out).symm (loopB_none HH.out).symm, HB2.out⟩
    | some h =>
      have HH := Lib.hid hh
      have hhm := (headOf_is hh).2.2
      have hhl := head_lt h hhm
      clear hh hhm
      go_enter Tryz.func16, Tryz.ntmps16
      go_wp2_with fail
      refine HC.out.mono ?_
      rintro e w1 ⟨WB, tb, NB, MB, A2, cap2, B, off, tcap, S, _, rfl, hO, hM, b1⟩
      have HO := Lib.hid hO
      have HM := Lib.hid hM
      have HB1 := Lib.hid b1
      have HG := Lib.hid (headers_own WB tb NB MB cap2 A2 g B off tcap S w1 HV.out hO hM)
      clear hO hM b1
      go_wp2_with fail
      refine HG.out.mono ?_
      rintro e w2 ⟨v, rfl, hown, b2⟩
      obtain ⟨A3, cap3, rfl, hP3, -⟩ := own_idx hown
      have HB2 := Lib.hid (below_trans_self HB1.out b2)
      have hN := namedAt_any A3 NB cap3 g (headL g) s w2 hP3 (HO.out.tree.nodes.below b2) head_lt (by omega)
      rw [named_head HV.out, HH.out] at hN
      have HN : Hid (Calls Tryz.prog 58 #[.slice A3 (headL g).length cap3, .string s] w2 fun e w' => e = .returned (nptr NB h) ∧ w2 = w') := hN
      have hO2 := HO.out.below b2
      have HL := Lib.hid (loopOf_any WB tb NB MB cap2 h A2 g B off tcap S w2 HV.out hO2 (HM.out.keep (b2.block MB HM.out.lt)) hhl)
      clear hown hP3 b2 hN hO2
      go_wp2_with fail
      refine HN.out.mono ?_
      rintro e w3 ⟨rfl, rfl⟩
      unfold nptr
      go_wp2_with fail
      refine HL.out.mono ?_
      rintro e w4 ⟨A4, cap4, rfl, hP4, hN4, b4⟩
      have HB4 := Lib.hid (below_trans_self HB2.out b4)
      have HJ := Lib.hid (joinIdx_any A4 NB cap4 g (loopL g h) w4 HV.out hP4 hN4 (loopL_lt h) (loop_small HV.out h))
      clear hP4 hN4 b4
      go_wp2_with fail
      refine HJ.out.mono ?_
      rintro e w5 ⟨rfl, b5⟩
      have HB5 := Lib.hid (below_trans_self HB4.out b5)
      clear b5
      go_wp2_with fail
      go_ret2
      exact ⟨ret_tsb (loopV_some HH.out).symm (loopB_some HH.out).symm, HB5.out⟩
  · have hv : validB g = false := by simpa using hv
    have HC := Lib.hid (wayOrderOf_no A cap g w hg hn hv)
    have HH := Lib.hid (headOf_no (s := s) hv)
    clear hg hv
    go_enter Tryz.func16, Tryz.ntmps16
    go_wp2_with fail
    refine HC.out.mono ?_
    rintro e w1 ⟨WB, tb, mv, rfl, hW, hT, b1⟩
    have HB1 := Lib.hid b1
    have HG := Lib.hid (headers_no WB tb mv w1 hW hT)
    clear hW hT b1
    go_wp2_with fail
    refine HG.out.mono ?_
    rintro e w2 ⟨rfl, b2⟩
    have HB2 := Lib.hid (below_trans_self HB1.out b2)
    have HN := Lib.hid (named_nil s w2 none 0)
    clear b2
    go_wp2_with fail
    refine HN.out.mono ?_
    rintro e w3 ⟨rfl, rfl⟩
    go_wp2_with fail
    go_ret2
    exact ⟨ret_tsb (loopV_none HH.out).symm (loopB_none HH.out).symm, HB2.out⟩

set_option maxRecDepth 100000 in
set_option maxHeartbeats 2000000 in
theorem implDepth_any (A : Option Addr) (cap : Nat) (g : List Bl) (s : ByteArray) (w : World) (hg : Gr w A g) (hn : g.length + tot g ≤ 1048576) :
    Calls Tryz.prog 19 #[.slice A g.length cap, .string s] w fun e w' => e = .returned (.int .i64 (depthV g s)) ∧ Below w.heap.size w w' := by
  by_cases hv : validB g = true
  · have HC := Lib.hid (wayOrderOf_yes A cap g w hg hn hv)
    have HV := Lib.hid hv
    have h26 := (valid_iff.1 hv).2.1
    have hh26 := head_small hv
    clear hg hv
    cases hl : liveOf g s with
    | none =>
      have HR := Lib.hid (depthV_none hl)
      have HL := Lib.hid hl
      clear hl
      go_enter Tryz.func19, Tryz.ntmps19
      go_wp2_with fail
      refine HC.out.mono ?_
      rintro e w1 ⟨WB, tb, NB, MB, A2, cap2, B, off, tcap, S, _, rfl, hO, hM, b1⟩
      have HB1 := Lib.hid b1
      have cT := hO.store.cell 0
      have hN := treeNamed_any tb NB g B off tcap S s w1 HV.out hO.tree
      rw [HL.out] at hN
      have HN : Hid (Calls Tryz.prog 64 #[.pointer (some ⟨tb, 0, none⟩), .string s] w1 fun e w' => e = .returned (.pointer none) ∧ w1 = w') := hN
      clear hO hM b1 hN
      go_wp2_with fail
      refine HN.out.mono ?_
      rintro e w3 ⟨rfl, rfl⟩
      go_wp2_with fail
      go_ret
      exact ⟨ret_int HR.out.symm, HB1.out⟩
    | some n =>
      have HR := Lib.hid (depthV_some hl)
      have HL := Lib.hid hl
      have hnl : n < g.length := (posOf_is (liveOf_is hl).2.1).1
      clear hl
      go_enter Tryz.func19, Tryz.ntmps19
      go_wp2_with fail
      refine HC.out.mono ?_
      rintro e w1 ⟨WB, tb, NB, MB, A2, cap2, B, off, tcap, S, _, rfl, hO, hM, b1⟩
      have HO := Lib.hid hO
      have HM := Lib.hid hM
      have HB1 := Lib.hid b1
      have cT := hO.store.cell 0
      have hN := treeNamed_any tb NB g B off tcap S s w1 HV.out hO.tree
      rw [HL.out] at hN
      have HN : Hid (Calls Tryz.prog 64 #[.pointer (some ⟨tb, 0, none⟩), .string s] w1 fun e w' => e = .returned (nptr NB n) ∧ w1 = w') := hN
      have HG := Lib.hid (headers_own WB tb NB MB cap2 A2 g B off tcap S w1 HV.out hO hM)
      clear hO hM b1 hN
      go_wp2_with fail
      refine HN.out.mono ?_
      rintro e w3 ⟨rfl, rfl⟩
      rw [show nptr NB n = .pointer (some ⟨nb NB n, 0, none⟩) from rfl]
      go_wp2_with fail
      refine HG.out.mono ?_
      rintro e w2 ⟨v, rfl, hown, b2⟩
      obtain ⟨A3, cap3, rfl, hP3, -⟩ := own_idx hown
      have HP3 := Lib.hid hP3
      have HB2 := Lib.hid (below_trans_self HB1.out b2)
      have HO2 := Lib.hid (HO.out.below b2)
      have HM2 := Lib.hid (HM.out.keep (b2.block MB HM.out.lt))
      clear hown hP3 b2
      go_wp2_with fail
      go_loopw [8, 27] (fun dv iv wr => ∃ (k d : Nat), k ≤ (headL g).length ∧ iv = .int .i64 k ∧ dv = .int .i64 d ∧ d ≤ k ∧ Hid (d = ((headL g).take k).countP fun h => decide (n ∈ loopL g h)) ∧ Hid (Below w2.heap.size w2 wr)) (fun _ iv _ => (headL g).length - (intOf iv).toNat)
      case atStart => exact ⟨0, 0, Nat.zero_le _, rfl, rfl, Nat.le_refl _, (show 0 = ((headL g).take 0).countP fun h => decide (n ∈ loopL g h) by simp), Below.refl _ _⟩
      case round =>
        obtain ⟨k, d, hk, rfl, rfl, hdk, HD, HB⟩ := hrel
        by_cases hlt : k < (headL g).length
        · obtain ⟨b3, o3, rfl, hb3, hc3⟩ := HP3.out (by omega)
          obtain ⟨h, hh⟩ : ∃ h, h = (headL g)[k] := ⟨_, rfl⟩
          have hhl : h < g.length := head_lt h (hh ▸ List.getElem_mem hlt)
          have ct : wr.cell? ⟨b3, o3 + k, none⟩ = some (nptr NB h) := by rw [hh]; exact (HB.out.cell (p := ⟨b3, o3 + k, none⟩) hb3).trans (hc3 k hlt)
          have hO3 := HO2.out.below HB.out
          have HLP := Lib.hid (loopOf_any WB tb NB MB cap2 h A2 g B off tcap S wr HV.out hO3 (HM2.out.keep (HB.out.block MB HM2.out.lt)) hhl)
          have HFT := Lib.hid (countP_take (p := fun h => decide (n ∈ loopL g h)) hlt)
          rw [← hh] at HFT
          have hls := loop_small HV.out h
          clear hh hO3 hb3 hc3
          go_wp2_with fail
          refine HLP.out.mono ?_
          rintro e w4 ⟨A4, cap4, rfl, hP4, hN4, b4⟩
          have HB4 := Lib.hid (below_trans_self HB.out b4)
          have HCT := Lib.hid (containsN_any A4 cap4 (loopL g h) NB g n w4 hP4 (by omega) hN4 (loopL_lt h) hnl)
          rw [show nptr NB n = .pointer (some ⟨nb NB n, 0, none⟩) from rfl] at HCT
          clear hP4 hN4 b4
          by_cases hin : n ∈ loopL g h
          · rw [decide_eq_true hin] at HCT
            have HD2 := Lib.hid (show d + 1 = ((headL g).take (k + 1)).countP fun h => decide (n ∈ loopL g h) by rw [HFT.out, if_pos (by simpa using hin), ← HD.out])
            clear hin
            go_wp2_with fail
            refine HCT.out.mono ?_
            rintro e w5 ⟨rfl, rfl⟩
            go_wp2_with fail
            go_roundw
            case rel => exact ⟨k + 1, d + 1, by omega, by go_num, by go_num, by omega, HD2.out, HB4.out⟩
            case measure => simp [intOf]; omega
          · rw [decide_eq_false hin] at HCT
            have HD2 := Lib.hid (show d = ((headL g).take (k + 1)).countP fun h => decide (n ∈ loopL g h) by rw [HFT.out, if_neg (by simpa using hin), ← HD.out]; rfl)
            clear hin
            go_wp2_with fail
            refine HCT.out.mono ?_
            rintro e w5 ⟨rfl, rfl⟩
            go_wp2_with fail
            go_roundw
            case rel => exact ⟨k + 1, d, by omega, by go_num, rfl, by omega, HD2.out, HB4.out⟩
            case measure => simp [intOf]; omega
        · have HE := Lib.hid (show (d : Int) = depthV g s by rw [HR.out, HD.out, List.take_of_length_le (by omega)]; rfl)
          have HB5 := Lib.hid (below_trans_self HB2.out HB.out)
          go_wp2_with fail
          go_ret
          exact ⟨ret_int HE.out, HB5.out⟩
  · have hv : validB g = false := by simpa using hv
    have HC := Lib.hid (wayOrderOf_no A cap g w hg hn hv)
    have HR := Lib.hid (depthV_none (liveOf_no (s := s) hv))
    clear hg hv
    go_enter Tryz.func19, Tryz.ntmps19
    go_wp2_with fail
    refine HC.out.mono ?_
    rintro e w1 ⟨WB, tb, mv, rfl, hW, hT, b1⟩
    have HB1 := Lib.hid b1
    have cT := hW.cell 0
    have HN := Lib.hid (treeNamed_no tb _ _ s w1 hT)
    clear hW hT b1
    go_wp2_with fail
    refine HN.out.mono ?_
    rintro e w3 ⟨rfl, rfl⟩
    go_wp2_with fail
    go_ret
    exact ⟨ret_int HR.out.symm, HB1.out⟩
end Go.Proofs.YtdolbmonmkjajaaGreat
