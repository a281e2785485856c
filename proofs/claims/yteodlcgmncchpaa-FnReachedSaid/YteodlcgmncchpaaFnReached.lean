/-
  The law FnReached, walked.
-/
import Derived.Test.YteodlcgmncchpaaPruneRuns
import Derived.Test.YteodlcgmncchpaaPrevs
import Derived.Test.YteodlcgmncchpaaStopFacts
import Derived.Test.YteodlcgmncchpaaDraws
namespace Go.Proofs.Yteodlcgmncchpaa
open Go.RowKit Go.Sort

theorem prevN_mem {g : List Bl} {u k j : Nat} (hj : j < k) (h : u ∈ nxt g j) : j ∈ prevN g u k := by
  unfold prevN
  exact List.mem_filter.2 ⟨List.mem_range.2 hj, by simpa using h⟩

/-- Of the reached blocks only the entry has nothing before it. -/
theorem prev_left {g : List Bl} (hv : validB g = true) {i : Nat} (hi : i < (reachS g).length) (h0 : 0 < i) : 0 < (prevVal (pruneG g) (nthName g (rho g i))).size := by
  have hpv := prune_valid hv
  obtain ⟨hil, he⟩ := prune_at hi
  have hr : Rch g [] (rho g i) := (mem_reach hv).1 ((reachS_perm hv).subset (rho_mem hi))
  obtain ⟨y, hy, hn⟩ : ∃ y, Rch g [] y ∧ rho g i ∈ nxt g y := by
    generalize hx : rho g i = x at hr
    cases hr with
    | start _ =>
      obtain ⟨hz, hp⟩ := rho_zero hv
      have := rho_inj hi hp (hx.trans hz.symm)
      omega
    | step h hn _ => exact ⟨_, h, hn⟩
  obtain ⟨j, hj, rfl⟩ := rho_of ((reachS_perm hv).symm.subset ((mem_reach hv).2 hy))
  rw [← prune_nxts hv hj] at hn
  obtain ⟨t, ht, et⟩ := List.mem_map.1 hn
  have hti := rho_inj (prune_lt hv hj ht) hi et
  rw [hti] at ht
  have hnm : nthName g (rho g i) = (pruneG g)[i].1 := by rw [nthName_at (rho_lt hi), he]
  rw [hnm, prevVal_some hpv (posOf_name hpv hil), prevs_all hpv hil, namesAt_size hpv _ (prevN_lt (Nat.le_refl _))]
  exact List.length_pos_of_mem (prevN_mem (by rw [pruneG_length]; exact hj) ht)

/-- All that it goes on to is reached. -/
theorem next_reached {g : List Bl} (hv : validB g = true) {i : Nat} (hi : i ∈ reachS g) (hil : i < g.length) {k : Nat} (hk : k < g[i].2.size) : hasB (reachV g) (g[i].2.extract k (k + 1)) = true := by
  obtain ⟨t, htl, hget, _, hnm⟩ := nxt_get hv hil hk
  rw [reachV_yes hv]
  refine (hasB_at hv (fun j hj => reachS_lt g j hj)).2 ⟨t, reachS_closed hv hi (List.mem_of_getElem? hget), ?_⟩
  rw [nthName_at htl, hnm, ex_byte _ (a := k) (b := k + 1) (by omega) (by omega) (by omega)]

theorem prune_reachV {g : List Bl} (hv : validB g = true) : reachV (pruneG g) = reachV g ∧ namesVal (pruneG g) = reachV g := by
  have hpv := prune_valid hv
  have e : namesAt (pruneG g) (List.range (pruneG g).length) = names (pruneG g) := by rw [namesAt_all _ _ (Nat.le_refl _), List.take_length]
  refine ⟨?_, ?_⟩
  · rw [reachV_yes hpv, reachV_yes hv, prune_reachS hv, e, prune_names_all]
  · rw [namesVal_yes hpv, reachV_yes hv, prune_names_all]

theorem reach_first {g : List Bl} (hv : validB g = true) : (reachV g).extract 0 1 = (namesVal g).extract 0 1 ∧ 0 < (reachV g).size ∧ 0 < (namesVal g).size := by
  have hpos := (valid_iff.1 hv).1
  obtain ⟨h, e⟩ := reachS_first hv
  have e0 : namesVal g = namesAt g (List.range g.length) := by rw [namesVal_yes hv, namesAt_all g g.length (Nat.le_refl _), List.take_length]
  have hl : ∀ i ∈ List.range g.length, i < g.length := fun i hi => List.mem_range.1 hi
  obtain ⟨h1, e1⟩ := namesAt_cut hv (reachS_lt g) h
  obtain ⟨h2, e2⟩ := namesAt_cut hv hl (k := 0) (by rw [List.length_range]; exact hpos)
  refine ⟨?_, ?_, ?_⟩
  · rw [reachV_yes hv, e0]
    have e3 : (namesAt g (reachS g)).extract 0 1 = g[(reachS g)[0]].1 := e1
    have e4 : (namesAt g (List.range g.length)).extract 0 1 = g[(List.range g.length)[0]'(by rw [List.length_range]; exact hpos)].1 := e2
    rw [e3, e4]
    congr 2
    rw [e, List.getElem_range]
  · rw [reachV_yes hv, namesAt_size hv _ (reachS_lt g)]; exact h
  · rw [e0, namesAt_size hv _ hl, List.length_range]; exact hpos

theorem namesVal_size {g : List Bl} (hv : validB g = true) : (namesVal g).size ≤ 26 := by
  have e : namesVal g = namesAt g (List.range g.length) := by rw [namesVal_yes hv, namesAt_all g g.length (Nat.le_refl _), List.take_length]
  rw [e, namesAt_size hv _ (fun i hi => List.mem_range.1 hi), List.length_range]; exact (valid_iff.1 hv).2.1

set_option maxRecDepth 100000 in
set_option maxHeartbeats 2000000 in
theorem reached_walk (A : Option Addr) (la ca : Nat) (w : World) (hA : Bytes w A la) (h1 : la ≤ ca) (h3 : ca ≤ 9223372036854775807) :
    Calls Try.prog 7 #[.slice A la ca] w fun e w' => e = .returned (.bool true) ∧ Below w.heap.size w w' := by
  by_cases g1 : (1048576 : Int) < la
  · clear hA
    go_enter Try.func7, Try.ntmps7
    go_wp2_with fail
    go_ret
    exact ⟨rfl, Below.refl _ _⟩
  have HA := Lib.hid (drawPruneGraph_any A la ca w hA h1 h3)
  clear hA
  go_enter Try.func7, Try.ntmps7
  go_wp2_with fail
  refine HA.out.mono ?_
  intro e w1 hd1
  obtain ⟨A1, c1, g, rfl, hc1, gg, hn1, b1⟩ := drawn_of hd1
  have HB1 := Lib.hid b1
  have HG := Lib.hid gg
  have HT1 : Hid (Below w1.heap.size w1 w1) := Below.refl _ _
  obtain ⟨r, hr⟩ : ∃ r, r = reachV g := ⟨_, rfl⟩
  obtain ⟨nm, hnm⟩ : ∃ nm, nm = namesVal g := ⟨_, rfl⟩
  have hri := fun w (h : Gr w A1 g) => implReached_any A1 c1 g w h (by omega)
  have hrs := fun w (h : Gr w A1 g) => specReached_any A1 c1 g w h (by omega) hc1
  have hni := fun w (h : Gr w A1 g) => implNames_any A1 c1 g w h (by omega)
  have hns := fun w (h : Gr w A1 g) => specNames_any A1 c1 g w h (by omega) hc1
  rw [← hr] at hri hrs
  rw [← hnm] at hni hns
  clear hd1 b1 gg
  cases hv : validB g with
  | false =>
    rw [hv] at hri hrs hni hns
    have HP := Lib.hid (implPrune_no A1 c1 g w1 HG.out (by omega) hv)
    have HS := Lib.hid (fun w h => specPrune_no A1 c1 g w h (by omega) hc1 hv)
    have HRI := Lib.hid hri
    have HRS := Lib.hid hrs
    have HNI := Lib.hid hni
    have HNS := Lib.hid hns
    have HQ : Hid (eqG [] [] = true) := eqG_iff.2 rfl
    clear hv hri hrs hni hns hr hnm
    go_wp2_with fail
    refine HP.out.mono ?_
    rintro e w2 ⟨rfl, b2⟩
    have HT2 := Lib.hid (HT1.out.trans (b2.mono HT1.out.size))
    clear b2
    go_wp2_with fail
    refine (HS.out _ (HG.out.below HT2.out)).mono ?_
    rintro e w3 ⟨v3, rfl, ho, b3⟩
    obtain ⟨A3, c3, rfl, _, hg3⟩ := own_gr ho
    have HG3 := Lib.hid hg3
    have HT3 := Lib.hid (HT2.out.trans (b3.mono HT2.out.size))
    clear b3 ho hg3
    go_wp2_with fail
    refine (HRI.out _ (HG.out.below HT3.out)).mono ?_
    rintro e w4 ⟨rfl, b4⟩
    have HT4 := Lib.hid (HT3.out.trans (b4.mono HT3.out.size))
    clear b4
    go_wp2_with fail
    refine (HRS.out _ (HG.out.below HT4.out)).mono ?_
    rintro e w5 ⟨rfl, b5⟩
    have HT5 := Lib.hid (HT4.out.trans (b5.mono HT4.out.size))
    clear b5
    go_wp2_with fail
    refine (HNI.out _ (HG.out.below HT5.out)).mono ?_
    rintro e w6 ⟨rfl, b6⟩
    have HT6 := Lib.hid (HT5.out.trans (b6.mono HT5.out.size))
    clear b6
    go_wp2_with fail
    refine (HNS.out _ (HG.out.below HT6.out)).mono ?_
    rintro e w7 ⟨rfl, b7⟩
    have HT7 := Lib.hid (HT6.out.trans (b7.mono HT6.out.size))
    clear b7
    go_wp2_with fail
    refine (sjGraph_any none A3 0 c3 [] [] _ (Gr.nil _ _) (Gr.nil _ _) (by simp) (by simp)).mono ?_
    rintro e w8 ⟨rfl, b8⟩
    rw [HQ.out]
    have HT8 := Lib.hid (HT7.out.trans (b8.mono HT7.out.size))
    clear b8
    go_wp2_with fail
    refine (sjGraph_any none A3 0 c3 [] [] _ (Gr.nil _ _) (Gr.nil _ _) (by simp) (by simp)).mono ?_
    rintro e w9 ⟨rfl, b9⟩
    rw [HQ.out]
    have HT9 := Lib.hid (HT8.out.trans (b9.mono HT8.out.size))
    clear b9
    go_wp2_with fail
    go_ret
    exact ⟨rfl, below_trans_self HB1.out HT9.out⟩
  | true =>
    rw [hv] at hri hrs hni hns
    obtain ⟨p, hp⟩ : ∃ p, p = pruneG g := ⟨_, rfl⟩
    have hpv : validB p = true := hp ▸ prune_valid hv
    have hpt := valid_tot hpv
    have HP := Lib.hid ((implPrune_yes A1 c1 g w1 HG.out (by omega) hv).mono fun e w' h => show ∃ B, w1.heap.size ≤ B ∧ e = .returned (.tuple #[.slice (some ⟨B, 0, none⟩) p.length p.length, .bool true]) ∧ OwnGr w' B p ∧ Below w1.heap.size w1 w' from hp ▸ h)
    have HS := Lib.hid (fun w h => (hp ▸ specPrune_yes A1 c1 g w h (by omega) hc1 hv : Calls Try.prog 26 #[.slice A1 g.length c1] w (PruneOwn p true w)))
    have HRI := Lib.hid hri
    have HRS := Lib.hid hrs
    have HNI := Lib.hid hni
    have HNS := Lib.hid hns
    obtain ⟨pr1, pr2⟩ := prune_reachV hv
    rw [← hp, ← hr] at pr1 pr2
    have HRP := Lib.hid (fun A cap w (h : Gr w A p) => (by have := implReached_any A cap p w h (by omega); rw [pr1, hpv] at this; exact this : Calls Try.prog 27 #[.slice A p.length cap] w fun e w' => e = .returned (.tuple #[.string r, .bool true]) ∧ Below w.heap.size w w'))
    have HNP := Lib.hid (fun A cap w (h : Gr w A p) => (by have := implNames_any A cap p w h (by omega); rw [pr2, hpv] at this; exact this : Calls Try.prog 29 #[.slice A p.length cap] w fun e w' => e = .returned (.tuple #[.string r, .bool true]) ∧ Below w.heap.size w w'))
    have HVP := Lib.hid (fun A cap w (h : Gr w A p) => (by have := implValid_any A cap p w h (by omega); rw [hpv] at this; exact this : Calls Try.prog 35 #[.slice A p.length cap] w fun e w' => e = .returned (.bool true) ∧ Below w.heap.size w w'))
    have HPV := Lib.hid (fun A cap w (h : Gr w A p) s => implPrev_any A cap p s w h (by omega))
    have HNX := Lib.hid (fun w (h : Gr w A1 g) s => implNext_any A1 c1 g s w h (by omega))
    obtain ⟨rf1, rf2, rf3⟩ := reach_first hv
    rw [← hr] at rf1 rf2
    rw [← hnm] at rf1 rf3
    have qf : ((r.extract 0 1).toList == (nm.extract 0 1).toList) = true := by rw [rf1]; simp
    have hrz : r.size ≤ 26 := hr ▸ reachV_size'
    have hnz : nm.size ≤ 26 := hnm ▸ namesVal_size hv
    have hrl : r.size = (reachS g).length := by rw [hr, reachV_yes hv, namesAt_size hv _ (reachS_lt g)]
    have HRN := Lib.hid (fun k (hk : k < r.size) => reach_next hv (by rw [← hr]; exact hk))
    have HRT := Lib.hid hr
    have HV := Lib.hid hv
    have HPG := Lib.hid hp
    have HRL := Lib.hid hrl
    have HQ : Hid (eqG p p = true) := eqG_iff.2 rfl
    have hp26 := (valid_iff.1 hpv).2.1
    clear hv hri hrs hni hns hr hnm hp hpv pr1 pr2 rf1 hrl
    go_wp2_with fail
    refine HP.out.mono ?_
    rintro e w2 ⟨B, hB, rfl, o2, b2⟩
    have HT2 := Lib.hid (HT1.out.trans (b2.mono HT1.out.size))
    have HO2 := Lib.hid o2
    clear b2 o2
    go_wp2_with fail
    refine (HS.out _ (HG.out.below HT2.out)).mono ?_
    rintro e w3 ⟨v3, rfl, ho, b3⟩
    obtain ⟨A3, c3, rfl, _, hg3⟩ := own_gr ho
    have HG3 := Lib.hid hg3
    have HT3 := Lib.hid (HT2.out.trans (b3.mono HT2.out.size))
    have HO3 := Lib.hid (HO2.out.keep2 b3)
    clear b3 ho hg3
    go_wp2_with fail
    refine (HRI.out _ (HG.out.below HT3.out)).mono ?_
    rintro e w4 ⟨rfl, b4⟩
    have HT4 := Lib.hid (HT3.out.trans (b4.mono HT3.out.size))
    have HO4 := Lib.hid (HO3.out.keep2 b4)
    have HW4 := Lib.hid (HG3.out.below b4)
    clear b4
    go_wp2_with fail
    refine (HRS.out _ (HG.out.below HT4.out)).mono ?_
    rintro e w5 ⟨rfl, b5⟩
    have HT5 := Lib.hid (HT4.out.trans (b5.mono HT4.out.size))
    have HO5 := Lib.hid (HO4.out.keep2 b5)
    have HW5 := Lib.hid (HW4.out.below b5)
    clear b5
    go_wp2_with fail
    refine (HNI.out _ (HG.out.below HT5.out)).mono ?_
    rintro e w6 ⟨rfl, b6⟩
    have HT6 := Lib.hid (HT5.out.trans (b6.mono HT5.out.size))
    have HO6 := Lib.hid (HO5.out.keep2 b6)
    have HW6 := Lib.hid (HW5.out.below b6)
    clear b6
    go_wp2_with fail
    refine (HNS.out _ (HG.out.below HT6.out)).mono ?_
    rintro e w7 ⟨rfl, b7⟩
    have HT7 := Lib.hid (HT6.out.trans (b7.mono HT6.out.size))
    have HO7 := Lib.hid (HO6.out.keep2 b7)
    have HW7 := Lib.hid (HW6.out.below b7)
    clear b7
    go_wp2_with fail
    refine (sjGraph_any _ _ _ _ p p _ HO7.out.gr HW7.out (by omega) (by omega)).mono ?_
    rintro e w8 ⟨rfl, b8⟩
    rw [HQ.out]
    have HT8 := Lib.hid (HT7.out.trans (b8.mono HT7.out.size))
    have HO8 := Lib.hid (HO7.out.keep2 b8)
    clear b8
    go_wp2_with fail
    obtain ⟨wo, hwo⟩ : ∃ wo : World, wo = w8 := ⟨_, rfl⟩
    have HTO : Hid (Below w1.heap.size w1 wo) := by rw [hwo]; exact HT8.out
    have HOO : Hid (OwnGr wo B p) := by rw [hwo]; exact HO8.out
    rw [← hwo]
    clear hwo HT2 HT3 HT4 HT5 HT6 HT7 HT8 HO2 HO3 HO4 HO5 HO6 HO7 HO8 HG3 HW4 HW5 HW6 HW7
    go_loopg [124] r.size (fun gk i wr => ∃ k : Nat, gk = r.size - k ∧ k ≤ r.size ∧ i = .int .i64 k ∧ Below wo.heap.size wo wr)
    case atStart => exact ⟨0, rfl, Nat.zero_le _, rfl, Below.refl _ _⟩
    case round =>
      obtain ⟨k, rfl, hk, rfl, hB⟩ := hrel
      have HBK := Lib.hid hB
      clear hB
      by_cases hlt : k < r.size
      · obtain ⟨x, hx, hxl, hex, hnv⟩ := HRN.out k hlt
        rw [← HRT.out] at hex hnv
        obtain ⟨nx, hnx⟩ : ∃ nx, nx = g[x].2 := ⟨_, rfl⟩
        rw [← hnx] at hnv
        have hnz2 : nx.size ≤ 2 := by rw [hnx]; exact (nextB_iff.1 (nextsB_iff.1 (valid_iff.1 HV.out).2.2.2 x hxl)).1
        have HN1 := Lib.hid ((HNX.out wr (HG.out.below (HTO.out.trans (HBK.out.mono HTO.out.size))) (r.extract k (k + 1))).mono fun e w' h => show e = .returned (.tuple #[.string nx, .bool (nextHas g (r.extract k (k + 1)))]) ∧ Below wr.heap.size wr w' from hnv ▸ h)
        have HNR := Lib.hid (fun j (hj : j < nx.size) => (show hasB r (nx.extract j (j + 1)) = true by rw [HRT.out, hnx]; exact next_reached HV.out hx hxl (by rw [← hnx]; exact hj)))
        obtain ⟨pv, hpv⟩ : ∃ pv, pv = prevVal p (r.extract k (k + 1)) := ⟨_, rfl⟩
        have HPP := Lib.hid (show 0 < k → 0 < pv.size from fun h0 => by
          have hkl : k < (reachS g).length := by rw [← HRL.out]; exact hlt
          have h1 := prev_left HV.out hkl h0
          have h2 : r.extract k (k + 1) = nthName g (rho g k) := by
            obtain ⟨h3, e3⟩ := namesAt_cut HV.out (reachS_lt g) hkl
            rw [HRT.out, reachV_yes HV.out, e3, rho_at hkl, nthName_at h3]
          rw [hpv, h2, HPG.out]; exact h1)
        have HPC := Lib.hid (fun w (h : Gr w (some ⟨B, 0, none⟩) p) => (HPV.out (some ⟨B, 0, none⟩) p.length w h (r.extract k (k + 1))).mono fun e w' h => show e = .returned (.tuple #[.string pv, .bool (nextHas p (r.extract k (k + 1)))]) ∧ Below w.heap.size w w' from hpv ▸ h)
        have k1 : k + 1 ≤ r.size := by omega
        clear hex hnv hnx hx hxl hpv
        go_wp2_with fail
        refine HN1.out.mono ?_
        rintro e w9 ⟨rfl, b9⟩
        have HB9 := Lib.hid (HBK.out.trans (b9.mono HBK.out.size))
        clear b9
        go_wp2_with fail
        go_loopw [139] (fun i wr => ∃ j : Nat, j ≤ nx.size ∧ i = .int .i64 j ∧ Below wo.heap.size wo wr) (fun i _ => nx.size - (intOf i).toNat)
        case atStart => exact ⟨0, Nat.zero_le _, rfl, HB9.out⟩
        case round =>
          obtain ⟨j, hj, rfl, hB⟩ := hrel
          have HBJ := Lib.hid hB
          clear hB
          by_cases hjl : j < nx.size
          · have hh := HNR.out j hjl
            have HH := Lib.hid (fun w => (by have := sjHas_any r (nx.extract j (j + 1)) w (by omega); rw [hh] at this; exact this : Calls Try.prog 33 #[.string r, .string (nx.extract j (j + 1))] w _))
            have j1 : j + 1 ≤ nx.size := by omega
            clear hh
            go_wp2_with fail
            refine (HH.out _).mono ?_
            rintro e w10 ⟨rfl, rfl⟩
            go_wp2_with fail
            go_roundw
            case rel => exact ⟨j + 1, by omega, by go_num, HBJ.out⟩
            case measure => simp [intOf]; omega
          · have HP1 := Lib.hid (HPC.out wr (HOO.out.keep2 HBJ.out).gr)
            go_wp2_with fail
            refine HP1.out.mono ?_
            rintro e w10 ⟨rfl, b10⟩
            have HB10 := Lib.hid (HBJ.out.trans (b10.mono HBJ.out.size))
            clear b10
            by_cases h0 : 0 < k
            · have q0 := beq_empty (HPP.out h0)
              go_wp2_with fail
              go_roundg (r.size - (k + 1))
              case measure => omega
              case rel => exact ⟨k + 1, rfl, by omega, by go_num, HB10.out⟩
            · go_wp2_with fail
              go_roundg (r.size - (k + 1))
              case measure => omega
              case rel => exact ⟨k + 1, rfl, by omega, by go_num, HB10.out⟩
      · have HR1 := Lib.hid (HRP.out (some ⟨B, 0, none⟩) p.length wr (HOO.out.keep2 HBK.out).gr)
        go_wp2_with fail
        refine HR1.out.mono ?_
        rintro e w9 ⟨rfl, b9⟩
        have HB9 := Lib.hid (HBK.out.trans (b9.mono HBK.out.size))
        clear b9
        go_wp2_with fail
        refine (HNP.out (some ⟨B, 0, none⟩) p.length w9 (HOO.out.keep2 HB9.out).gr).mono ?_
        rintro e w10 ⟨rfl, b10⟩
        have HB10 := Lib.hid (HB9.out.trans (b10.mono HB9.out.size))
        clear b10
        have cV : ∀ d os, Calls Try.prog 35 #[.slice (some ⟨B, 0, none⟩) p.length p.length] (grow (redrawn w10 d) os) fun e w'' => e = .returned (.bool true) ∧ ∃ p : Regrown, w'' = grow (redrawn w10 p.d) p.os := fun d os =>
          Calls.regrown_of (HVP.out (some ⟨B, 0, none⟩) p.length (grow (redrawn w10 d) os) (((HOO.out.keep2 HB10.out).gr).below (below_regrown w10 d os)))
        go_wp2_with fail
        refine wp_region_quiet_below (by kernel_rfl) (by kernel_rfl) ?_
        repeat (any_goals (first | go_big_quiet_step (with_reducible exact cV _ _) | quiet_step (with_reducible exact cV _ _)))
        all_goals (refine wpQuiet_nil ?_; intro _ hw'; obtain ⟨⟨dq, osq⟩, hw''⟩ := hw'; subst hw'')
        have hb3 := below_regrown w10 dq osq
        generalize grow (redrawn w10 dq) osq = w11 at hb3 ⊢
        clear cV
        go_wp2_with fail
        go_ret
        exact ⟨rfl, below_trans_self HB1.out (HTO.out.trans ((HB10.out.trans (hb3.mono HB10.out.size)).mono HTO.out.size))⟩

end Go.Proofs.Yteodlcgmncchpaa
