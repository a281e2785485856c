/-
  The law FnPruneTwice, walked.
-/
import Derived.Test.YtimgkjlhahapnabPruneMore
namespace Go.Proofs.Ytimgkjlhahapnab
open Go.RowKit Go.Sort

theorem OwnGr.keep' {w w' : World} {B : Nat} {g : List Bl} (h : OwnGr w B g) (hb : Below w.heap.size w w') : OwnGr w' B g := by
  obtain ⟨cs, t, hk, hc⟩ := h
  exact ⟨cs, t, hk.below hb hk.lt, hc⟩

set_option maxRecDepth 100000 in
set_option maxHeartbeats 1000000 in
theorem pruneTwice_walk (A : Option Addr) (la ca : Nat) (w : World) (hA : Bytes w A la) (h1 : la ≤ ca) (h3 : ca ≤ 9223372036854775807) :
    Calls Try.prog 4 #[.slice A la ca] w fun e w' => e = .returned (.bool true) ∧ Below w.heap.size w w' := by
  by_cases g1 : (1048576 : Int) < la
  · clear hA
    go_enter Try.func4, Try.ntmps4
    go_wp2_with fail
    go_ret
    exact ⟨rfl, Below.refl _ _⟩
  have HA := Lib.hid (drawReachedOf_any A la ca w hA h1 h3)
  clear hA
  go_enter Try.func4, Try.ntmps4
  go_wp2_with fail
  refine HA.out.mono ?_
  intro e w1 hd1
  obtain ⟨A1, c1, g, rfl, hc1, gg, hn1, b1⟩ := drawn_of hd1
  have HB1 := Lib.hid b1
  have HG := Lib.hid gg
  have HCI := Lib.hid (fun w (h : Gr w A1 g) => implCount_any A1 c1 g w h (by omega))
  have HT1 : Hid (Below w1.heap.size w1 w1) := Below.refl _ _
  clear hd1 b1 gg
  cases hv : validB g with
  | false =>
    have HP := Lib.hid (implPrune_no A1 c1 g w1 HG.out (by omega) hv)
    have HS := Lib.hid (fun w h => specPrune_no A1 c1 g w h (by omega) hc1 hv)
    have hCI := HCI.out
    rw [countVal_no hv] at hCI
    have HCI := Lib.hid hCI
    clear hCI hv
    go_wp2_with fail
    refine HP.out.mono ?_
    rintro e w2 ⟨rfl, b2⟩
    have HT2 := Lib.hid (HT1.out.trans (b2.mono HT1.out.size))
    clear b2
    go_wp2_with fail
    refine (HS.out _ (HG.out.below HT2.out)).mono ?_
    rintro e w3 ⟨v3, rfl, _, b3⟩
    have HT3 := Lib.hid (HT2.out.trans (b3.mono HT2.out.size))
    clear b3
    go_wp2_with fail
    refine (HCI.out _ (HG.out.below HT3.out)).mono ?_
    rintro e w4 ⟨rfl, b4⟩
    have HT4 := Lib.hid (HT3.out.trans (b4.mono HT3.out.size))
    clear b4
    go_wp2_with fail
    go_ret
    exact ⟨rfl, below_trans_self HB1.out HT4.out⟩
  | true =>
    obtain ⟨p, hp⟩ : ∃ p, p = pruneG g := ⟨_, rfl⟩
    have hpv : validB p = true := hp ▸ prune_valid hv
    have hpt := valid_tot hpv
    have hgt := valid_tot hv
    have hpl : p.length = (reachS g).length := by rw [hp, pruneG_length]
    have HP := Lib.hid ((implPrune_yes A1 c1 g w1 HG.out (by omega) hv).mono fun e w' h => show ∃ B, w1.heap.size ≤ B ∧ e = .returned (.tuple #[.slice (some ⟨B, 0, none⟩) p.length p.length, .bool true]) ∧ OwnGr w' B p ∧ Below w1.heap.size w1 w' from hp ▸ h)
    have HS := Lib.hid (fun w h => specPrune_yes A1 c1 g w h (by omega) hc1 hv)
    have HP2 := Lib.hid (fun A cap w h => (implPrune_yes A cap p w h (by omega) hpv).mono fun e w' h => show ∃ B, w.heap.size ≤ B ∧ e = .returned (.tuple #[.slice (some ⟨B, 0, none⟩) p.length p.length, .bool true]) ∧ OwnGr w' B p ∧ Below w.heap.size w w' from (show pruneG p = p from hp ▸ prune_twice hv) ▸ h)
    obtain ⟨a, ha⟩ : ∃ a, a = names g := ⟨_, rfl⟩
    obtain ⟨b, hb⟩ : ∃ b, b = namesAt g (reachS g) := ⟨_, rfl⟩
    have HNG := Lib.hid (fun w (h : Gr w A1 g) => (by have := implNames_any A1 c1 g w h (by omega); rw [namesVal_yes hv, hv, ← ha] at this; exact this : Calls Try.prog 19 #[.slice A1 g.length c1] w fun e w' => e = .returned (.tuple #[.string a, .bool true]) ∧ Below w.heap.size w w'))
    have HNP := Lib.hid (fun A cap w (h : Gr w A p) => (by have := implNames_any A cap p w h (by omega); rw [namesVal_yes hpv, hpv, hp, prune_names_all, ← hb, ← hp] at this; exact this : Calls Try.prog 19 #[.slice A p.length cap] w fun e w' => e = .returned (.tuple #[.string b, .bool true]) ∧ Below w.heap.size w w'))
    obtain ⟨n1, hn1'⟩ : ∃ n1, n1 = nexts g := ⟨_, rfl⟩
    obtain ⟨n2, hn2⟩ : ∃ n2, n2 = nexts p := ⟨_, rfl⟩
    have hnle : n2 ≤ n1 := by rw [hn1', hn2, hp]; exact nexts_pruned hv
    have hCI := HCI.out
    rw [countVal_yes hv, ← hn1'] at hCI
    have HCG := Lib.hid hCI
    have HCP := Lib.hid (fun A cap w (h : Gr w A p) => (by have := implCount_any A cap p w h (by omega); rw [countVal_yes hpv, ← hn2] at this; exact this : Calls Try.prog 27 #[.slice A p.length cap] w fun e w' => e = .returned (.int .i64 (n2 : Nat)) ∧ Below w.heap.size w w'))
    have haz : a.size = g.length := by
      have : a = namesAt g (List.range g.length) := by rw [ha, namesAt_all g g.length (Nat.le_refl _), List.take_length]
      rw [this, namesAt_size hv _ (fun i hi => List.mem_range.1 hi), List.length_range]
    have hbz : b.size = (reachS g).length := by rw [hb, namesAt_size hv _ (reachS_lt g)]
    have hrl : (reachS g).length ≤ 26 := by have := (valid_iff.1 hpv).2.1; omega
    have HLB := Lib.hid (fun k (hk : k < g.length) => left_byte hv ha hb hk)
    have HQ : Hid (eqG p p = true) := eqG_iff.2 rfl
    have hsame : decide ((b.size : Int) = a.size) = eqG g p := by
      rw [hp, ← prune_same, hbz, haz]
      apply decide_eq_decide.2; omega
    obtain ⟨z, hz⟩ : ∃ z, z = eqG g p := ⟨_, rfl⟩
    rw [← hz] at hsame
    have HZ := Lib.hid hz
    have HSM := Lib.hid hsame
    have HLA := Lib.hid ((leftN_all hv).trans hbz.symm)
    have HAZ := Lib.hid haz
    have hpl1 : p.length ≤ 26 := by omega
    clear hv hpv hp ha hb hn1' hn2 hCI HCI hz hsame hpl hbz haz
    go_wp2_with fail
    refine HP.out.mono ?_
    rintro e w2 ⟨B, hB, rfl, o2, b2⟩
    have HT2 := Lib.hid (HT1.out.trans (b2.mono HT1.out.size))
    have HO2 := Lib.hid o2
    clear b2 o2
    go_wp2_with fail
    refine (HS.out _ (HG.out.below HT2.out)).mono ?_
    rintro e w3 ⟨v3, rfl, _, b3⟩
    have HT3 := Lib.hid (HT2.out.trans (b3.mono HT2.out.size))
    have HO3 := Lib.hid (HO2.out.keep' b3)
    clear b3
    go_wp2_with fail
    refine (HP2.out _ _ _ HO3.out.gr).mono ?_
    rintro e w4 ⟨B2, hB2, rfl, o4, b4⟩
    have HT4 := Lib.hid (HT3.out.trans (b4.mono HT3.out.size))
    have HO4 := Lib.hid (HO3.out.keep' b4)
    have HR4 := Lib.hid o4
    clear b4 o4
    go_wp2_with fail
    refine (HNG.out _ (HG.out.below HT4.out)).mono ?_
    rintro e w5 ⟨rfl, b5⟩
    have HT5 := Lib.hid (HT4.out.trans (b5.mono HT4.out.size))
    have HO5 := Lib.hid (HO4.out.keep' b5)
    have HR5 := Lib.hid (HR4.out.keep' b5)
    clear b5
    go_wp2_with fail
    refine (HNP.out _ _ _ HO5.out.gr).mono ?_
    rintro e w6 ⟨rfl, b6⟩
    have HT6 := Lib.hid (HT5.out.trans (b6.mono HT5.out.size))
    have HO6 := Lib.hid (HO5.out.keep' b6)
    have HR6 := Lib.hid (HR5.out.keep' b6)
    clear b6
    go_wp2_with fail
    go_loopw [14, 61] (fun m i wr => ∃ k mm : Nat, k ≤ g.length ∧ i = .int .i64 k ∧ m = .int .i64 mm ∧ mm ≤ k ∧ Hid (mm = leftN g k) ∧ Below w6.heap.size w6 wr) (fun _ i _ => g.length - (intOf i).toNat)
    case atStart => exact ⟨0, 0, Nat.zero_le _, rfl, rfl, Nat.le_refl _, rfl, Below.refl _ _⟩
    case round =>
      obtain ⟨k, m, hk, rfl, rfl, hmk, HM, hBL⟩ := hrel
      have HBL := Lib.hid hBL
      clear hBL
      by_cases hlt : k < g.length
      · obtain ⟨hka, hin, hout⟩ := HLB.out k hlt
        rw [← HM.out] at hin hout
        by_cases hmem : k ∈ reachS g
        · obtain ⟨hm, e⟩ := hin hmem
          have HM2 := Lib.hid (show m + 1 = leftN g (k + 1) by rw [leftN_yes hmem, HM.out])
          have q0 : decide ((m : Int) < b.size) = true := by simp; omega
          have q1 : ((a[k].toNat : Int) == (b[m].toNat : Int)) = true := by rw [e]; simp
          clear hin hout hmem e
          go_wp2_with fail
          go_quiet (fail)
          go_wp2_with fail
          go_roundw
          case rel => exact ⟨k + 1, m + 1, by omega, by go_num, by go_num, by omega, HM2, HBL.out.trans (below_drewN' wr nq HBL.out.size)⟩
          case measure => simp [intOf]; omega
        · have HM2 := Lib.hid (show m = leftN g (k + 1) by rw [leftN_no hmem, HM.out])
          by_cases hm : m < b.size
          · have q0 : decide ((m : Int) < b.size) = true := by simp; omega
            have q1 : ((a[k].toNat : Int) == (b[m].toNat : Int)) = false := byte_ne (hout hmem hm)
            clear hin hout hmem
            go_wp2_with fail
            go_quiet (fail)
            go_wp2_with fail
            go_roundw
            case rel => exact ⟨k + 1, m, by omega, by go_num, rfl, by omega, HM2, HBL.out.trans (below_drewN' wr nq HBL.out.size)⟩
            case measure => simp [intOf]; omega
          · have q0 : decide ((m : Int) < b.size) = false := by simp; omega
            clear hin hout hmem
            go_wp2_with fail
            go_quiet (fail)
            go_wp2_with fail
            go_roundw
            case rel => exact ⟨k + 1, m, by omega, by go_num, rfl, by omega, HM2, HBL.out.trans (below_drewN' wr nq HBL.out.size)⟩
            case measure => simp [intOf]; omega
      · have hke : k = g.length := by omega
        have hka2 : ¬ ((k : Int) < a.size) := by have := HAZ.out; omega
        have e1 : ((m : Int) == b.size) = true := by have h1 := HM.out; have h2 := HLA.out; rw [hke] at h1; simp; omega
        have q5 : ((b.size : Int) == (a.size : Int)) = z := HSM.out
        have q6 : (z == z) = true := by simp
        have q7 : decide ((n2 : Int) ≤ n1) = true := by simp; omega
        have HG7 := Lib.hid (HG.out.below (HT6.out.trans (HBL.out.mono HT6.out.size)))
        have HO7 := Lib.hid (HO6.out.keep' HBL.out)
        have HR7 := Lib.hid (HR6.out.keep' HBL.out)
        clear hke
        go_wp2_with fail
        refine (sjGraph_any _ _ _ _ p p _ HR7.out.gr HO7.out.gr (by omega) (by omega)).mono ?_
        rintro e v1 ⟨rfl, d1⟩
        rw [HQ.out]
        have HO8 := Lib.hid (HO7.out.keep' d1)
        have HG8 := Lib.hid (HG7.out.below d1)
        have HD1 := Lib.hid (HBL.out.trans (d1.mono HBL.out.size))
        clear d1
        go_wp2_with fail
        refine (sjGraph_any _ _ _ _ g p _ HG8.out HO8.out.gr (by omega) (by omega)).mono ?_
        rintro e v2 ⟨rfl, d2⟩
        rw [← HZ.out]
        have HO9 := Lib.hid (HO8.out.keep' d2)
        have HG9 := Lib.hid (HG8.out.below d2)
        have HD2 := Lib.hid (HD1.out.trans (d2.mono HD1.out.size))
        clear d2
        go_wp2_with fail
        refine (HCP.out _ _ _ HO9.out.gr).mono ?_
        rintro e v3 ⟨rfl, d3⟩
        have HG10 := Lib.hid (HG9.out.below d3)
        have HD3 := Lib.hid (HD2.out.trans (d3.mono HD2.out.size))
        clear d3
        go_wp2_with fail
        refine (HCG.out _ HG10.out).mono ?_
        rintro e v4 ⟨rfl, d4⟩
        have HD4 := Lib.hid (HD3.out.trans (d4.mono HD3.out.size))
        clear d4
        go_wp2_with fail
        go_ret
        exact ⟨rfl, below_trans_self HB1.out (HT6.out.trans (HD4.out.mono HT6.out.size))⟩
end Go.Proofs.Ytimgkjlhahapnab
