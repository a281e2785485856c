/-
  The law FnNextPrev, walked.
-/
import Derived.Test.YtimgkjlhahapnaaPrevs
import Derived.Test.YtimgkjlhahapnaaNextOf
import Derived.Test.YtimgkjlhahapnaaNamesOf
namespace Go.Proofs.Ytimgkjlhahapnaa
open Go.RowKit Go.Sort

/-- Each jump is counted at its end as at its beginning. -/
theorem sum_prevs {g : List Bl} (hv : validB g = true) : sumTo (fun i => (prevN g i g.length).length) g.length = nexts g := by
  rw [sum_prev hv g.length (Nat.le_refl _)]
  have key : ∀ k, k ≤ g.length → sumTo (fun j => (nxt g j).length) k = nexts (g.take k) := by
    intro k
    induction k with
    | zero => intro _; simp [sumTo, nexts]
    | succ k ih => intro h; rw [sumTo, ih (by omega), nexts_take g k (by omega), nxt_length (by omega)]
  have := key g.length (Nat.le_refl _)
  rwa [List.take_length] at this

set_option maxRecDepth 100000 in
set_option maxHeartbeats 3200000 in
theorem nextPrev_walk (A : Option Addr) (la ca : Nat) (w : World) (hA : Bytes w A la) (h1 : la ≤ ca) (h3 : ca ≤ 9223372036854775807) :
    Calls Try.prog 12 #[.slice A la ca] w fun e w' => e = .returned (.bool true) ∧ Below w.heap.size w w' := by
  by_cases g1 : (1048576 : Int) < la
  · clear hA
    go_enter Try.func12, Try.ntmps12
    go_wp2_with fail
    go_ret
    exact ⟨rfl, Below.refl _ _⟩
  have HA := Lib.hid (drawNextOf_any A la ca w hA h1 h3)
  clear hA
  go_enter Try.func12, Try.ntmps12
  go_wp2_with fail
  refine HA.out.mono ?_
  intro e w1 hd1
  obtain ⟨A1, c1, g, s, rfl, hc1, gg, hn1, hs2, b1⟩ := drawnPlace_of hd1
  have HNI := Lib.hid (fun w (h : Gr w A1 g) s => implNext_any A1 c1 g s w h (by omega))
  have HPI := Lib.hid (fun w (h : Gr w A1 g) s => implPrev_any A1 c1 g s w h (by omega))
  have HNS := Lib.hid (fun w (h : Gr w A1 g) s => specNext_any A1 c1 g s w h (by omega) hc1)
  have HPS := Lib.hid (fun w (h : Gr w A1 g) s => specPrev_any A1 c1 g s w h (by omega) hc1)
  have HCI := Lib.hid (fun w (h : Gr w A1 g) => implCount_any A1 c1 g w h (by omega))
  have HCS := Lib.hid (fun w (h : Gr w A1 g) => specCount_any A1 c1 g w h (by omega) hc1)
  have HNN := Lib.hid (fun w (h : Gr w A1 g) => implNames_any A1 c1 g w h (by omega))
  have HB1 := Lib.hid b1
  clear hd1 b1
  go_wp2_with fail
  refine (HNI.out w1 gg s).mono ?_
  rintro e w2 ⟨rfl, b2⟩
  have gg2 := gg.below b2
  have HB2 := Lib.hid (below_trans_self HB1.out b2)
  clear b2
  obtain ⟨x, hx⟩ : ∃ x, x = nextVal g s := ⟨_, rfl⟩
  obtain ⟨p, hp⟩ : ∃ p, p = prevVal g s := ⟨_, rfl⟩
  obtain ⟨y, hy⟩ : ∃ y, y = nextHas g s := ⟨_, rfl⟩
  rw [← hx, ← hy]
  have hPI := HPI.out w2 gg2 s
  have hNS := fun w h => HNS.out w h s
  have hPS := fun w h => HPS.out w h s
  rw [← hp, ← hy] at hPI
  simp only [← hx, ← hy] at hNS
  simp only [← hp, ← hy] at hPS
  have HPI2 := Lib.hid hPI
  have HNS2 := Lib.hid hNS
  have HPS2 := Lib.hid hPS
  have HX := Lib.hid hx
  have HP := Lib.hid hp
  have HY := Lib.hid hy
  clear hPI hNS hPS hx hp hy
  go_wp2_with fail
  refine HPI2.out.mono ?_
  rintro e w3 ⟨rfl, b3⟩
  have gg3 := gg2.below b3
  have HB3 := Lib.hid (below_trans_self HB2.out b3)
  clear b3
  go_wp2_with fail
  refine (HNS2.out w3 gg3).mono ?_
  rintro e w4 ⟨rfl, b4⟩
  have gg4 := gg3.below b4
  have HB4 := Lib.hid (below_trans_self HB3.out b4)
  clear b4
  go_wp2_with fail
  refine (HPS2.out w4 gg4).mono ?_
  rintro e w5 ⟨rfl, b5⟩
  have gg5 := gg4.below b5
  have HB5 := Lib.hid (below_trans_self HB4.out b5)
  clear b5
  obtain ⟨cv, hcv⟩ : ∃ cv, cv = countVal g := ⟨_, rfl⟩
  have hCI := HCI.out
  have hCS := HCS.out
  simp only [← hcv] at hCI hCS
  have HCI2 := Lib.hid hCI
  have HCS2 := Lib.hid hCS
  have HCV := Lib.hid hcv
  clear hCI hCS hcv
  cases y with
  | false =>
    go_wp2_with fail
    refine (HCI2.out w5 gg5).mono ?_
    rintro e w6 ⟨rfl, b6⟩
    have gg6 := gg5.below b6
    go_wp2_with fail
    refine (HCS2.out w6 gg6).mono ?_
    rintro e w7 ⟨rfl, b7⟩
    have gg7 := gg6.below b7
    go_wp2_with fail
    refine (HCI2.out w7 gg7).mono ?_
    rintro e w8 ⟨rfl, b8⟩
    have gg8 := gg7.below b8
    go_wp2_with fail
    refine (HCS2.out w8 gg8).mono ?_
    rintro e w9 ⟨rfl, b9⟩
    go_wp2_with fail
    go_ret
    exact ⟨rfl, below_trans_self (below_trans_self (below_trans_self (below_trans_self HB5.out b6) b7) b8) b9⟩
  | true =>
    go_wp2_with fail
    refine (HCI2.out w5 gg5).mono ?_
    rintro e w6 ⟨rfl, b6⟩
    have gg6 := gg5.below b6
    go_wp2_with fail
    refine (HCS2.out w6 gg6).mono ?_
    rintro e w7 ⟨rfl, b7⟩
    have gg7 := gg6.below b7
    have HB7 := Lib.hid (below_trans_self (below_trans_self HB5.out b6) b7)
    clear b6 b7
    go_wp2_with fail
    refine (HNN.out w7 gg7).mono ?_
    rintro e w8 ⟨rfl, b8⟩
    have gg8 := gg7.below b8
    have HB8 := Lib.hid (below_trans_self HB7.out b8)
    clear b8
    have hy2 : validB g = true ∧ ∃ u, posOf g s = some u := by
      have h := HY.out.symm
      unfold nextHas at h
      obtain ⟨h1, h2⟩ := Bool.and_eq_true_iff.1 h
      exact ⟨h1, Option.isSome_iff_exists.1 h2⟩
    obtain ⟨hv, u, hu⟩ := hy2
    obtain ⟨hul, hus⟩ := posOf_is hu
    obtain ⟨nm, hnm⟩ : ∃ nm, nm = namesVal g := ⟨_, rfl⟩
    have hnm2 : nm = namesAt g (List.range g.length) := by rw [hnm, namesVal_yes hv, namesAt_all g g.length (Nat.le_refl _), List.take_length]
    have hnmz : nm.size = g.length := by rw [hnm2, namesAt_size hv _ (fun i hi => List.mem_range.1 hi), List.length_range]
    have h26 := (valid_iff.1 hv).2.1
    rw [← hnm]
    have HV := Lib.hid hv
    have HNM := Lib.hid hnm2
    have HXX := Lib.hid (show x = g[u].2 from HX.out.trans (nextVal_some hv hu hul))
    have HPP := Lib.hid (show p = namesAt g (prevN g u g.length) by rw [HP.out, prevVal_some hv hu, ← hus, prevs_all hv hul])
    have HUS := Lib.hid hus
    have HCC := Lib.hid (show cv = (sumTo (fun i => (prevN g i g.length).length) g.length : Nat) by rw [HCV.out, countVal_yes hv, sum_prevs hv])
    have htot := nexts_le g
    have hsum : sumTo (fun i => (prevN g i g.length).length) g.length ≤ 50 := by rw [sum_prevs hv]; omega
    clear hnm hnm2 hu hv hus
    go_wp2_with fail
    go_loopw [15, 114] (fun j i wr => ∃ k : Nat, k ≤ g.length ∧ i = .int .i64 k ∧ j = .int .i64 (sumTo (fun i => (prevN g i g.length).length) k : Nat) ∧ Below w.heap.size w wr ∧ Gr wr A1 g) (fun _ i _ => g.length - (intOf i).toNat)
    case atStart => exact ⟨0, Nat.zero_le _, rfl, rfl, HB8.out, gg8⟩
    case round =>
      obtain ⟨k, hk, rfl, rfl, hB, ggr⟩ := hrel
      have hle := sumTo_mono (fun i => (prevN g i g.length).length) hk
      obtain ⟨sk, hsk⟩ : ∃ sk, sk = sumTo (fun i => (prevN g i g.length).length) k := ⟨_, rfl⟩
      rw [← hsk] at hle ⊢
      have HSK := Lib.hid hsk
      have HB := Lib.hid hB
      clear hsk hB
      by_cases hlt : k < g.length
      · have hkn : k + 1 ≤ nm.size := by omega
        have hcut : nm.extract k (k + 1) = g[k].1 := by
          obtain ⟨_, e⟩ := namesAt_cut HV.out (l := List.range g.length) (fun i hi => List.mem_range.1 hi) (k := k) (by simpa using hlt)
          rw [HNM.out, e]; congr 2; simp
        have hpk := posOf_name HV.out hlt
        obtain ⟨t, ht⟩ : ∃ t, t = nm.extract k (k + 1) := ⟨_, rfl⟩
        have htg : t = g[k].1 := ht.trans hcut
        have hN1 := HNI.out wr ggr t
        have e1 : nextVal g t = g[k].2 := by rw [htg]; exact nextVal_some HV.out hpk hlt
        have e2 : nextHas g t = true := by rw [htg]; exact nextHas_some HV.out hpk
        have e3 : prevVal g t = namesAt g (prevN g k g.length) := by rw [htg, prevVal_some HV.out hpk, prevs_all HV.out hlt]
        obtain ⟨o, ho⟩ : ∃ o, o = g[k].2 := ⟨_, rfl⟩
        obtain ⟨bk, hbk⟩ : ∃ bk, bk = namesAt g (prevN g k g.length) := ⟨_, rfl⟩
        rw [e1, e2, ← ho] at hN1
        have hP1 := fun w h => HPI.out w h t
        simp only [e3, e2, ← hbk] at hP1
        have hbz : bk.size = (prevN g k g.length).length := by rw [hbk, namesAt_size HV.out _ (prevN_lt (Nat.le_refl _))]
        have hstep : sumTo (fun i => (prevN g i g.length).length) (k + 1) = sk + bk.size := by rw [sumTo, ← HSK.out, hbz]
        have hle2 := sumTo_mono (fun i => (prevN g i g.length).length) (show k + 1 ≤ g.length by omega)
        rw [hstep] at hle2
        have hos : o.size ≤ 1048576 := by rw [ho]; have := (nextB_iff.1 (nextsB_iff.1 (valid_iff.1 HV.out).2.2.2 k hlt)).1; omega
        have hxs : x.size ≤ 1048576 := by rw [HXX.out]; have := (nextB_iff.1 (nextsB_iff.1 (valid_iff.1 HV.out).2.2.2 u hul)).1; omega
        have hps : p.size ≤ 1048576 := by rw [HPP.out, namesAt_size HV.out _ (prevN_lt (Nat.le_refl _))]; have := List.length_filter_le (fun j => decide (u ∈ nxt g j)) (List.range g.length); unfold prevN; simp at this; omega
        have hbs : bk.size ≤ 1048576 := by omega
        have f1 : hasB o s = decide (u ∈ nxt g k) := by rw [ho, ← HUS.out]; exact hasB_next HV.out hlt hul
        have f2 : hasB p t = decide (u ∈ nxt g k) := by rw [HPP.out, htg, hasB_namesAt HV.out (prevN_lt (Nat.le_refl _)) hlt]; simp [prevN, hlt]
        have f3 : hasB bk s = decide (k ∈ nxt g u) := by rw [hbk, ← HUS.out, hasB_namesAt HV.out (prevN_lt (Nat.le_refl _)) hul]; simp [prevN, hul]
        have f4 : hasB x t = decide (k ∈ nxt g u) := by rw [HXX.out, htg]; exact hasB_next HV.out hul hlt
        generalize decide (u ∈ nxt g k) = q1 at f1 f2
        generalize decide (k ∈ nxt g u) = q2 at f3 f4
        have s1 : ∀ w m, Calls Try.prog 49 #[.string o, .string s] (World.drewN w m) fun e w'' => e = .returned (.bool q1) ∧ ∃ q, w'' = w.drewN q := fun w m => by
          have := sjHas_any o s (w.drewN m) hos; rw [f1] at this; exact Calls.quiet_of_same (this.mono fun _ _ ⟨a, b⟩ => ⟨a, b.symm⟩)
        have s2 : ∀ w m, Calls Try.prog 49 #[.string p, .string t] (World.drewN w m) fun e w'' => e = .returned (.bool q1) ∧ ∃ q, w'' = w.drewN q := fun w m => by
          have := sjHas_any p t (w.drewN m) hps; rw [f2] at this; exact Calls.quiet_of_same (this.mono fun _ _ ⟨a, b⟩ => ⟨a, b.symm⟩)
        have s3 : ∀ w m, Calls Try.prog 49 #[.string bk, .string s] (World.drewN w m) fun e w'' => e = .returned (.bool q2) ∧ ∃ q, w'' = w.drewN q := fun w m => by
          have := sjHas_any bk s (w.drewN m) hbs; rw [f3] at this; exact Calls.quiet_of_same (this.mono fun _ _ ⟨a, b⟩ => ⟨a, b.symm⟩)
        have s4 : ∀ w m, Calls Try.prog 49 #[.string x, .string t] (World.drewN w m) fun e w'' => e = .returned (.bool q2) ∧ ∃ q, w'' = w.drewN q := fun w m => by
          have := sjHas_any x t (w.drewN m) hxs; rw [f4] at this; exact Calls.quiet_of_same (this.mono fun _ _ ⟨a, b⟩ => ⟨a, b.symm⟩)
        rw [ht] at hN1 hP1 s2 s4
        have HN1 := Lib.hid hN1
        have HP1 := Lib.hid hP1
        have S1 := Lib.hid s1
        have S2 := Lib.hid s2
        have S3 := Lib.hid s3
        have S4 := Lib.hid s4
        have HST := Lib.hid hstep
        clear hN1 hP1 s1 s2 s3 s4 f1 f2 f3 f4 hcut hpk ht htg e1 e2 e3 ho hbk hbz hstep
        go_wp2_with fail
        refine HN1.out.mono ?_
        rintro e v1 ⟨rfl, d1⟩
        have gv1 := ggr.below d1
        have HD1 := Lib.hid (HB.out.trans (d1.mono HB.out.size))
        clear d1
        go_wp2_with fail
        refine (HP1.out v1 gv1).mono ?_
        rintro e v2 ⟨rfl, d2⟩
        have gv2 := gv1.below d2
        have HD2 := Lib.hid (HD1.out.trans (d2.mono HD1.out.size))
        clear d2
        go_wp2_with fail
        have t1 := S1.out v2
        have t2 := S2.out v2
        have t3 := S3.out v2
        have t4 := S4.out v2
        go_quiet (first | with_reducible exact t1 _ | with_reducible exact t2 _ | with_reducible exact t3 _ | with_reducible exact t4 _)
        clear t1 t2 t3 t4
        go_wp2_with fail
        go_roundw
        case rel => exact ⟨k + 1, by omega, by go_num, by rw [HST.out]; go_num, HD2.out.trans (below_drewN' v2 nq HD2.out.size), gv2.below (below_drewN v2 nq)⟩
        case measure => simp [intOf]; omega
      · have hke : k = g.length := by omega
        have HFIN := Lib.hid (show cv = (sk : Int) by rw [HCC.out, HSK.out, hke])
        have hCI3 := HCI2.out wr ggr
        rw [HFIN.out] at hCI3
        have HCI3 := Lib.hid hCI3
        clear hke hCI3
        go_wp2_with fail
        refine HCI3.out.mono ?_
        rintro e v1 ⟨rfl, d1⟩
        go_wp2_with fail
        go_ret
        exact ⟨rfl, HB.out.trans (d1.mono HB.out.size)⟩
end Go.Proofs.Ytimgkjlhahapnaa
