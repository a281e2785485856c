/-
  The law FnRunGraph, walked.
-/
import Derived.Test.YteodlcgmncchpaaDoorDrawMore
import Derived.Test.YteodlcgmncchpaaDoorRunSteps
import Derived.Test.YteodlcgmncchpaaDoorNameOf
import Derived.IntWalk
namespace Go.Proofs.YteodlcgmncchpaaDoor
open Go.RowKit Go.Sort

/-- The three words lie in their variable. -/
def EndsIn (w : World) : Prop :=
  0 < w.heap.size ∧ w.cell? ⟨0, 0, none⟩ = some (.string wStop) ∧ w.cell? ⟨0, 1, none⟩ = some (.string wAsk) ∧ w.cell? ⟨0, 2, none⟩ = some (.string wLong)

theorem EndsIn.below {w w' : World} (h : EndsIn w) (hb : Below w.heap.size w w') : EndsIn w' := by
  obtain ⟨h0, h1, h2, h3⟩ := h
  have hs := hb.size
  exact ⟨by omega, (hb.cell (p := ⟨_, _, none⟩) h0).trans h1, (hb.cell (p := ⟨_, _, none⟩) h0).trans h2, (hb.cell (p := ⟨_, _, none⟩) h0).trans h3⟩

set_option maxRecDepth 100000 in
set_option maxHeartbeats 6400000 in
theorem fnRunGraph_walk (A B : Option Addr) (la ca lb cb : Nat) (w : World) (hA : Bytes w A la) (hBy : Bytes w B lb) (h1 : la ≤ ca) (h2 : lb ≤ cb) (h3 : ca ≤ 9223372036854775807) (h4 : cb ≤ 9223372036854775807) (hE : EndsIn w) :
    Calls Tryd.prog 4 #[.slice A la ca, .slice B lb cb] w fun e w' => e = .returned (.bool true) ∧ Below w.heap.size w w' := by
  by_cases g1 : (1048576 : Int) < la
  · clear hA hBy hE
    go_enter Tryd.func4, Tryd.ntmps4
    go_wp2_with fail
    go_ret
    exact ⟨rfl, Below.refl _ _⟩
  by_cases g2 : (1048576 : Int) < lb
  · clear hA hBy hE
    go_enter Tryd.func4, Tryd.ntmps4
    go_wp2_with fail
    go_ret
    exact ⟨rfl, Below.refl _ _⟩
  have HA := Lib.hid (drawRunGraph_any A la ca w hA h1 h3)
  have HBC := Lib.hid (fun w (h : Bytes w B lb) => drawChoices_any B lb cb w h h2 h4)
  have HBN := Lib.hid (fun w (h : Bytes w B lb) => drawEnd_any B lb cb w h h2 h4)
  have HBY := Lib.hid hBy
  have HEI := Lib.hid hE
  clear hA hBy hE
  go_enter Tryd.func4, Tryd.ntmps4
  go_wp2_with fail
  refine HA.out.mono ?_
  intro e w1 hd1
  obtain ⟨A1, c1, g, s, rfl, hc1, gg, hn1, hs100, b1⟩ := drawnRun_of hd1
  have HB1 := Lib.hid b1
  have HBY1 := Lib.hid (HBY.out.below b1)
  have HEI1 := Lib.hid (HEI.out.below b1)
  obtain ⟨x, hx⟩ : ∃ x, x = runT g s := ⟨_, rfl⟩
  obtain ⟨y, hy⟩ : ∃ y, y = runE g s := ⟨_, rfl⟩
  obtain ⟨v, hv⟩ : ∃ v, v = runB g s := ⟨_, rfl⟩
  have HI := Lib.hid (fun w (h : Gr w A1 g) => (implRun_any A1 c1 g s w h (by omega) (by omega)).mono fun e w' h => show e = .returned (.tuple #[.string x, .int .i64 y, .bool v]) ∧ Below w.heap.size w w' from hx ▸ hy ▸ hv ▸ h)
  have HS := Lib.hid (fun w (h : Gr w A1 g) => (specRun_any A1 c1 g s w h (by omega) hc1 (by omega)).mono fun e w' h => show e = .returned (.tuple #[.string x, .int .i64 y, .bool v]) ∧ Below w.heap.size w w' from hx ▸ hy ▸ hv ▸ h)
  have HT := Lib.hid (fun w (h : Gr w A1 g) => implTrace_any A1 c1 g x w h (by omega))
  have HNI := Lib.hid (fun w (h : Gr w A1 g) s => implNext_any A1 c1 g s w h (by omega))
  have HX := Lib.hid hx
  have HY := Lib.hid hy
  have HV := Lib.hid hv
  clear hd1 b1 hx hy hv
  go_wp2_with fail
  refine (HI.out w1 gg).mono ?_
  rintro e w2 ⟨rfl, b2⟩
  have gg2 := gg.below b2
  have HBY2 := Lib.hid (HBY1.out.below b2)
  have HEI2 := Lib.hid (HEI1.out.below b2)
  have HB2 := Lib.hid (below_trans_self HB1.out b2)
  clear b2
  go_wp2_with fail
  refine (HS.out w2 gg2).mono ?_
  rintro e w3 ⟨rfl, b3⟩
  have gg3 := gg2.below b3
  have HBY3 := Lib.hid (HBY2.out.below b3)
  have HEI3 := Lib.hid (HEI2.out.below b3)
  have HB3 := Lib.hid (below_trans_self HB2.out b3)
  clear b3
  go_wp2_with fail
  refine (HBC.out w3 HBY3.out).mono ?_
  rintro e w4 ⟨xs, rfl, hxs, b4⟩
  have gg4 := gg3.below b4
  have HBY4 := Lib.hid (HBY3.out.below b4)
  have HEI4 := Lib.hid (HEI3.out.below b4)
  have HB4 := Lib.hid (below_trans_self HB3.out b4)
  clear b4
  go_wp2_with fail
  refine (HBN.out w4 HBY4.out).mono ?_
  rintro e w5 ⟨n, rfl, b5⟩
  have gg5 := gg4.below b5
  have HEI5 := Lib.hid (HEI4.out.below b5)
  have HB5 := Lib.hid (below_trans_self HB4.out b5)
  clear b5 gg gg2 gg3 gg4
  obtain ⟨cv, hcv⟩ : ∃ cv, cv = choicesB xs := ⟨_, rfl⟩
  have HIC := Lib.hid (fun w => (implChoices_any xs w (by omega)).mono fun e w' h => show e = .returned (.bool cv) ∧ Below w.heap.size w w' from hcv ▸ h)
  have HSC := Lib.hid (fun w => (specChoices_any xs w (by omega)).mono fun e w' h => show e = .returned (.bool cv) ∧ Below w.heap.size w w' from hcv ▸ h)
  clear hcv hxs
  obtain ⟨wd, hwd⟩ : ∃ wd, wd = endWord n := ⟨_, rfl⟩
  have HIN := Lib.hid (fun w (h : EndsIn w) => (implName_any n w h.2.1 h.2.2.1 h.2.2.2).mono fun e w' h => show e = .returned (.string wd) ∧ w = w' from ⟨hwd ▸ h.1, h.2.symm⟩)
  have HSN := Lib.hid (fun w => (specName_any n w).mono fun e w' h => show e = .returned (.string wd) ∧ w = w' from ⟨hwd ▸ h.1, h.2.symm⟩)
  clear hwd
  have x1 : (x.toList == x.toList) = true := by simp
  have x2 : (wd.toList == wd.toList) = true := by simp
  have y1 : (y == y) = true := by simp
  have y2 : (y != y) = false := by simp
  have z2 : (cv != cv) = false := by simp
  have z1 : (cv == cv) = true := by simp
  cases v with
  | false =>
    go_wp2_with fail
    refine (HIC.out w5).mono ?_
    rintro e w6 ⟨rfl, b6⟩
    have HEI6 := Lib.hid (HEI5.out.below b6)
    have HB6 := Lib.hid (below_trans_self HB5.out b6)
    clear b6
    go_wp2_with fail
    refine (HSC.out w6).mono ?_
    rintro e w7 ⟨rfl, b7⟩
    have HEI7 := Lib.hid (HEI6.out.below b7)
    have HB7 := Lib.hid (below_trans_self HB6.out b7)
    clear b7
    go_wp2_with fail
    refine (HIN.out w7 HEI7.out).mono ?_
    rintro e _ ⟨rfl, rfl⟩
    go_wp2_with fail
    refine (HSN.out w7).mono ?_
    rintro e _ ⟨rfl, rfl⟩
    go_wp2_with fail
    refine (HIC.out w7).mono ?_
    rintro e w8 ⟨rfl, b8⟩
    have HEI8 := Lib.hid (HEI7.out.below b8)
    have HB8 := Lib.hid (below_trans_self HB7.out b8)
    clear b8
    go_wp2_with fail
    refine (HSC.out w8).mono ?_
    rintro e w9 ⟨rfl, b9⟩
    have HEI9 := Lib.hid (HEI8.out.below b9)
    have HB9 := Lib.hid (below_trans_self HB8.out b9)
    clear b9
    go_wp2_with fail
    refine (HIN.out w9 HEI9.out).mono ?_
    rintro e _ ⟨rfl, rfl⟩
    go_wp2_with fail
    refine (HSN.out w9).mono ?_
    rintro e _ ⟨rfl, rfl⟩
    go_wp2_with fail
    go_ret
    exact ⟨rfl, HB9.out⟩
  | true =>
    have hvg : validB g = true := by
      have h := HV.out.symm
      unfold runB at h
      exact (Bool.and_eq_true_iff.1 h).1
    have hsz := run_size HV.out.symm
    have hle := runOf_le g s
    have hx60 : x.size ≤ 60 := by rw [HX.out]; omega
    have hx0 : 0 < x.size := by
      rw [HX.out, hsz]
      obtain ⟨e0, r0, h0⟩ := runL_pos (g := g) (m := 59) (x := 0) (left := s.data.toList)
      unfold runOf
      rw [h0]; simp
    have HTR := Lib.hid (fun w (h : Gr w A1 g) => (HT.out w h).mono fun e w' h => show e = .returned (.bool true) ∧ Below w.heap.size w w' from (by rw [HX.out, trace_run HV.out.symm] at h; exact h))
    have HVG := Lib.hid hvg
    have HR0 := Lib.hid (runAt_start HV.out.symm)
    clear hvg hsz hle
    go_wp2_with fail
    refine (HIC.out w5).mono ?_
    rintro e w6 ⟨rfl, b6⟩
    have gg6 := gg5.below b6
    have HEI6 := Lib.hid (HEI5.out.below b6)
    have HB6 := Lib.hid (below_trans_self HB5.out b6)
    clear b6
    go_wp2_with fail
    refine (HSC.out w6).mono ?_
    rintro e w7 ⟨rfl, b7⟩
    have gg7 := gg6.below b7
    have HEI7 := Lib.hid (HEI6.out.below b7)
    have HB7 := Lib.hid (below_trans_self HB6.out b7)
    clear b7 gg5 gg6
    go_wp2_with fail
    refine (HIN.out w7 HEI7.out).mono ?_
    rintro e _ ⟨rfl, rfl⟩
    go_wp2_with fail
    refine (HSN.out w7).mono ?_
    rintro e _ ⟨rfl, rfl⟩
    go_wp2_with fail
    clear x1 x2 y1 y2 z1 z2
    go_loopw [15, 111] (fun uv i wr => ∃ (k u xx : Nat), k < x.size ∧ i = .int .i64 k ∧ uv = .int .i64 u ∧ u ≤ s.size ∧ Hid (RunAt g s k u xx) ∧ Below w.heap.size w wr ∧ Gr wr A1 g) (fun _ i _ => x.size - (intOf i).toNat)
    case atStart => exact ⟨0, 0, 0, hx0, rfl, rfl, Nat.zero_le _, HR0.out, HB7.out, gg7⟩
    case round =>
      obtain ⟨k, u, xx, hk, rfl, rfl, hus, HRA, hB, ggr⟩ := hrel
      have HB := Lib.hid hB
      clear hB
      have hst := runAt_round HV.out.symm HRA.out (by rw [← HX.out]; exact hk)
      rw [← HX.out, ← HY.out] at hst
      obtain ⟨hxl, hcut, hor⟩ := hst
      have hpk := posOf_name HVG.out hxl
      have e1 : nextVal g (x.extract k (k + 1)) = g[xx].2 := by rw [hcut]; exact nextVal_some HVG.out hpk hxl
      have e2 : nextHas g (x.extract k (k + 1)) = true := by rw [hcut]; exact nextHas_some HVG.out hpk
      have hN := fun w h => HNI.out w h (x.extract k (k + 1))
      simp only [e1, e2] at hN
      obtain ⟨nx, hnx⟩ : ∃ nx, nx = g[xx].2 := ⟨_, rfl⟩
      rw [← hnx] at hN hor
      have HN := Lib.hid hN
      have hk1 : k + 1 ≤ x.size := by omega
      clear hN e1 e2 hnx hcut hpk
      rcases hor with ⟨hlast, hcs⟩ | ⟨hlt, hcs⟩
      · have q1 : (((k : Int) + 1) == (x.size : Int)) = true := by simp; omega
        rcases hcs with ⟨n0, hy0⟩ | ⟨n1, hy2, hx6⟩ | ⟨n2, hy1, hue⟩ | ⟨n2, hy2, hul, hx6⟩
        · have q2 : (y == 0) = true := by rw [hy0]; rfl
          have q3 : (nx.toList == ([] : List UInt8)) = true := by
            have : nx = ⟨#[]⟩ := ba_ext (List.eq_nil_of_length_eq_zero (by rw [list_of_size]; exact n0))
            rw [this]
            simp only [Lib.toList_data]; rfl
          have q4 : (y == 1) = false := by rw [hy0]; rfl
          have q5 : ((nx.size : Int) == 2) = false := by rw [n0]; rfl
          have q6 : (y != 2) = true := by rw [hy0]; rfl
          clear n0 hy0 hlast
          go_wp2_with fail
          refine (HN.out wr ggr).mono ?_
          rintro e v1 ⟨rfl, d1⟩
          have gv1 := ggr.below d1
          have HD1 := Lib.hid (HB.out.trans (d1.mono HB.out.size))
          clear d1
          go_wp2_with fail
          refine (HTR.out v1 gv1).mono ?_
          rintro e v2 ⟨rfl, d2⟩
          have HD2 := Lib.hid (HD1.out.trans (d2.mono HD1.out.size))
          clear d2
          go_wp2_with fail
          go_ret
          exact ⟨rfl, HD2.out⟩
        · have q2 : (y == 0) = false := by rw [hy2]; rfl
          have q3 : (nx.toList == ([] : List UInt8)) = false := beq_empty (by omega)
          have q4 : (y == 1) = false := by rw [hy2]; rfl
          have q5 : ((nx.size : Int) == 2) = false := by rw [n1]; rfl
          have q6 : (y != 2) = false := by rw [hy2]; rfl
          have q7 : ((x.size : Int) == 60) = true := by rw [hx6]; rfl
          clear n1 hy2 hlast hx6
          go_wp2_with fail
          refine (HN.out wr ggr).mono ?_
          rintro e v1 ⟨rfl, d1⟩
          have gv1 := ggr.below d1
          have HD1 := Lib.hid (HB.out.trans (d1.mono HB.out.size))
          clear d1
          go_wp2_with fail
          refine (HTR.out v1 gv1).mono ?_
          rintro e v2 ⟨rfl, d2⟩
          have HD2 := Lib.hid (HD1.out.trans (d2.mono HD1.out.size))
          clear d2
          go_wp2_with fail
          go_ret
          exact ⟨rfl, HD2.out⟩
        · have q2 : (y == 0) = false := by rw [hy1]; rfl
          have q3 : (nx.toList == ([] : List UInt8)) = false := beq_empty (by omega)
          have q4 : (y == 1) = true := by rw [hy1]; rfl
          have q5 : ((nx.size : Int) == 2) = true := by rw [n2]; rfl
          have q8 : ((u : Int) == (s.size : Int)) = true := by rw [hue]; simp
          have q6 : (y != 2) = true := by rw [hy1]; rfl
          clear n2 hy1 hlast hue
          go_wp2_with fail
          refine (HN.out wr ggr).mono ?_
          rintro e v1 ⟨rfl, d1⟩
          have gv1 := ggr.below d1
          have HD1 := Lib.hid (HB.out.trans (d1.mono HB.out.size))
          clear d1
          go_wp2_with fail
          refine (HTR.out v1 gv1).mono ?_
          rintro e v2 ⟨rfl, d2⟩
          have HD2 := Lib.hid (HD1.out.trans (d2.mono HD1.out.size))
          clear d2
          go_wp2_with fail
          go_ret
          exact ⟨rfl, HD2.out⟩
        · have q2 : (y == 0) = false := by rw [hy2]; rfl
          have q3 : (nx.toList == ([] : List UInt8)) = false := beq_empty (by omega)
          have q4 : (y == 1) = false := by rw [hy2]; rfl
          have q5 : ((nx.size : Int) == 2) = true := by rw [n2]; rfl
          have q8 : ((u : Int) == (s.size : Int)) = false := by simp; omega
          have q6 : (y != 2) = false := by rw [hy2]; rfl
          have q7 : ((x.size : Int) == 60) = true := by rw [hx6]; rfl
          clear n2 hy2 hlast hul hx6
          go_wp2_with fail
          refine (HN.out wr ggr).mono ?_
          rintro e v1 ⟨rfl, d1⟩
          have gv1 := ggr.below d1
          have HD1 := Lib.hid (HB.out.trans (d1.mono HB.out.size))
          clear d1
          go_wp2_with fail
          refine (HTR.out v1 gv1).mono ?_
          rintro e v2 ⟨rfl, d2⟩
          have HD2 := Lib.hid (HD1.out.trans (d2.mono HD1.out.size))
          clear d2
          go_wp2_with fail
          go_ret
          exact ⟨rfl, HD2.out⟩
      · have q1 : (((k : Int) + 1) == (x.size : Int)) = false := by simp; omega
        have hk2 : k + 2 ≤ x.size := by omega
        rcases hcs with ⟨n1, hto, yy, hra⟩ | ⟨n2, hu, ⟨yy, hra⟩, hhas, hlr⟩
        · have q2 : ((nx.size : Int) == 1) = true := by rw [n1]; rfl
          have q3 : ((x.extract (k + 1) (k + 2)).toList == nx.toList) = true := by rw [hto]; simp
          have HRA2 := Lib.hid hra
          clear n1 hto hra
          go_wp2_with fail
          refine (HN.out wr ggr).mono ?_
          rintro e v1 ⟨rfl, d1⟩
          have gv1 := ggr.below d1
          have HD1 := Lib.hid (HB.out.trans (d1.mono HB.out.size))
          clear d1
          go_wp2_with fail
          go_roundw
          case rel => exact ⟨k + 1, u, yy, hlt, by go_num, rfl, hus, HRA2.out, HD1.out, gv1⟩
          case measure => simp [intOf]; omega
        · have q2 : ((nx.size : Int) == 1) = false := by rw [n2]; rfl
          have q3 : ((nx.size : Int) == 2) = true := by rw [n2]; rfl
          have HRA2 := Lib.hid hra
          have HSJ := Lib.hid (fun w => (sjHas_any nx (x.extract (k + 1) (k + 2)) w (by omega)).mono fun e w' h => show e = .returned (.bool true) ∧ w = w' from (by rw [hhas] at h; exact h))
          have o3 : (1 : Int) ≤ nx.size := by omega
          have o3' : 1 ≤ nx.size := by omega
          have u1 : decide ((s.size : Int) ≤ (u : Int)) = false := by simp; omega
          have u2 : (u : Int) < (s.size : Int) := by omega
          have u3 : (0 : Int) ≤ (u : Int) := by omega
          rcases hlr with ⟨hc, hq⟩ | ⟨hc, hq⟩
          · have q4 : ((s[u].toNat : Int) == 108) = true := by rw [hc]; rfl
            have q5 : ((x.extract (k + 1) (k + 2)).toList == (nx.extract 0 1).toList) = true := by rw [hq]; simp
            clear hra hhas hc hq n2
            go_wp2_with fail
            refine (HN.out wr ggr).mono ?_
            rintro e v1 ⟨rfl, d1⟩
            have gv1 := ggr.below d1
            have HD1 := Lib.hid (HB.out.trans (d1.mono HB.out.size))
            clear d1
            go_wp2_with fail
            have tS : ∀ n, Calls Tryd.prog 16 #[.string nx, .string (x.extract (k + 1) (k + 2))] (v1.drewN n) fun e w'' => e = .returned (.bool true) ∧ ∃ m, w'' = v1.drewN m := fun n => Calls.quiet_of_same ((HSJ.out (v1.drewN n)).mono fun _ _ ⟨a, b⟩ => ⟨a, b.symm⟩)
            go_quiet (with_reducible exact tS _)
            clear tS
            go_wp2_with fail
            go_roundw
            case rel => exact ⟨k + 1, u + 1, yy, hlt, by go_num, by go_num, hu, HRA2.out, HD1.out.trans (below_drewN' v1 nq HD1.out.size), gv1.below (below_drewN v1 nq)⟩
            case measure => simp [intOf]; omega
          · have q4 : ((s[u].toNat : Int) == 108) = false := byte_ne (b := 108) hc
            have q5 : ((x.extract (k + 1) (k + 2)).toList == (nx.extract 0 1).toList) = false := by
              cases hb : ((x.extract (k + 1) (k + 2)).toList == (nx.extract 0 1).toList) with
              | false => rfl
              | true => exact absurd (beq_toList.1 hb) hq
            clear hra hhas hc hq n2
            go_wp2_with fail
            refine (HN.out wr ggr).mono ?_
            rintro e v1 ⟨rfl, d1⟩
            have gv1 := ggr.below d1
            have HD1 := Lib.hid (HB.out.trans (d1.mono HB.out.size))
            clear d1
            go_wp2_with fail
            have tS : ∀ n, Calls Tryd.prog 16 #[.string nx, .string (x.extract (k + 1) (k + 2))] (v1.drewN n) fun e w'' => e = .returned (.bool true) ∧ ∃ m, w'' = v1.drewN m := fun n => Calls.quiet_of_same ((HSJ.out (v1.drewN n)).mono fun _ _ ⟨a, b⟩ => ⟨a, b.symm⟩)
            go_quiet (with_reducible exact tS _)
            clear tS
            go_wp2_with fail
            go_roundw
            case rel => exact ⟨k + 1, u + 1, yy, hlt, by go_num, by go_num, hu, HRA2.out, HD1.out.trans (below_drewN' v1 nq HD1.out.size), gv1.below (below_drewN v1 nq)⟩
            case measure => simp [intOf]; omega
end Go.Proofs.YteodlcgmncchpaaDoor
