/-
  The law FnIsTrace, walked.
-/
import Derived.Test.YtimgkjlhahapnabDrawTrace
import Derived.Test.YtimgkjlhahapnabTraceWays
import Derived.Test.YtimgkjlhahapnabNextOf
import Derived.IntWalk
namespace Go.Proofs.Ytimgkjlhahapnab
open Go.RowKit Go.Sort

set_option maxRecDepth 100000 in
set_option maxHeartbeats 3200000 in
theorem isTrace_walk (A : Option Addr) (la ca : Nat) (w : World) (hA : Bytes w A la) (h1 : la ≤ ca) (h3 : ca ≤ 9223372036854775807) :
    Calls Try.prog 12 #[.slice A la ca] w fun e w' => e = .returned (.bool true) ∧ Below w.heap.size w w' := by
  by_cases g1 : (1048576 : Int) < la
  · clear hA
    go_enter Try.func12, Try.ntmps12
    go_wp2_with fail
    go_ret
    exact ⟨rfl, Below.refl _ _⟩
  have HA := Lib.hid (drawIsTrace_any A la ca w hA h1 h3)
  clear hA
  go_enter Try.func12, Try.ntmps12
  go_wp2_with fail
  refine HA.out.mono ?_
  intro e w1 hd1
  obtain ⟨A1, c1, g, t, rfl, hc1, gg, hn1, hs100, b1⟩ := drawnRun_of hd1
  have HB1 := Lib.hid b1
  obtain ⟨v, hv⟩ : ∃ v, v = traceB g t := ⟨_, rfl⟩
  have HI := Lib.hid (fun w (h : Gr w A1 g) => (implTrace_any A1 c1 g t w h (by omega)).mono fun e w' h => show e = .returned (.bool v) ∧ Below w.heap.size w w' from hv ▸ h)
  have HS := Lib.hid (fun w (h : Gr w A1 g) => (specTrace_any A1 c1 g t w h (by omega) hc1 (by omega)).mono fun e w' h => show e = .returned (.bool v) ∧ Below w.heap.size w w' from hv ▸ h)
  have HIK := Lib.hid (fun u w (h : Gr w A1 g) => implTrace_any A1 c1 g u w h (by omega))
  have HNI := Lib.hid (fun w (h : Gr w A1 g) s => implNext_any A1 c1 g s w h (by omega))
  have HRI := Lib.hid (fun s w (h : Gr w A1 g) (hz : s.size ≤ 1000) => implRun_any A1 c1 g s w h (by omega) (by omega))
  have HV := Lib.hid hv
  clear hd1 b1 hv
  go_wp2_with fail
  refine (HI.out w1 gg).mono ?_
  rintro e w2 ⟨rfl, b2⟩
  have gg2 := gg.below b2
  have HB2 := Lib.hid (below_trans_self HB1.out b2)
  clear b2
  go_wp2_with fail
  refine (HS.out w2 gg2).mono ?_
  rintro e w3 ⟨rfl, b3⟩
  have gg3 := gg2.below b3
  have HB3 := Lib.hid (below_trans_self HB2.out b3)
  clear b3
  cases v with
  | false =>
    go_wp2_with fail
    refine (HI.out w3 gg3).mono ?_
    rintro e w4 ⟨rfl, b4⟩
    go_wp2_with fail
    go_ret
    exact ⟨rfl, below_trans_self HB3.out b4⟩
  | true =>
    go_wp2_with fail
    refine (HI.out w3 gg3).mono ?_
    rintro e w4 ⟨rfl, b4⟩
    have gg4 := gg3.below b4
    have HB4 := Lib.hid (below_trans_self HB3.out b4)
    clear b4
    have hvg := (traceB_parts HV.out.symm).1
    have HVG := Lib.hid hvg
    clear hvg
    go_wp2_with fail
    go_loopw [5, 33] (fun s i wr => ∃ (k : Nat) (c : ByteArray), k ≤ t.size ∧ i = .int .i64 k ∧ s = .string c ∧ Hid (Built g t c k) ∧ c.size ≤ k ∧ Below w.heap.size w wr ∧ Gr wr A1 g) (fun _ i _ => t.size - (intOf i).toNat)
    case atStart => exact ⟨0, ⟨#[]⟩, Nat.zero_le _, rfl, rfl, built_start HV.out.symm, Nat.le_refl _, HB4.out, gg4⟩
    case round =>
      obtain ⟨k, c, hk, rfl, rfl, HBT, hck, hB, ggr⟩ := hrel
      have HB := Lib.hid hB
      clear hB
      by_cases hlt : k < t.size
      · obtain ⟨x, hxl, hnm, p1, p2, p3, p4⟩ := built_round HVG.out HBT.out hlt
        have hI := HIK.out (t.extract 0 k) wr ggr
        rw [traceB_cut hk HV.out.symm] at hI
        have hN := HNI.out
        have hpk := posOf_name HVG.out hxl
        have e1 : nextVal g (t.extract k (k + 1)) = g[x].2 := by rw [hnm]; exact nextVal_some HVG.out hpk hxl
        have e2 : nextHas g (t.extract k (k + 1)) = true := by rw [hnm]; exact nextHas_some HVG.out hpk
        have hN := fun w h => HNI.out w h (t.extract k (k + 1))
        simp only [e1, e2] at hN
        obtain ⟨nx, hnx⟩ : ∃ nx, nx = g[x].2 := ⟨_, rfl⟩
        rw [← hnx] at hN p2 p3 p4
        have hnl : nx.size ≤ 2 := by rw [hnx]; exact (nextB_iff.1 (nextsB_iff.1 (valid_iff.1 HVG.out).2.2.2 x hxl)).1
        have HII := Lib.hid hI
        have HN := Lib.hid hN
        have hk1 : k + 1 ≤ t.size := by omega
        have hcz : c.size + 1 ≤ 1048576 := by omega
        have P1 := Lib.hid p1
        have P2 := Lib.hid p2
        have P3 := Lib.hid p3
        have P4 := Lib.hid p4
        clear hI hN e1 e2 hnx hnm hpk p1 p2 p3 p4
        by_cases hlast : k + 1 < t.size
        · have q1 : decide ((k : Int) + 1 < t.size) = true := by simp; omega
          by_cases h2 : nx.size = 2
          · have q2 : ((nx.size : Int) == 2) = true := by rw [h2]; rfl
            have hk2 : k + 2 ≤ t.size := by omega
            have l1 : 1 ≤ nx.size := by omega
            by_cases hq : ((t.extract (k + 1) (k + 2)).toList == (nx.extract 0 1).toList) = true
            · have HBT2 := Lib.hid (P3.out hlast h2 (beq_toList.1 hq))
              go_wp2_with fail
              refine (HII.out).mono ?_
              rintro e v1 ⟨rfl, d1⟩
              have gv1 := ggr.below d1
              have HD1 := Lib.hid (HB.out.trans (d1.mono HB.out.size))
              clear d1
              go_wp2_with fail
              refine (HN.out v1 gv1).mono ?_
              rintro e v2 ⟨rfl, d2⟩
              have gv2 := gv1.below d2
              have HD2 := Lib.hid (HD1.out.trans (d2.mono HD1.out.size))
              clear d2
              go_wp2_with fail
              have s1 : IntKind.i64.wrap ((k : Int) + 1) = (k : Int) + 1 := IntWalk.i64_in _ (by omega)
              have s2 : IntKind.i64.wrap ((k : Int) + 2) = (k : Int) + 2 := IntWalk.i64_in _ (by omega)
              have n1 : (0 : Int) ≤ (k : Int) + 1 := by omega
              have n2 : (0 : Int) ≤ (k : Int) + 2 := by omega
              have t1 : ((k : Int) + 1).toNat = k + 1 := by omega
              have t2 : ((k : Int) + 2).toNat = k + 2 := by omega
              have o1 : (k : Int) + 1 ≤ (k : Int) + 2 := by omega
              have o2 : (k : Int) + 2 ≤ t.size := by omega
              have o3 : (1 : Int) ≤ nx.size := by omega
              go_quiet (fail)
              clear s1 s2 n1 n2 t1 t2 o1 o2 o3
              go_wp2_with fail
              go_roundw
              case rel => exact ⟨k + 1, c ++ ⟨#[108]⟩, by omega, by go_num, rfl, HBT2, by rw [size_more]; omega, HD2.out.trans (below_drewN' v2 nq HD2.out.size), gv2.below (below_drewN v2 nq)⟩
              case measure => simp [intOf]; omega
            · have hq' : ((t.extract (k + 1) (k + 2)).toList == (nx.extract 0 1).toList) = false := by simpa using hq
              have HBT2 := Lib.hid (P4.out hlast h2 (fun e => hq (beq_toList.2 e)))
              clear hq
              go_wp2_with fail
              refine (HII.out).mono ?_
              rintro e v1 ⟨rfl, d1⟩
              have gv1 := ggr.below d1
              have HD1 := Lib.hid (HB.out.trans (d1.mono HB.out.size))
              clear d1
              go_wp2_with fail
              refine (HN.out v1 gv1).mono ?_
              rintro e v2 ⟨rfl, d2⟩
              have gv2 := gv1.below d2
              have HD2 := Lib.hid (HD1.out.trans (d2.mono HD1.out.size))
              clear d2
              go_wp2_with fail
              have s1 : IntKind.i64.wrap ((k : Int) + 1) = (k : Int) + 1 := IntWalk.i64_in _ (by omega)
              have s2 : IntKind.i64.wrap ((k : Int) + 2) = (k : Int) + 2 := IntWalk.i64_in _ (by omega)
              have n1 : (0 : Int) ≤ (k : Int) + 1 := by omega
              have n2 : (0 : Int) ≤ (k : Int) + 2 := by omega
              have t1 : ((k : Int) + 1).toNat = k + 1 := by omega
              have t2 : ((k : Int) + 2).toNat = k + 2 := by omega
              have o1 : (k : Int) + 1 ≤ (k : Int) + 2 := by omega
              have o2 : (k : Int) + 2 ≤ t.size := by omega
              have o3 : (1 : Int) ≤ nx.size := by omega
              go_quiet (fail)
              clear s1 s2 n1 n2 t1 t2 o1 o2 o3
              go_wp2_with fail
              go_roundw
              case rel => exact ⟨k + 1, c ++ ⟨#[114]⟩, by omega, by go_num, rfl, HBT2, by rw [size_more]; omega, HD2.out.trans (below_drewN' v2 nq HD2.out.size), gv2.below (below_drewN v2 nq)⟩
              case measure => simp [intOf]; omega
          · have q2 : ((nx.size : Int) == 2) = false := by simp; omega
            have HBT2 := Lib.hid (P2.out hlast h2)
            go_wp2_with fail
            refine (HII.out).mono ?_
            rintro e v1 ⟨rfl, d1⟩
            have gv1 := ggr.below d1
            have HD1 := Lib.hid (HB.out.trans (d1.mono HB.out.size))
            clear d1
            go_wp2_with fail
            refine (HN.out v1 gv1).mono ?_
            rintro e v2 ⟨rfl, d2⟩
            have gv2 := gv1.below d2
            have HD2 := Lib.hid (HD1.out.trans (d2.mono HD1.out.size))
            clear d2
            go_wp2_with fail
            go_roundw
            case rel => exact ⟨k + 1, c, by omega, by go_num, rfl, HBT2, by omega, HD2.out, gv2⟩
            case measure => simp [intOf]; omega
        · have q1 : decide ((k : Int) + 1 < t.size) = false := by simp; omega
          have q1' : ¬ ((k : Int) + 1 < t.size) := by omega
          have HBT2 := Lib.hid (P1.out (by omega))
          go_wp2_with fail
          refine (HII.out).mono ?_
          rintro e v1 ⟨rfl, d1⟩
          have gv1 := ggr.below d1
          have HD1 := Lib.hid (HB.out.trans (d1.mono HB.out.size))
          clear d1
          go_wp2_with fail
          refine (HN.out v1 gv1).mono ?_
          rintro e v2 ⟨rfl, d2⟩
          have gv2 := gv1.below d2
          have HD2 := Lib.hid (HD1.out.trans (d2.mono HD1.out.size))
          clear d2
          go_wp2_with fail
          go_roundw
          case rel => exact ⟨k + 1, c, by omega, by go_num, rfl, HBT2, by omega, HD2.out, gv2⟩
          case measure => simp [intOf]; omega
      · have hke : k = t.size := by omega
        subst hke
        by_cases h20 : 20 < c.size
        · have q1 : decide ((20 : Int) < c.size) = true := by simp; omega
          have q1' : (20 : Int) < c.size := by omega
          go_wp2_with fail
          go_ret
          exact ⟨rfl, HB.out⟩
        · have q1 : decide ((20 : Int) < c.size) = false := by simp; omega
          have q1' : ¬ (20 : Int) < c.size := by omega
          obtain ⟨hrb, r, hrr⟩ := built_end HV.out.symm HBT.out (by omega)
          have hR := (HRI.out c wr ggr (by omega)).mono fun e w' h => show e = .returned (.tuple #[.string (runT g c), .int .i64 (runE g c), .bool true]) ∧ Below wr.heap.size wr w' from hrb ▸ h
          obtain ⟨a, ha⟩ : ∃ a, a = runT g c := ⟨_, rfl⟩
          rw [← ha] at hR hrr
          have HR := Lib.hid hR
          have l1 : t.size ≤ a.size := by rw [hrr, ByteArray.size_append]; omega
          have l2 : a.extract 0 t.size = t := by rw [hrr]; exact ByteArray.extract_append_eq_left rfl
          have l3 : decide ((t.size : Int) ≤ a.size) = true := by simp; omega
          have l4 : ((a.extract 0 t.size).toList == t.toList) = true := by rw [l2]; simp
          clear hR ha hrr hrb l2 h20
          go_wp2_with fail
          refine HR.out.mono ?_
          rintro e v1 ⟨rfl, d1⟩
          have HD1 := Lib.hid (HB.out.trans (d1.mono HB.out.size))
          clear d1
          go_wp2_with fail
          go_ret
          exact ⟨rfl, HD1.out⟩
end Go.Proofs.Ytimgkjlhahapnab
