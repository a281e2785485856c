/-
  The law FnStops, walked.
-/
import Derived.Test.YteodlcgmncchpaaStopFacts
import Derived.Test.YteodlcgmncchpaaDraws
import Derived.Test.YteodlcgmncchpaaDrawTrace
import Derived.Test.YteodlcgmncchpaaSpecTrace
namespace Go.Proofs.Yteodlcgmncchpaa
open Go.RowKit Go.Sort

set_option maxRecDepth 100000 in
set_option maxHeartbeats 1000000 in
theorem stops_walk (A B : Option Addr) (la ca lb cb : Nat) (w : World) (hA : Bytes w A la) (hB : Bytes w B lb) (h1 : la ≤ ca) (h2 : lb ≤ cb) (h3 : ca ≤ 9223372036854775807) (h4 : cb ≤ 9223372036854775807) :
    Calls Try.prog 9 #[.slice A la ca, .slice B lb cb] w fun e w' => e = .returned (.bool true) ∧ Below w.heap.size w w' := by
  by_cases g1 : (1048576 : Int) < la
  · clear hA hB
    go_enter Try.func9, Try.ntmps9
    go_wp2_with fail
    go_ret
    exact ⟨rfl, Below.refl _ _⟩
  by_cases g2 : (1048576 : Int) < lb
  · clear hA hB
    go_enter Try.func9, Try.ntmps9
    go_wp2_with fail
    go_ret
    exact ⟨rfl, Below.refl _ _⟩
  have HA := Lib.hid (drawStopsWith_any A la ca w hA h1 h3)
  have HBY := Lib.hid hB
  have HD := Lib.hid (fun w h => drawIsTrace_any B lb cb w h h2 h4)
  clear hA hB
  go_enter Try.func9, Try.ntmps9
  go_wp2_with fail
  refine HA.out.mono ?_
  intro e w1 hd1
  obtain ⟨A1, c1, g, rfl, hc1, gg, hn1, b1⟩ := drawn_of hd1
  have HBY1 := Lib.hid (HBY.out.below b1)
  have HB1 := Lib.hid b1
  have HG := Lib.hid gg
  have HN1 := Lib.hid hn1
  clear hd1 b1 gg
  go_wp2_with fail
  refine (implStops_any A1 c1 g w1 HG.out (by omega)).mono ?_
  rintro e w2 ⟨s, ok, rfl, hA2, hS2, b2⟩
  have HA2 := Lib.hid hA2
  have HS2 := Lib.hid hS2
  have HG2 := Lib.hid (HG.out.below b2)
  have HBY2 := Lib.hid (HBY1.out.below b2)
  have HB2 := Lib.hid (below_trans_self HB1.out b2)
  clear hA2 hS2 b2
  go_wp2_with fail
  refine (specStops_any A1 c1 g w2 HG2.out (by omega) hc1).mono ?_
  rintro e w3 ⟨s', ok', rfl, hA3, b3⟩
  obtain ⟨rfl, rfl⟩ := HA2.out.unique hA3
  have HG3 := Lib.hid (HG2.out.below b3)
  have HBY3 := Lib.hid (HBY2.out.below b3)
  have HB3 := Lib.hid (below_trans_self HB2.out b3)
  clear hA3 b3
  go_wp2_with fail
  refine (HD.out w3 HBY3.out).mono ?_
  intro e w4 hd4
  obtain ⟨A2, c2, h, t, rfl, hc2, hh, hn2, htz, b4⟩ := drawnRun_of hd4
  have HG4 := Lib.hid (HG3.out.below b4)
  have HH4 := Lib.hid hh
  have HB4 := Lib.hid (below_trans_self HB3.out b4)
  clear hd4 hh b4
  go_wp2_with fail
  refine (implCan_any A1 c1 g w4 HG4.out (by omega)).mono ?_
  rintro e w5 ⟨s2, ok2, rfl, hA5, b5⟩
  obtain ⟨rfl, rfl⟩ := HA2.out.unique hA5
  have HG5 := Lib.hid (HG4.out.below b5)
  have HH5 := Lib.hid (HH4.out.below b5)
  have HB5 := Lib.hid (below_trans_self HB4.out b5)
  clear hA5 b5
  obtain ⟨tb, htb⟩ : ∃ tb, tb = traceB h t := ⟨_, rfl⟩
  have HT1 := Lib.hid (fun w hw => (implTrace_any A2 c2 h t w hw (by omega)).mono fun e w' hh => show e = .returned (.bool tb) ∧ Below w.heap.size w w' from htb ▸ hh)
  have HT2 := Lib.hid (fun w hw => (specTrace_any A2 c2 h t w hw (by omega) hc2 (by omega)).mono fun e w' hh => show e = .returned (.bool tb) ∧ Below w.heap.size w w' from htb ▸ hh)
  have qtb : (tb != tb) = false := by simp
  clear htb
  cases ok with
  | true =>
    have hv : validB g = true := by
      rcases HA2.out with ⟨h, _⟩ | ⟨_, _, h⟩
      · exact h
      · cases h
    obtain ⟨i, hF⟩ := foundStop_of hv HA2.out HS2.out
    have hcb := choices_short hv hn1 hF.lr hF.short
    have hrb := runB_yes hv hcb
    have hsz : s.size ≤ 26 := by have := hF.short; have := (valid_iff.1 hv).2.1; omega
    have HR := Lib.hid (fun w (h : Gr w A1 g) => implRun_yes A1 c1 g s w h (by omega) (by omega) hrb)
    obtain ⟨tr, htr⟩ : ∃ tr, tr = runT g s := ⟨_, rfl⟩
    have htp : 0 < tr.size := htr ▸ runT_pos hrb
    have htz' : tr.size ≤ 60 := htr ▸ runT_small hrb
    have hz := hF.end_ hv hrb
    have HRG : Hid (∀ w, Gr w A1 g → Calls Try.prog 37 #[.slice A1 g.length c1, .string s] w fun e w' => e = .returned (.tuple #[.string tr, .int .i64 0, .bool true]) ∧ Below w.heap.size w w') := fun w h => by
      have := HR.out w h
      unfold RunPost at this
      rw [hrb, ← htr, hz] at this
      exact this
    clear hv hF hcb hrb htr hz HR
    go_wp2_with fail
    refine (HT1.out _ HH5.out).mono ?_
    rintro e w6 ⟨rfl, b6⟩
    have HG6 := Lib.hid (HG5.out.below b6)
    have HH6 := Lib.hid (HH5.out.below b6)
    have HB6 := Lib.hid (below_trans_self HB5.out b6)
    clear b6
    go_wp2_with fail
    refine (HT2.out _ HH6.out).mono ?_
    rintro e w7 ⟨rfl, b7⟩
    have HG7 := Lib.hid (HG6.out.below b7)
    have HB7 := Lib.hid (below_trans_self HB6.out b7)
    clear b7
    go_wp2_with fail
    refine (HRG.out _ HG7.out).mono ?_
    rintro e w8 ⟨rfl, b8⟩
    have HB8 := Lib.hid (below_trans_self HB7.out b8)
    clear b8
    have q8 : decide ((0 : Int) < tr.size) = true := by simp; omega
    go_wp2_with fail
    go_ret
    exact ⟨rfl, HB8.out⟩
  | false =>
    obtain ⟨rfl, hno⟩ := no_stop HA2.out
    have HNO := Lib.hid hno
    clear hno
    have HRC := Lib.hid (fun w hw => implReached_any A1 c1 g w hw (by omega))
    have HVC := Lib.hid (fun w hw => implValid_any A1 c1 g w hw (by omega))
    obtain ⟨r, hr⟩ : ∃ r, r = reachV g := ⟨_, rfl⟩
    have hrz : r.size ≤ 26 := hr ▸ reachV_size'
    rw [← hr] at HRC
    have HRR := Lib.hid hr
    clear hr
    go_wp2_with fail
    refine (HT1.out _ HH5.out).mono ?_
    rintro e w6 ⟨rfl, b6⟩
    have HG6 := Lib.hid (HG5.out.below b6)
    have HH6 := Lib.hid (HH5.out.below b6)
    have HB6 := Lib.hid (below_trans_self HB5.out b6)
    clear b6
    go_wp2_with fail
    refine (HT2.out _ HH6.out).mono ?_
    rintro e w7 ⟨rfl, b7⟩
    have HG7 := Lib.hid (HG6.out.below b7)
    have HB7 := Lib.hid (below_trans_self HB6.out b7)
    clear b7
    go_wp2_with fail
    refine (HRC.out _ HG7.out).mono ?_
    rintro e w8 ⟨rfl, b8⟩
    have HG8 := Lib.hid (HG7.out.below b8)
    have HB8 := Lib.hid (below_trans_self HB7.out b8)
    clear b8
    go_wp2_with fail
    obtain ⟨wo, hwo⟩ : ∃ wo : World, wo = w8 := ⟨_, rfl⟩
    have HGO : Hid (Gr wo A1 g) := by rw [hwo]; exact HG8.out
    have HBO : Hid (Below w.heap.size w wo) := by rw [hwo]; exact HB8.out
    rw [← hwo]
    clear hwo HG8 HB8
    go_loopw [93] (fun i wr => ∃ k : Nat, k ≤ r.size ∧ i = .int .i64 k ∧ Below wo.heap.size wo wr) (fun i _ => r.size - (intOf i).toNat)
    case atStart => exact ⟨0, Nat.zero_le _, rfl, Below.refl _ _⟩
    case round =>
      obtain ⟨k, hk, rfl, hB⟩ := hrel
      have HB := Lib.hid hB
      clear hB
      by_cases hlt : k < r.size
      · have hv : validB g = true := by
          cases hv : validB g with
          | true => rfl
          | false => rw [HRR.out, reachV_no hv] at hlt; exact absurd hlt (by simp [ByteArray.size])
        have hk' : k < (reachV g).size := by rw [← HRR.out]; exact hlt
        obtain ⟨i, hi, hil, _, hnv⟩ := reach_next hv hk'
        rw [← HRR.out] at hnv
        have hnp : 0 < (nextVal g (r.extract k (k + 1))).size := by
          rw [hnv]
          rcases HNO.out with h | ⟨h, _⟩
          · rw [hv] at h; cases h
          · exact next_pos hil (h i hi)
        obtain ⟨nx, hnx⟩ : ∃ nx, nx = nextVal g (r.extract k (k + 1)) := ⟨_, rfl⟩
        rw [← hnx] at hnp
        have HNX := Lib.hid ((implNext_any A1 c1 g (r.extract k (k + 1)) wr (HGO.out.below HB.out) (by omega)).mono fun e w' h => show e = .returned (.tuple #[.string nx, .bool (nextHas g (r.extract k (k + 1)))]) ∧ Below wr.heap.size wr w' from hnx ▸ h)
        have q0 := beq_empty hnp
        have k1 : k + 1 ≤ r.size := by omega
        clear hv hk' hnv hnx
        go_wp2_with fail
        refine HNX.out.mono ?_
        rintro e w9 ⟨rfl, b9⟩
        have HB9 := Lib.hid (HB.out.trans (b9.mono HB.out.size))
        clear b9
        go_wp2_with fail
        go_roundw
        case rel => exact ⟨k + 1, by omega, by go_num, HB9.out⟩
        case measure => simp [intOf]; omega
      · cases hv : validB g with
        | true =>
          clear hv
          go_wp2_with fail
          go_ret
          exact ⟨rfl, below_trans_self HBO.out HB.out⟩
        | false =>
          have HV2 := Lib.hid (by have := HVC.out wr (HGO.out.below HB.out); rw [hv] at this; exact this : Calls Try.prog 35 #[.slice A1 g.length c1] wr _)
          clear hv
          go_wp2_with fail
          refine HV2.out.mono ?_
          rintro e w9 ⟨rfl, b9⟩
          go_wp2_with fail
          go_ret
          exact ⟨rfl, below_trans_self HBO.out (HB.out.trans (b9.mono HB.out.size))⟩

end Go.Proofs.Yteodlcgmncchpaa
