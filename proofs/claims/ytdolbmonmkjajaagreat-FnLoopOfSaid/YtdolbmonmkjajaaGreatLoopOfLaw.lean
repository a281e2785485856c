/-
  The law FnLoopOf, walked.
-/
import Derived.Test.YtdolbmonmkjajaaGreatDrawLoops
import Derived.Test.YtdolbmonmkjajaaGreatLoopsOf
import Derived.Test.YtdolbmonmkjajaaGreatSpecLoop
namespace Go.Proofs.YtdolbmonmkjajaaGreat
open Go.RowKit Go.Sort

set_option maxRecDepth 100000 in
set_option maxHeartbeats 6400000 in
theorem loopOf_walk (A B : Option Addr) (la ca lb cb : Nat) (w : World) (hA : Bytes w A la) (hB : Bytes w B lb) (h1 : la ≤ ca) (h2 : lb ≤ cb) (h3 : ca ≤ 9223372036854775807) (h4 : cb ≤ 9223372036854775807) :
    Calls Tryz.prog 7 #[.slice A la ca, .slice B lb cb] w fun e w' => e = .returned (.bool true) ∧ Below w.heap.size w w' := by
  by_cases g1 : (1048576 : Int) < la
  · clear hA hB
    go_enter Tryz.func7, Tryz.ntmps7
    go_wp2_with fail
    go_ret
    exact ⟨rfl, Below.refl _ _⟩
  by_cases g2 : (1048576 : Int) < lb
  · clear hA hB
    go_enter Tryz.func7, Tryz.ntmps7
    go_wp2_with fail
    go_ret
    exact ⟨rfl, Below.refl _ _⟩
  have HA := Lib.hid (drawLoopOf_any A la ca w hA h1 h3)
  have HBY := Lib.hid hB
  have HD := Lib.hid (fun w h => drawDepthIn_any B lb cb w h h2 h4)
  clear hA hB
  go_enter Tryz.func7, Tryz.ntmps7
  go_wp2_with fail
  refine HA.out.mono ?_
  intro e w1 hd1
  obtain ⟨A1, c1, g, nm, rfl, hc1, gg, hn1, hnm, b1⟩ := drawnPlace_of hd1
  have HBY1 := Lib.hid (HBY.out.below b1)
  have HB1 := Lib.hid b1
  have HG1 := Lib.hid gg
  clear hd1 b1 gg
  obtain ⟨x, hx⟩ : ∃ x, x = loopV g nm := ⟨_, rfl⟩
  obtain ⟨v, hvb⟩ : ∃ v, v = loopB g nm := ⟨_, rfl⟩
  have HLI := Lib.hid (fun W (h : Gr W A1 g) => (hx ▸ hvb ▸ implLoopOf_any A1 c1 g nm W h (by omega) : Calls Tryz.prog 16 #[.slice A1 g.length c1, .string nm] W fun e w' => e = .returned (.tuple #[.string x, .bool v]) ∧ Below W.heap.size W w'))
  have HLS := Lib.hid (fun W (h : Gr W A1 g) => (hx ▸ hvb ▸ specLoopOf_any A1 c1 g nm W h (by omega) hc1 : Calls Tryz.prog 14 #[.slice A1 g.length c1, .string nm] W fun e w' => e = .returned (.tuple #[.string x, .bool v]) ∧ Below W.heap.size W w'))
  have HX := Lib.hid hx
  have HV := Lib.hid hvb
  clear hx hvb
  go_wp2_with fail
  refine (HLI.out w1 HG1.out).mono ?_
  rintro e w2 ⟨rfl, b2⟩
  have HG2 := Lib.hid (HG1.out.below b2)
  have HBY2 := Lib.hid (HBY1.out.below b2)
  have HB2 := Lib.hid (below_trans_self HB1.out b2)
  clear b2
  go_wp2_with fail
  refine (HLS.out w2 HG2.out).mono ?_
  rintro e w3 ⟨rfl, b3⟩
  have HG3 := Lib.hid (HG2.out.below b3)
  have HBY3 := Lib.hid (HBY2.out.below b3)
  have HB3 := Lib.hid (below_trans_self HB2.out b3)
  clear b3
  go_wp2_with fail
  refine (HD.out w3 HBY3.out).mono ?_
  intro e w4 hd4
  obtain ⟨A2, c2, h, oth, rfl, hc2, gh, hn2, hoth, b4⟩ := drawnPlace_of hd4
  have HG4 := Lib.hid (HG3.out.below b4)
  have HB4 := Lib.hid (below_trans_self HB3.out b4)
  have HH4 := Lib.hid gh
  clear hd4 b4 gh
  obtain ⟨d, hd⟩ : ∃ d, d = depthV h oth := ⟨_, rfl⟩
  have HDI := Lib.hid (fun W (k : Gr W A2 h) => (hd ▸ implDepth_any A2 c2 h oth W k (by omega) : Calls Tryz.prog 19 #[.slice A2 h.length c2, .string oth] W fun e w' => e = .returned (.int .i64 d) ∧ Below W.heap.size W w'))
  have HDS := Lib.hid (fun W (k : Gr W A2 h) => (hd ▸ specDepth_any A2 c2 h oth W k (by omega) hc2 : Calls Tryz.prog 18 #[.slice A2 h.length c2, .string oth] W fun e w' => e = .returned (.int .i64 d) ∧ Below W.heap.size W w'))
  have HDV := Lib.hid hd
  clear hd
  have t1 : (x.toList == x.toList) = true := by simp
  have t2 : (x.toList != x.toList) = false := by simp
  have t3 : (v != v) = false := by simp
  have t4 : (d != d) = false := by simp
  go_wp2_with fail
  refine (HDI.out w4 HH4.out).mono ?_
  rintro e w5 ⟨rfl, b5⟩
  have HG5 := Lib.hid (HG4.out.below b5)
  have HH5 := Lib.hid (HH4.out.below b5)
  have HB5 := Lib.hid (below_trans_self HB4.out b5)
  clear b5
  go_wp2_with fail
  refine (HDS.out w5 HH5.out).mono ?_
  rintro e w6 ⟨rfl, b6⟩
  have HG6 := Lib.hid (HG5.out.below b6)
  have HH6 := Lib.hid (HH5.out.below b6)
  have HB6 := Lib.hid (below_trans_self HB5.out b6)
  clear b6
  -- what comes behind, in a world
  have hend : (v = false ∧ x = ⟨#[]⟩) ∨ (v = true ∧ hasB x nm = true ∧ ∃ m : Nat, 1 ≤ m ∧ depthV g nm = m) := by
    cases hh : headOf g nm with
    | none => exact .inl ⟨by rw [HV.out, loopB_none hh], by rw [HX.out, loopV_none hh]⟩
    | some i =>
      obtain ⟨hvv, hhm, hne⟩ := headOf_nm hh
      have hil := head_lt i hhm
      refine .inr ⟨by rw [HV.out, loopB_some hh], ?_, depthN g i, depth_head hvv hhm, ?_⟩
      · rw [HX.out, loopV_some hh, hne, hasN hvv (loopL_lt i) hil]
        exact decide_eq_true (loop_self hil)
      · rw [hne]; exact depthV_some (live_of hvv (head_live hvv hhm))
  have HEND := Lib.hid hend
  have HDG := Lib.hid (fun W (k : Gr W A1 g) => implDepth_any A1 c1 g nm W k (by omega))
  have hx26 : x.size ≤ 26 := by rw [HX.out]; exact loopV_small g nm
  clear hend
  cases hlv : liveOf h oth with
  | none =>
    have hdm : d = -1 := by rw [HDV.out]; exact depthV_none hlv
    subst hdm
    clear hlv
    rcases HEND.out with ⟨hv0, hx0⟩ | ⟨hv1, hx1, m, hm, hdm⟩
    · subst hv0
      have t5 : x.toList = [] := by rw [hx0, Lib.toList_data]
      go_wp2_with fail
      go_ret
      exact ⟨rfl, HB6.out⟩
    · subst hv1
      have HJX := Lib.hid (fun W => (by have := sjHas_any x nm W (by omega); rw [hx1] at this; exact this : Calls Tryz.prog 32 #[.string x, .string nm] W fun e w' => e = .returned (.bool true) ∧ W = w'))
      have HDQ := Lib.hid (HDG.out w6 HG6.out)
      rw [hdm] at HDQ
      have t6 : decide ((1 : Int) ≤ (m : Int)) = true := by simp; omega
      clear hdm hx1
      go_wp2_with fail
      refine (HJX.out _).mono ?_
      rintro e w20 ⟨rfl, rfl⟩
      go_wp2_with fail
      refine HDQ.out.mono ?_
      rintro e w21 ⟨rfl, b21⟩
      have HB21 := Lib.hid (below_trans_self HB6.out b21)
      clear b21
      go_wp2_with fail
      go_ret
      exact ⟨rfl, HB21.out⟩
  | some n =>
    obtain ⟨hv, hnl, hon, hnr⟩ := live_nm hlv
    have hdn : d = (depthN h n : Int) := by rw [HDV.out]; exact depthV_some hlv
    subst hdn
    obtain ⟨hs, hhs⟩ : ∃ hs, hs = headV h := ⟨_, rfl⟩
    obtain ⟨hsz, hs26⟩ := headV_small hv
    rw [← hhs] at hsz hs26
    have hsn : hs = namesAt h (headL h) := by rw [hhs, headV_yes hv]
    have q0 : decide ((0 : Int) ≤ (depthN h n : Int)) = true := by simp
    have HHI := Lib.hid (fun W (k : Gr W A2 h) => (by have := implHeaders_any A2 c2 h W k (by omega); rw [← hhs] at this; exact this : Calls Tryz.prog 25 #[.slice A2 h.length c2] W fun e w' => e = .returned (.tuple #[.string hs, .bool (validB h)]) ∧ Below W.heap.size W w'))
    have HLP := Lib.hid (fun W (k : Gr W A2 h) s => implLoopOf_any A2 c2 h s W k (by omega))
    have HROUND := Lib.hid (fun k (hk : k < hs.size) => (by
      have hk' : k < (headL h).length := by omega
      have hm : (headL h)[k] ∈ headL h := List.getElem_mem hk'
      have he : hs.extract k (k + 1) = nthName h (headL h)[k] := by rw [hsn]; exact names_at hv head_lt hk'
      have hl := headOf_name hv hm
      rw [← he] at hl
      refine ⟨?_, countP_take hk'⟩
      rw [loopV_some hl, hon, hasN hv (loopL_lt _) hnl] : hasB (loopV h (hs.extract k (k + 1))) oth = decide (n ∈ loopL h ((headL h)[k]'(by omega))) ∧ ((headL h).take (k + 1)).countP (fun i => decide (n ∈ loopL h i)) = ((headL h).take k).countP (fun i => decide (n ∈ loopL h i)) + (if decide (n ∈ loopL h ((headL h)[k]'(by omega))) = true then 1 else 0)))
    clear hlv hv hnl hon hnr hhs hsn
    go_wp2_with fail
    refine (HHI.out w6 HH6.out).mono ?_
    rintro e w7 ⟨rfl, b7⟩
    have HG7 := Lib.hid (HG6.out.below b7)
    have HH7 := Lib.hid (HH6.out.below b7)
    have HB7 := Lib.hid (below_trans_self HB6.out b7)
    clear b7
    go_wp2_with fail
    go_loopw [16, 77] (fun cv iv wr => ∃ (k c : Nat), k ≤ hs.size ∧ iv = .int .i64 k ∧ cv = .int .i64 c ∧ c ≤ k ∧ Hid (c = ((headL h).take k).countP fun i => decide (n ∈ loopL h i)) ∧ Hid (Gr wr A1 g) ∧ Hid (Gr wr A2 h) ∧ Hid (Below w.heap.size w wr)) (fun _ iv _ => hs.size - (intOf iv).toNat)
    case atStart => exact ⟨0, 0, Nat.zero_le _, rfl, rfl, Nat.le_refl _, (show 0 = ((headL h).take 0).countP fun i => decide (n ∈ loopL h i) by simp), HG7.out, HH7.out, HB7.out⟩
    case round =>
      obtain ⟨k, c, hk, rfl, rfl, hck, HC, HG, HH, HB⟩ := hrel
      by_cases hlt : k < hs.size
      · have hk1 : k + 1 ≤ hs.size := by omega
        obtain ⟨hhas, hcnt⟩ := HROUND.out k hlt
        obtain ⟨lp, hlp⟩ : ∃ lp, lp = loopV h (hs.extract k (k + 1)) := ⟨_, rfl⟩
        rw [← hlp] at hhas
        have hl26 : lp.size ≤ 26 := by rw [hlp]; exact loopV_small h _
        have HLQ := Lib.hid (HLP.out wr HH.out (hs.extract k (k + 1)))
        rw [← hlp] at HLQ
        obtain ⟨bb, hbb⟩ : ∃ bb, bb = decide (n ∈ loopL h ((headL h)[k]'(by omega))) := ⟨_, rfl⟩
        rw [← hbb] at hhas hcnt
        have HJ := Lib.hid (fun W => (by have := sjHas_any lp oth W (by omega); rw [hhas] at this; exact this : Calls Tryz.prog 32 #[.string lp, .string oth] W fun e w' => e = .returned (.bool bb) ∧ W = w'))
        have HCN := Lib.hid hcnt
        clear hhas hcnt hlp hbb
        go_wp2_with fail
        refine HLQ.out.mono ?_
        rintro e w8 ⟨rfl, b8⟩
        have HG8 := Lib.hid (HG.out.below b8)
        have HH8 := Lib.hid (HH.out.below b8)
        have HB8 := Lib.hid (below_trans_self HB.out b8)
        clear b8
        go_wp2_with fail
        refine (HJ.out _).mono ?_
        rintro e w9 ⟨rfl, rfl⟩
        cases bb with
        | true =>
          have HC2 := Lib.hid (show c + 1 = ((headL h).take (k + 1)).countP fun i => decide (n ∈ loopL h i) by rw [HCN.out, ← HC.out]; rfl)
          go_wp2_with fail
          go_roundw
          case rel => exact ⟨k + 1, c + 1, by omega, by go_num, by go_num, by omega, HC2.out, HG8.out, HH8.out, HB8.out⟩
          case measure => simp [intOf]; omega
        | false =>
          have HC2 := Lib.hid (show c = ((headL h).take (k + 1)).countP fun i => decide (n ∈ loopL h i) by rw [HCN.out, ← HC.out]; rfl)
          go_wp2_with fail
          go_roundw
          case rel => exact ⟨k + 1, c, by omega, by go_num, rfl, by omega, HC2.out, HG8.out, HH8.out, HB8.out⟩
          case measure => simp [intOf]; omega
      · have hce : c = depthN h n := by rw [HC.out, List.take_of_length_le (by omega)]; rfl
        subst hce
        rcases HEND.out with ⟨hv0, hx0⟩ | ⟨hv1, hx1, m, hm, hdm⟩
        · subst hv0
          have t5 : x.toList = [] := by rw [hx0, Lib.toList_data]
          go_wp2_with fail
          go_ret
          exact ⟨rfl, HB.out⟩
        · subst hv1
          have HJX := Lib.hid (fun W => (by have := sjHas_any x nm W (by omega); rw [hx1] at this; exact this : Calls Tryz.prog 32 #[.string x, .string nm] W fun e w' => e = .returned (.bool true) ∧ W = w'))
          have HDQ := Lib.hid (HDG.out wr HG.out)
          rw [hdm] at HDQ
          have t6 : decide ((1 : Int) ≤ (m : Int)) = true := by simp; omega
          clear hdm hx1
          go_wp2_with fail
          refine (HJX.out _).mono ?_
          rintro e w20 ⟨rfl, rfl⟩
          go_wp2_with fail
          refine HDQ.out.mono ?_
          rintro e w21 ⟨rfl, b21⟩
          have HB21 := Lib.hid (below_trans_self HB.out b21)
          clear b21
          go_wp2_with fail
          go_ret
          exact ⟨rfl, HB21.out⟩
end Go.Proofs.YtdolbmonmkjajaaGreat
