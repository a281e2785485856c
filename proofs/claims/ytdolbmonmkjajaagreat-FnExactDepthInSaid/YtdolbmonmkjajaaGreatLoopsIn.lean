/-
  Contracts of the program's LoopOf and DepthIn.
-/
import Derived.Test.YtdolbmonmkjajaaGreatLoopsOf
import Derived.Test.YtdolbmonmkjajaaGreatLoopVals
namespace Go.Proofs.YtdolbmonmkjajaaGreat
open Go.RowKit Go.Sort Go.Shelf Go.Maps Go.WideMaps

attribute [local go_sem] Oper.semAt_some

theorem named_head {g : List Bl} (hv : validB g = true) (s : ByteArray) : named g (headL g) s = headOf g s := by
  cases hn : named g (headL g) s with
  | some i =>
    obtain ⟨h1, h2⟩ := named_is hn
    have hil := head_lt i h1
    rw [headOf_some hv (by rw [← h2, nthName_at hil]; exact posOf_name hv hil) h1]
  | none =>
    cases hl : headOf g s with
    | none => rfl
    | some i =>
      obtain ⟨_, hp, hr⟩ := headOf_is hl
      obtain ⟨hil, hnm⟩ := posOf_is hp
      unfold named at hn
      rw [List.find?_eq_none] at hn
      exact absurd (by rw [nthName_at hil, hnm]; simp) (hn i hr)

set_option maxRecDepth 100000 in
set_option maxHeartbeats 1000000 in
theorem implLoopOf_any (A : Option Addr) (cap : Nat) (g : List Bl) (s : ByteArray) (w : World) (hg : Gr w A g) (hn : g.length + tot g ≤ 1048576) :
    Calls Tryz.prog 16 #[.slice A g.length cap, .string s] w fun e w' => e = .returned (.tuple #[.string (loopV g s), .bool (loopB g s)]) ∧ Below w.heap.size w w' := by
  by_cases hv : validB g = true
  · have HC := Lib.hid (wayOrderOf_yes A cap g w hg hn hv)
    have HV := Lib.hid hv
    have h26 := (valid_iff.1 hv).2.1
    have hh26 := head_small hv
    clear hg hv
    cases hh : headOf g s with
    | none =>
      have HH := Lib.hid hh
      clear hh
      go_enter Tryz.func16, Tryz.ntmps16
      go_wp2_with fail
      refine HC.out.mono ?_
      rintro e w1 ⟨WB, tb, NB, MB, A2, cap2, B, off, tcap, S, _, rfl, hO, hM, b1⟩
      have HO := Lib.hid hO
      have HB1 := Lib.hid b1
      have HG := Lib.hid (headers_own WB tb NB MB cap2 A2 g B off tcap S w1 HV.out hO hM)
      clear hO hM b1
      go_wp2_with fail
      refine HG.out.mono ?_
      rintro e w2 ⟨v, rfl, hown, b2⟩
      obtain ⟨A3, cap3, rfl, hP3, -⟩ := own_idx hown
      have HB2 := Lib.hid (below_trans_self HB1.out b2)
      have hN := namedAt_any A3 NB cap3 g (headL g) s w2 hP3 (HO.out.tree.nodes.below b2) head_lt (by omega)
      rw [named_head HV.out, HH.out] at hN
      have HN : Hid (Calls Tryz.prog 58 #[.slice A3 (headL g).length cap3, .string s] w2 fun e w' => e = .returned (.pointer none) ∧ w2 = w') := hN
      clear hown hP3 b2 hN
      go_wp2_with fail
      refine HN.out.mono ?_
      rintro e w3 ⟨rfl, rfl⟩
      go_wp2_with fail
      go_ret2
      exact ⟨ret_tsb (loopV_none HH.out).symm (loopB_none HH.out).symm, HB2.out⟩
    | some h =>
      have HH := Lib.hid hh
      have hhm := (headOf_is hh).2.2
      have hhl := head_lt h hhm
      clear hh hhm
      go_enter Tryz.func16, Tryz.ntmps16
      go_wp2_with fail
      refine HC.out.mono ?_
      rintro e w1 ⟨WB, tb, NB, MB, A2, cap2, B, off, tcap, S, _, rfl, hO, hM, b1⟩
      have HO := Lib.hid hO
      have HM := Lib.hid hM
      have HB1 := Lib.hid b1
      have HG := Lib.hid (headers_own WB tb NB MB cap2 A2 g B off tcap S w1 HV.out hO hM)
      clear hO hM b1
      go_wp2_with fail
      refine HG.out.mono ?_
      rintro e w2 ⟨v, rfl, hown, b2⟩
      obtain ⟨A3, cap3, rfl, hP3, -⟩ := own_idx hown
      have HB2 := Lib.hid (below_trans_self HB1.out b2)
      have hN := namedAt_any A3 NB cap3 g (headL g) s w2 hP3 (HO.out.tree.nodes.below b2) head_lt (by omega)
      rw [named_head HV.out, HH.out] at hN
      have HN : Hid (Calls Tryz.prog 58 #[.slice A3 (headL g).length cap3, .string s] w2 fun e w' => e = .returned (nptr NB h) ∧ w2 = w') := hN
      have hO2 := HO.out.below b2
      have HL := Lib.hid (loopOf_any WB tb NB MB cap2 h A2 g B off tcap S w2 HV.out hO2 (HM.out.keep (b2.block MB HM.out.lt)) hhl)
      clear hown hP3 b2 hN hO2
      go_wp2_with fail
      refine HN.out.mono ?_
      rintro e w3 ⟨rfl, rfl⟩
      unfold nptr
      go_wp2_with fail
      refine HL.out.mono ?_
      rintro e w4 ⟨A4, cap4, rfl, hP4, hN4, b4⟩
      have HB4 := Lib.hid (below_trans_self HB2.out b4)
      have HJ := Lib.hid (joinIdx_any A4 NB cap4 g (loopL g h) w4 HV.out hP4 hN4 (loopL_lt h) (loop_small HV.out h))
      clear hP4 hN4 b4
      go_wp2_with fail
      refine HJ.out.mono ?_
      rintro e w5 ⟨rfl, b5⟩
      have HB5 := Lib.hid (below_trans_self HB4.out b5)
      clear b5
      go_wp2_with fail
      go_ret2
      exact ⟨ret_tsb (loopV_some HH.out).symm (loopB_some HH.out).symm, HB5.out⟩
  · have hv : validB g = false := by simpa using hv
    have HC := Lib.hid (wayOrderOf_no A cap g w hg hn hv)
    have HH := Lib.hid (headOf_no (s := s) hv)
    clear hg hv
    go_enter Tryz.func16, Tryz.ntmps16
    go_wp2_with fail
    refine HC.out.mono ?_
    rintro e w1 ⟨WB, tb, mv, rfl, hW, hT, b1⟩
    have HB1 := Lib.hid b1
    have HG := Lib.hid (headers_no WB tb mv w1 hW hT)
    clear hW hT b1
    go_wp2_with fail
    refine HG.out.mono ?_
    rintro e w2 ⟨rfl, b2⟩
    have HB2 := Lib.hid (below_trans_self HB1.out b2)
    have HN := Lib.hid (named_nil s w2 none 0)
    clear b2
    go_wp2_with fail
    refine HN.out.mono ?_
    rintro e w3 ⟨rfl, rfl⟩
    go_wp2_with fail
    go_ret2
    exact ⟨ret_tsb (loopV_none HH.out).symm (loopB_none HH.out).symm, HB2.out⟩

set_option maxRecDepth 100000 in
set_option maxHeartbeats 2000000 in
theorem implDepth_any (A : Option Addr) (cap : Nat) (g : List Bl) (s : ByteArray) (w : World) (hg : Gr w A g) (hn : g.length + tot g ≤ 1048576) :
    Calls Tryz.prog 19 #[.slice A g.length cap, .string s] w fun e w' => e = .returned (.int .i64 (depthV g s)) ∧ Below w.heap.size w w' := by
  by_cases hv : validB g = true
  · have HC := Lib.hid (wayOrderOf_yes A cap g w hg hn hv)
    have HV := Lib.hid hv
    have h26 := (valid_iff.1 hv).2.1
    have hh26 := head_small hv
    clear hg hv
    cases hl : liveOf g s with
    | none =>
      have HR := Lib.hid (depthV_none hl)
      have HL := Lib.hid hl
      clear hl
      go_enter Tryz.func19, Tryz.ntmps19
      go_wp2_with fail
      refine HC.out.mono ?_
      rintro e w1 ⟨WB, tb, NB, MB, A2, cap2, B, off, tcap, S, _, rfl, hO, hM, b1⟩
      have HB1 := Lib.hid b1
      have cT := hO.store.cell 0
      have hN := treeNamed_any tb NB g B off tcap S s w1 HV.out hO.tree
      rw [HL.out] at hN
      have HN : Hid (Calls Tryz.prog 64 #[.pointer (some ⟨tb, 0, none⟩), .string s] w1 fun e w' => e = .returned (.pointer none) ∧ w1 = w') := hN
      clear hO hM b1 hN
      go_wp2_with fail
      refine HN.out.mono ?_
      rintro e w3 ⟨rfl, rfl⟩
      go_wp2_with fail
      go_ret
      exact ⟨ret_int HR.out.symm, HB1.out⟩
    | some n =>
      have HR := Lib.hid (depthV_some hl)
      have HL := Lib.hid hl
      have hnl : n < g.length := (posOf_is (liveOf_is hl).2.1).1
      clear hl
      go_enter Tryz.func19, Tryz.ntmps19
      go_wp2_with fail
      refine HC.out.mono ?_
      rintro e w1 ⟨WB, tb, NB, MB, A2, cap2, B, off, tcap, S, _, rfl, hO, hM, b1⟩
      have HO := Lib.hid hO
      have HM := Lib.hid hM
      have HB1 := Lib.hid b1
      have cT := hO.store.cell 0
      have hN := treeNamed_any tb NB g B off tcap S s w1 HV.out hO.tree
      rw [HL.out] at hN
      have HN : Hid (Calls Tryz.prog 64 #[.pointer (some ⟨tb, 0, none⟩), .string s] w1 fun e w' => e = .returned (nptr NB n) ∧ w1 = w') := hN
      have HG := Lib.hid (headers_own WB tb NB MB cap2 A2 g B off tcap S w1 HV.out hO hM)
      clear hO hM b1 hN
      go_wp2_with fail
      refine HN.out.mono ?_
      rintro e w3 ⟨rfl, rfl⟩
      rw [show nptr NB n = .pointer (some ⟨nb NB n, 0, none⟩) from rfl]
      go_wp2_with fail
      refine HG.out.mono ?_
      rintro e w2 ⟨v, rfl, hown, b2⟩
      obtain ⟨A3, cap3, rfl, hP3, -⟩ := own_idx hown
      have HP3 := Lib.hid hP3
      have HB2 := Lib.hid (below_trans_self HB1.out b2)
      have HO2 := Lib.hid (HO.out.below b2)
      have HM2 := Lib.hid (HM.out.keep (b2.block MB HM.out.lt))
      clear hown hP3 b2
      go_wp2_with fail
      go_loopw [8, 27] (fun dv iv wr => ∃ (k d : Nat), k ≤ (headL g).length ∧ iv = .int .i64 k ∧ dv = .int .i64 d ∧ d ≤ k ∧ Hid (d = ((headL g).take k).countP fun h => decide (n ∈ loopL g h)) ∧ Hid (Below w2.heap.size w2 wr)) (fun _ iv _ => (headL g).length - (intOf iv).toNat)
      case atStart => exact ⟨0, 0, Nat.zero_le _, rfl, rfl, Nat.le_refl _, (show 0 = ((headL g).take 0).countP fun h => decide (n ∈ loopL g h) by simp), Below.refl _ _⟩
      case round =>
        obtain ⟨k, d, hk, rfl, rfl, hdk, HD, HB⟩ := hrel
        by_cases hlt : k < (headL g).length
        · obtain ⟨b3, o3, rfl, hb3, hc3⟩ := HP3.out (by omega)
          obtain ⟨h, hh⟩ : ∃ h, h = (headL g)[k] := ⟨_, rfl⟩
          have hhl : h < g.length := head_lt h (hh ▸ List.getElem_mem hlt)
          have ct : wr.cell? ⟨b3, o3 + k, none⟩ = some (nptr NB h) := by rw [hh]; exact (HB.out.cell (p := ⟨b3, o3 + k, none⟩) hb3).trans (hc3 k hlt)
          have hO3 := HO2.out.below HB.out
          have HLP := Lib.hid (loopOf_any WB tb NB MB cap2 h A2 g B off tcap S wr HV.out hO3 (HM2.out.keep (HB.out.block MB HM2.out.lt)) hhl)
          have HFT := Lib.hid (countP_take (p := fun h => decide (n ∈ loopL g h)) hlt)
          rw [← hh] at HFT
          have hls := loop_small HV.out h
          clear hh hO3 hb3 hc3
          go_wp2_with fail
          refine HLP.out.mono ?_
          rintro e w4 ⟨A4, cap4, rfl, hP4, hN4, b4⟩
          have HB4 := Lib.hid (below_trans_self HB.out b4)
          have HCT := Lib.hid (containsN_any A4 cap4 (loopL g h) NB g n w4 hP4 (by omega) hN4 (loopL_lt h) hnl)
          rw [show nptr NB n = .pointer (some ⟨nb NB n, 0, none⟩) from rfl] at HCT
          clear hP4 hN4 b4
          by_cases hin : n ∈ loopL g h
          · rw [decide_eq_true hin] at HCT
            have HD2 := Lib.hid (show d + 1 = ((headL g).take (k + 1)).countP fun h => decide (n ∈ loopL g h) by rw [HFT.out, if_pos (by simpa using hin), ← HD.out])
            clear hin
            go_wp2_with fail
            refine HCT.out.mono ?_
            rintro e w5 ⟨rfl, rfl⟩
            go_wp2_with fail
            go_roundw
            case rel => exact ⟨k + 1, d + 1, by omega, by go_num, by go_num, by omega, HD2.out, HB4.out⟩
            case measure => simp [intOf]; omega
          · rw [decide_eq_false hin] at HCT
            have HD2 := Lib.hid (show d = ((headL g).take (k + 1)).countP fun h => decide (n ∈ loopL g h) by rw [HFT.out, if_neg (by simpa using hin), ← HD.out]; rfl)
            clear hin
            go_wp2_with fail
            refine HCT.out.mono ?_
            rintro e w5 ⟨rfl, rfl⟩
            go_wp2_with fail
            go_roundw
            case rel => exact ⟨k + 1, d, by omega, by go_num, rfl, by omega, HD2.out, HB4.out⟩
            case measure => simp [intOf]; omega
        · have HE := Lib.hid (show (d : Int) = depthV g s by rw [HR.out, HD.out, List.take_of_length_le (by omega)]; rfl)
          have HB5 := Lib.hid (below_trans_self HB2.out HB.out)
          go_wp2_with fail
          go_ret
          exact ⟨ret_int HE.out, HB5.out⟩
  · have hv : validB g = false := by simpa using hv
    have HC := Lib.hid (wayOrderOf_no A cap g w hg hn hv)
    have HR := Lib.hid (depthV_none (liveOf_no (s := s) hv))
    clear hg hv
    go_enter Tryz.func19, Tryz.ntmps19
    go_wp2_with fail
    refine HC.out.mono ?_
    rintro e w1 ⟨WB, tb, mv, rfl, hW, hT, b1⟩
    have HB1 := Lib.hid b1
    have cT := hW.cell 0
    have HN := Lib.hid (treeNamed_no tb _ _ s w1 hT)
    clear hW hT b1
    go_wp2_with fail
    refine HN.out.mono ?_
    rintro e w3 ⟨rfl, rfl⟩
    go_wp2_with fail
    go_ret
    exact ⟨ret_int HR.out.symm, HB1.out⟩
end Go.Proofs.YtdolbmonmkjajaaGreat
