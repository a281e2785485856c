/-
  The model's FirstOther, and SameRuns of both.
-/
import Derived.Test.YtgkamcnbpiipoaaGreatFirstOther
import Derived.Test.YtgkamcnbpiipoaaGreatMRunText
namespace Go.Proofs.YtgkamcnbpiipoaaGreat
open Go.RowKit Go.Sort
attribute [local go_sem] Oper.semAt_some

theorem ran_short {s x : List UInt8} {l : List It} (hl : textOk s l) (hx : x ∈ shortL 6) {q : Option ROut} (h : RanT s x q) : ∃ o, q = some o ∧ Runs (.l l) (rs0 x) o := by
  cases q with
  | none =>
    rcases h with h | h
    · exact absurd hl (h l)
    · rw [(short_LR x hx).1] at h; cases h
  | some o =>
    obtain ⟨l', h1, _, h3⟩ := h
    have := textOk_uniq h1 hl
    subst this
    exact ⟨o, rfl, h3⟩

set_option maxRecDepth 100000 in
set_option maxHeartbeats 3200000 in
theorem specFirstOther_any (A : Option Addr) (cap : Nat) (g : List Bl) (s : List UInt8) (w : World) (hg : Gr w A g) (hn : g.length + tot g ≤ 1048576) (hcap : g.length ≤ cap) (hs : s.length ≤ 1048576) :
    Calls Tryz.prog 7 #[.slice A g.length cap, .string (tb s)] w fun e w' => ∃ r, FO g s r ∧ e = .returned (foV r) ∧ Below w.heap.size w w' := by
  have HG := Lib.hid hg
  have HGV := Lib.hid (specValid_any A cap g w hg hn hcap)
  have HTV := Lib.hid (fun W => by have := specValid_text (tb s) W (by rw [tb_size]; exact hs); rw [tb_data] at this; exact this)
  have HSR := Lib.hid (fun x W (hgw : Gr W A g) hc => specRun_any A cap g (tb x) W hgw hn hcap hc)
  have HST := Lib.hid (fun x W hx => specRunText_any s x W hs hx)
  clear hg hn hcap hs
  cases hv : validB g with
  | false =>
    rw [hv] at HGV
    have HF := Lib.hid (fo_no_graph (s := s) hv)
    clear hv
    go_enter Tryz.func7, Tryz.ntmps7
    go_wp2_with fail
    refine HGV.out.mono ?_
    rintro e w1 ⟨rfl, b1⟩
    have HB1 := Lib.hid b1
    clear b1
    go_wp2_with fail
    go_ret2
    exact ⟨none, HF.out, rfl, HB1.out⟩
  | true =>
    rw [hv] at HGV
    have HV := Lib.hid hv
    clear hv
    cases ht : textB s with
    | false =>
      rw [ht] at HTV
      have HF := Lib.hid (fo_no_text (g := g) (textB_not ht))
      clear ht
      go_enter Tryz.func7, Tryz.ntmps7
      go_wp2_with fail
      refine HGV.out.mono ?_
      rintro e w1 ⟨rfl, b1⟩
      have HB1 := Lib.hid b1
      clear b1
      go_wp2_with fail
      refine (HTV.out w1).mono ?_
      rintro e w2 ⟨rfl, b2⟩
      have HB2 := Lib.hid (below_trans_self HB1.out b2)
      clear b2
      go_wp2_with fail
      go_ret2
      exact ⟨none, HF.out, rfl, HB2.out⟩
    | true =>
      rw [ht] at HTV
      obtain ⟨l, hl⟩ := textB_get ht
      have HTX := Lib.hid hl
      clear ht hl
      go_enter Tryz.func7, Tryz.ntmps7
      go_wp2_with fail
      refine HGV.out.mono ?_
      rintro e w1 ⟨rfl, b1⟩
      have HB1 := Lib.hid b1
      clear b1
      go_wp2_with fail
      refine (HTV.out w1).mono ?_
      rintro e w2 ⟨rfl, b2⟩
      have HB2 := Lib.hid (below_trans_self HB1.out b2)
      clear b2
      go_wp2_with fail
      refine (l6Short_any 6 w2 (by decide)).mono ?_
      rintro e w3 ⟨v, rfl, hown, b3⟩
      have HB3 := Lib.hid (below_trans_self HB2.out b3)
      have hL := shortL_len (n := 6) (by decide)
      obtain ⟨n, hnn⟩ : ∃ n, n = ((shortL 6).map tb).length := ⟨_, rfl⟩
      have hn127 : n ≤ 127 := by rw [hnn, List.length_map]; exact hL
      have hnL : n = (shortL 6).length := by rw [hnn, List.length_map]
      have h1L : (shortL 6).length = n := hnL.symm
      rcases own_casesS hown with ⟨rfl, h0⟩ | ⟨B, c, cs, t, rfl, hB, hblk, _⟩
      · exfalso
        rw [List.length_map] at h0
        have : (shortL 6).length = 127 := by decide +kernel
        omega
      · have HOWN := Lib.hid hown
        have hbs := hblk.lt
        rw [← hnn]
        have HNN := Lib.hid hnn
        have HNL := Lib.hid hnL
        clear b3 hown hblk hL hnn hnL h1L
        go_wp2_with fail
        go_loopg [24] n (fun gk iv wr => ∃ k : Nat, gk = n - k ∧ k ≤ n ∧ iv = .int .i64 k ∧ Hid (OwnStr wr w2.heap.size (.slice (some ⟨B, 0, none⟩) ((shortL 6).map tb).length c) ((shortL 6).map tb)) ∧ Hid (Below w.heap.size w wr) ∧ Hid (∀ y ∈ (shortL 6).take k, Agr g l y))
        case atStart => exact ⟨0, by omega, Nat.zero_le _, rfl, HOWN.out, HB3.out, fun y hy => absurd hy (by simp)⟩
        case round =>
          obtain ⟨k, rfl, hk, rfl, HO, HB, HA⟩ := hrel
          by_cases hlt : k < n
          · have hkL : k < (shortL 6).length := by rw [← HNL.out]; exact hlt
            have hc0 := own_cellS HO.out (k := k) (by rw [List.length_map]; exact hkL)
            rw [List.getElem_map] at hc0
            obtain ⟨x, hx⟩ : ∃ x, x = (shortL 6)[k] := ⟨_, rfl⟩
            rw [← hx] at hc0
            have hxm : x ∈ shortL 6 := by rw [hx]; exact List.getElem_mem _
            have hz : (tb x).size ≤ 4611686018427387904 := by have := (short_LR x hxm).2; rw [tb_size]; omega
            have hz' : x.length ≤ 4611686018427387904 := by have := (short_LR x hxm).2; omega
            have HR := Lib.hid (HSR.out x wr (HG.out.below HB.out) hz)
            unfold RunPost at HR
            obtain ⟨T0, hT0⟩ : ∃ T0, T0 = runT g (tb x) := ⟨_, rfl⟩
            obtain ⟨E0, hE0⟩ : ∃ E0, E0 = runE g (tb x) := ⟨_, rfl⟩
            rw [← hT0, ← hE0] at HR
            have HT0 := Lib.hid hT0
            have HE0 := Lib.hid hE0
            have HT := Lib.hid (fun W => HST.out x W hz')
            have HTK := Lib.hid (show (shortL 6).take k ++ [x] = (shortL 6).take (k + 1) by rw [hx, List.take_succ_eq_append_getElem hkL])
            have HXM := Lib.hid hxm
            clear hT0 hE0 hx hxm hz hz' hkL
            go_wp2_with fail
            refine HR.out.mono ?_
            rintro e w4 ⟨rfl, b4⟩
            have HB4 := Lib.hid (below_trans_self HB.out b4)
            have HO4 := Lib.hid (own_belowS HO.out b4)
            clear b4
            go_wp2_with fail
            refine (HT.out w4).mono ?_
            rintro e w5 ⟨q, hq, rfl, b5⟩
            obtain ⟨o, rfl, hr⟩ := ran_short HTX.out HXM.out hq
            have HB5 := Lib.hid (below_trans_self HB4.out b5)
            have HO5 := Lib.hid (own_belowS HO4.out b5)
            have HRU := Lib.hid hr
            clear b5 hq hr
            unfold rtV
            by_cases hq : (tb o.trace).toList = T0.toList ∧ (o.code : Int) = E0
            · have g1 : (T0.toList == (tb o.trace).toList) = true := by simp [hq.1]
              have g1' : (T0.toList != (tb o.trace).toList) = false := by simp [hq.1]
              have g2 : (E0 == (o.code : Int)) = true := by simp [hq.2]
              have g2' : (E0 != (o.code : Int)) = false := by simp [hq.2]
              have HAG : Hid (Agr g l x) := Lib.hid ⟨o, HRU.out, by rw [← HT0.out]; exact beq_toList.1 (by simp [hq.1]), by rw [← HE0.out]; exact hq.2⟩
              clear hq
              go_wp2_with fail
              go_roundg (n - (k + 1))
              case measure => omega
              case rel =>
                refine ⟨k + 1, rfl, by omega, by go_num, HO5.out, HB5.out, Lib.hid fun y hy => ?_⟩
                rw [← HTK.out] at hy
                rcases List.mem_append.1 hy with hy | hy
                · exact HA.out y hy
                · rw [List.mem_singleton] at hy; rw [hy]; exact HAG.out
            · have HDI : Hid (Dis g l x) := Lib.hid ⟨o, HRU.out, fun h => hq ⟨by rw [HT0.out, ← h.1], by rw [HE0.out, ← h.2]⟩⟩
              have HFO : Hid (FO g s (some x)) := Lib.hid ⟨l, HTX.out, HV.out, (shortL 6).take k, by rw [HTK.out]; exact List.take_prefix _ _, HA.out, HDI.out⟩
              by_cases hq1 : (tb o.trace).toList = T0.toList
              · have g1 : (T0.toList == (tb o.trace).toList) = true := by simp [hq1]
                have g1' : (T0.toList != (tb o.trace).toList) = false := by simp [hq1]
                have g2 : (E0 == (o.code : Int)) = false := by simp; exact fun h => hq ⟨hq1, h.symm⟩
                have g2' : (E0 != (o.code : Int)) = true := by simp; exact fun h => hq ⟨hq1, h.symm⟩
                clear hq hq1
                go_wp2_with fail
                go_ret2
                exact ⟨some x, HFO.out, rfl, HB5.out⟩
              · have g1 : (T0.toList == (tb o.trace).toList) = false := by simp; exact fun h => hq1 h.symm
                have g1' : (T0.toList != (tb o.trace).toList) = true := by simp; exact fun h => hq1 h.symm
                clear hq hq1
                go_wp2_with fail
                go_ret2
                exact ⟨some x, HFO.out, rfl, HB5.out⟩
          · have hke : k = n := by omega
            have HFO : Hid (FO g s none) := Lib.hid fun l' hl' _ y hy => by
              rw [textOk_uniq hl' HTX.out]
              exact HA.out y (by rw [List.take_of_length_le (by rw [← HNL.out]; omega)]; exact hy)
            clear hke
            go_wp2_with fail
            go_ret2
            exact ⟨none, HFO.out, rfl, HB.out⟩
end Go.Proofs.YtgkamcnbpiipoaaGreat
