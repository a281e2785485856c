/-
  The law FnStopsFirst, walked.
-/
import Derived.Test.YteodlcgmncchpaaStopFacts
import Derived.Test.YteodlcgmncchpaaDraws
import Derived.Test.YteodlcgmncchpaaDrawTrace
import Derived.Test.YteodlcgmncchpaaNamesOf
namespace Go.Proofs.Yteodlcgmncchpaa
open Go.RowKit Go.Sort

theorem name_at {g : List Bl} (hv : validB g = true) {k : Nat} (hk : k < (namesVal g).size) : ∃ h : k < g.length, (namesVal g).extract k (k + 1) = nthName g k ∧ nextVal g ((namesVal g).extract k (k + 1)) = g[k].2 := by
  have e : namesVal g = namesAt g (List.range g.length) := by rw [namesVal_yes hv, namesAt_all g g.length (Nat.le_refl _), List.take_length]
  have hl : ∀ i ∈ List.range g.length, i < g.length := fun i hi => List.mem_range.1 hi
  rw [e, namesAt_size hv _ hl, List.length_range] at hk
  obtain ⟨h, e2⟩ := namesAt_cut hv hl (k := k) (by rw [List.length_range]; exact hk)
  have e3 : (List.range g.length)[k]'(by rw [List.length_range]; exact hk) = k := List.getElem_range _
  have e4 : (namesVal g).extract k (k + 1) = g[k].1 := by rw [e, e2]; congr 2
  exact ⟨hk, by rw [e4, nthName_at hk], by rw [e4]; exact nextVal_some hv (posOf_name hv hk) hk⟩

theorem names_size {g : List Bl} (hv : validB g = true) : (namesVal g).size ≤ 26 := by
  have e : namesVal g = namesAt g (List.range g.length) := by rw [namesVal_yes hv, namesAt_all g g.length (Nat.le_refl _), List.take_length]
  rw [e, namesAt_size hv _ (fun i hi => List.mem_range.1 hi), List.length_range]; exact (valid_iff.1 hv).2.1

/-- Not better, in the law's own spelling. -/
theorem not_better {a b : ByteArray} (ha : lrS a = true) (hb : lrS b = true) (h : cd b ≤ cd a) : ¬ a.size < b.size ∧ (a.size = b.size → Op.bytesLess a.toList b.toList = false) := by
  have hi := lt_iff_code ha hb
  refine ⟨fun h1 => by have := hi.2 (.inl h1); omega, fun h1 => ?_⟩
  rw [bytesLess_eq, Lib.toList_data, Lib.toList_data]
  exact decide_eq_false fun h2 => by have := hi.2 (.inr ⟨h1, h2⟩); omega

set_option maxRecDepth 100000 in
set_option maxHeartbeats 1000000 in
theorem stopsFirst_walk (A B : Option Addr) (la ca lb cb : Nat) (w : World) (hA : Bytes w A la) (hB : Bytes w B lb) (h1 : la ≤ ca) (h2 : lb ≤ cb) (h3 : ca ≤ 9223372036854775807) (h4 : cb ≤ 9223372036854775807) :
    Calls Try.prog 11 #[.slice A la ca, .slice B lb cb] w fun e w' => e = .returned (.bool true) ∧ Below w.heap.size w w' := by
  by_cases g1 : (1048576 : Int) < la
  · clear hA hB
    go_enter Try.func11, Try.ntmps11
    go_wp2_with fail
    go_ret
    exact ⟨rfl, Below.refl _ _⟩
  by_cases g2 : (1048576 : Int) < lb
  · clear hA hB
    go_enter Try.func11, Try.ntmps11
    go_wp2_with fail
    go_ret
    exact ⟨rfl, Below.refl _ _⟩
  have HA := Lib.hid (drawStopsWith_any A la ca w hA h1 h3)
  have HBY := Lib.hid hB
  have HD := Lib.hid (fun w h => drawRunGraph_any B lb cb w h h2 h4)
  clear hA hB
  go_enter Try.func11, Try.ntmps11
  go_wp2_with fail
  refine HA.out.mono ?_
  intro e w1 hd1
  obtain ⟨A1, c1, g, rfl, hc1, gg, hn1, b1⟩ := drawn_of hd1
  have HBY1 := Lib.hid (HBY.out.below b1)
  have HB1 := Lib.hid b1
  have HG := Lib.hid gg
  have HN1 := Lib.hid hn1
  clear hd1 b1 gg
  go_wp2_with fail
  refine (implStops_any A1 c1 g w1 HG.out (by omega)).mono ?_
  rintro e w2 ⟨s, ok, rfl, hA2, hS2, b2⟩
  have HA2 := Lib.hid hA2
  have HS2 := Lib.hid hS2
  have HG2 := Lib.hid (HG.out.below b2)
  have HBY2 := Lib.hid (HBY1.out.below b2)
  have HB2 := Lib.hid (below_trans_self HB1.out b2)
  clear hA2 hS2 b2
  go_wp2_with fail
  refine (specStops_any A1 c1 g w2 HG2.out (by omega) hc1).mono ?_
  rintro e w3 ⟨s', ok', rfl, hA3, b3⟩
  obtain ⟨rfl, rfl⟩ := HA2.out.unique hA3
  have HG3 := Lib.hid (HG2.out.below b3)
  have HBY3 := Lib.hid (HBY2.out.below b3)
  have HB3 := Lib.hid (below_trans_self HB2.out b3)
  clear hA3 b3
  cases ok with
  | false =>
    obtain ⟨rfl, hno⟩ := no_stop HA2.out
    have HNO := Lib.hid hno
    clear hno
    go_wp2_with fail
    refine (HD.out w3 HBY3.out).mono ?_
    intro e w4 hd4
    obtain ⟨A2, c2, h, t, rfl, hc2, hh, hn2, htz, b4⟩ := drawnRun_of hd4
    have HG4 := Lib.hid (HG3.out.below b4)
    have HB4 := Lib.hid (below_trans_self HB3.out b4)
    clear hd4 hh b4
    by_cases hb : runB g t = true
    · have hne : runE g t ≠ 0 := by
        rcases HNO.out with h | ⟨_, h⟩
        · unfold runB at hb; rw [h] at hb; cases hb
        · exact h t hb
      obtain ⟨z, hz⟩ : ∃ z, z = runE g t := ⟨_, rfl⟩
      rw [← hz] at hne
      have q0 : (z != 0) = true := by simp only [bne]; simpa using hne
      have HR : Hid (Calls Try.prog 37 #[.slice A1 g.length c1, .string t] w4 fun e w' => e = .returned (.tuple #[.string (runT g t), .int .i64 z, .bool true]) ∧ Below w4.heap.size w4 w') := by
        have := implRun_yes A1 c1 g t w4 HG4.out (by omega) (by omega) hb
        unfold RunPost at this
        rw [hb, ← hz] at this
        exact this
      clear hb hne hz
      go_wp2_with fail
      refine HR.out.mono ?_
      rintro e w5 ⟨rfl, b5⟩
      go_wp2_with fail
      go_ret
      exact ⟨rfl, below_trans_self HB4.out b5⟩
    · have hb' : runB g t = false := by simpa using hb
      have HR : Hid (Calls Try.prog 37 #[.slice A1 g.length c1, .string t] w4 fun e w' => e = .returned (.tuple #[.string (runT g t), .int .i64 (runE g t), .bool false]) ∧ Below w4.heap.size w4 w') := by
        have := implRun_no A1 c1 g t w4 HG4.out (by omega) (by omega) hb'
        unfold RunPost at this
        rw [hb'] at this
        exact this
      clear hb hb'
      go_wp2_with fail
      refine HR.out.mono ?_
      rintro e w5 ⟨rfl, b5⟩
      go_wp2_with fail
      go_ret
      exact ⟨rfl, below_trans_self HB4.out b5⟩
  | true =>
    have hv : validB g = true := by
      rcases HA2.out with ⟨h, _⟩ | ⟨_, _, h⟩
      · exact h
      · cases h
    obtain ⟨i, hF⟩ := foundStop_of hv HA2.out HS2.out
    have hcb := choices_short hv hn1 hF.lr hF.short
    have hsz : s.size ≤ 26 := by have := hF.short; have := (valid_iff.1 hv).2.1; omega
    have HF := Lib.hid hF
    have HV := Lib.hid hv
    have HCB := Lib.hid hcb
    have hnc := implNames_any A1 c1 g w3 HG3.out (by omega)
    obtain ⟨nm, hnm⟩ : ∃ nm, nm = namesVal g := ⟨_, rfl⟩
    have hnz : nm.size ≤ 26 := hnm ▸ names_size hv
    rw [← hnm, hv] at hnc
    have HNC := Lib.hid hnc
    have HNM := Lib.hid hnm
    clear hv hF hcb hnc hnm
    go_wp2_with fail
    refine HNC.out.mono ?_
    rintro e w4 ⟨rfl, b4⟩
    have HG4 := Lib.hid (HG3.out.below b4)
    have HB4 := Lib.hid (below_trans_self HB3.out b4)
    clear b4
    go_wp2_with fail
    obtain ⟨wo, hwo⟩ : ∃ wo : World, wo = w4 := ⟨_, rfl⟩
    have HGO : Hid (Gr wo A1 g) := by rw [hwo]; exact HG4.out
    have HBO : Hid (Below w.heap.size w wo) := by rw [hwo]; exact HB4.out
    rw [← hwo]
    clear hwo HG4 HB4
    go_loopw [76] (fun i wr => ∃ k : Nat, k ≤ nm.size ∧ i = .int .i64 k ∧ Below wo.heap.size wo wr) (fun i _ => nm.size - (intOf i).toNat)
    case atStart => exact ⟨0, Nat.zero_le _, rfl, Below.refl _ _⟩
    case round =>
      obtain ⟨k, hk, rfl, hB⟩ := hrel
      have HB := Lib.hid hB
      clear hB
      by_cases hlt : k < nm.size
      · obtain ⟨hkl, hex, hnv⟩ := name_at HV.out (by rw [← HNM.out]; exact hlt)
        rw [← HNM.out] at hex hnv
        obtain ⟨nx, hnx⟩ : ∃ nx, nx = g[k].2 := ⟨_, rfl⟩
        have HNX := Lib.hid ((implNext_any A1 c1 g (nm.extract k (k + 1)) wr (HGO.out.below HB.out) (by omega)).mono fun e w' h => show e = .returned (.tuple #[.string nx, .bool (nextHas g (nm.extract k (k + 1)))]) ∧ Below wr.heap.size wr w' from (hnv.trans hnx.symm) ▸ h)
        have HW := Lib.hid (fun w h => implWayTo_any A1 c1 g (nm.extract k (k + 1)) w h (by omega))
        have HEX := Lib.hid hex
        have HST := Lib.hid (show nx.size = 0 → Stops g k from fun h => ⟨hkl, List.eq_nil_of_length_eq_zero (by rw [nxt_length hkl, ← hnx]; exact h)⟩)
        have k1 : k + 1 ≤ nm.size := by omega
        clear hex hnv hnx
        go_wp2_with fail
        refine HNX.out.mono ?_
        rintro e w5 ⟨rfl, b5⟩
        have HB5 := Lib.hid (HB.out.trans (b5.mono HB.out.size))
        clear b5
        go_wp2_with fail
        refine (HW.out _ (HGO.out.below HB5.out)).mono ?_
        rintro e w6 ⟨s2, ok2, rfl, hA6, _, b6⟩
        rw [HEX.out] at hA6
        have HA6 := Lib.hid hA6
        have hs2z := hA6.small
        have HB6 := Lib.hid (HB5.out.trans (b6.mono HB5.out.size))
        clear hA6 b6
        cases ok2 with
        | false =>
          go_wp2_with fail
          go_roundw
          case rel => exact ⟨k + 1, by omega, by go_num, HB6.out⟩
          case measure => simp [intOf]; omega
        | true =>
          by_cases hx : nx.size = 0
          · have hnx0 : nx = ⟨#[]⟩ := ba_ext (List.eq_nil_of_length_eq_zero (list_of_size.trans hx))
            obtain ⟨hle, hlr⟩ := HF.out.first HV.out (HST.out hx) HA6.out
            obtain ⟨nb1, nb2⟩ := not_better hlr HF.out.lr hle
            subst hnx0
            have q0 : decide ((s2.size : Int) < s.size) = false := by simp; omega
            have q0' : decide (s2.size < s.size) = false := by simp; omega
            clear hx hle hlr
            by_cases heq : s2.size = s.size
            · have q1 : ((s2.size : Int) == s.size) = true := by rw [heq]; simp
              have q2 := nb2 heq
              clear nb1 nb2 heq
              go_wp2_with fail
              go_roundw
              case rel => exact ⟨k + 1, by omega, by go_num, HB6.out⟩
              case measure => simp [intOf]; omega
            · have q1 : ((s2.size : Int) == s.size) = false := by simp; omega
              clear nb1 nb2 heq
              go_wp2_with fail
              go_roundw
              case rel => exact ⟨k + 1, by omega, by go_num, HB6.out⟩
              case measure => simp [intOf]; omega
          · have q0 := beq_empty (s := nx) (by omega)
            clear hx
            go_wp2_with fail
            go_roundw
            case rel => exact ⟨k + 1, by omega, by go_num, HB6.out⟩
            case measure => simp [intOf]; omega
      · have HB1 := Lib.hid (below_trans_self HBO.out HB.out)
        have HGR := Lib.hid (HGO.out.below HB.out)
        go_wp2_with fail
        obtain ⟨wp, hwp⟩ : ∃ wp : World, wp = wr := ⟨_, rfl⟩
        have HGP : Hid (Gr wp A1 g) := by rw [hwp]; exact HGR.out
        have HBP : Hid (Below w.heap.size w wp) := by rw [hwp]; exact HB1.out
        rw [← hwp]
        clear hwp HGR HB1 HB HGO HBO
        go_loopw [126] (fun i wr => ∃ k : Nat, k ≤ s.size ∧ i = .int .i64 k ∧ Below wp.heap.size wp wr) (fun i _ => s.size - (intOf i).toNat)
        case atStart => exact ⟨0, Nat.zero_le _, rfl, Below.refl _ _⟩
        case round =>
          obtain ⟨q, hq, rfl, hB⟩ := hrel
          have HB := Lib.hid hB
          clear hB
          by_cases hlq : q < s.size
          · have hrb := runB_yes HV.out (choices_part HCB.out q)
            have hne := HF.out.less HV.out hlq hrb
            have HR := Lib.hid (implRun_yes A1 c1 g (s.extract 0 q) wr (HGP.out.below HB.out) (by omega) (by rw [ByteArray.size_extract]; omega) hrb)
            obtain ⟨z, hz⟩ : ∃ z, z = runE g (s.extract 0 q) := ⟨_, rfl⟩
            rw [← hz] at hne
            have q0 : (z == 0) = false := by simpa using hne
            have HZ := Lib.hid hz
            clear hrb hne hz
            go_wp2_with fail
            refine HR.out.mono ?_
            rintro e w6 ⟨rfl, b6⟩
            rw [← HZ.out]
            have HB6 := Lib.hid (HB.out.trans (b6.mono HB.out.size))
            clear b6
            go_wp2_with fail
            go_roundw
            case rel => exact ⟨q + 1, by omega, by go_num, HB6.out⟩
            case measure => simp [intOf]; omega
          · go_wp2_with fail
            go_ret
            exact ⟨rfl, below_trans_self HBP.out HB.out⟩

end Go.Proofs.Yteodlcgmncchpaa
