/-
  The law FnWayTo, walked.
-/
import Derived.Test.YteodlcgmncchpaaWayFacts
import Derived.Test.YteodlcgmncchpaaDraws
import Derived.Test.YteodlcgmncchpaaNextOf
import Derived.Test.YteodlcgmncchpaaDrawTrace
namespace Go.Proofs.Yteodlcgmncchpaa
open Go.RowKit Go.Sort

set_option maxRecDepth 100000 in
set_option maxHeartbeats 1000000 in
theorem wayTo_walk (A : Option Addr) (la ca : Nat) (w : World) (hA : Bytes w A la) (h1 : la ≤ ca) (h3 : ca ≤ 9223372036854775807) :
    Calls Try.prog 8 #[.slice A la ca] w fun e w' => e = .returned (.bool true) ∧ Below w.heap.size w w' := by
  by_cases g1 : (1048576 : Int) < la
  · clear hA
    go_enter Try.func8, Try.ntmps8
    go_wp2_with fail
    go_ret
    exact ⟨rfl, Below.refl _ _⟩
  have HA := Lib.hid (drawWayTo_any A la ca w hA h1 h3)
  clear hA
  go_enter Try.func8, Try.ntmps8
  go_wp2_with fail
  refine HA.out.mono ?_
  intro e w1 hd1
  obtain ⟨A1, c1, g, nm, rfl, hc1, gg, hn1, hnm, b1⟩ := drawnPlace_of hd1
  have HB1 := Lib.hid b1
  have HG := Lib.hid gg
  have HN1 := Lib.hid hn1
  clear hd1 b1 gg
  go_wp2_with fail
  refine (implWayTo_any A1 c1 g nm w1 HG.out (by omega)).mono ?_
  rintro e w2 ⟨s, ok, rfl, hA2, hS2, b2⟩
  have HA2 := Lib.hid hA2
  have HS2 := Lib.hid hS2
  have HG2 := Lib.hid (HG.out.below b2)
  have HB2 := Lib.hid (below_trans_self HB1.out b2)
  clear hA2 hS2 b2
  go_wp2_with fail
  refine (specWayTo_any A1 c1 g nm w2 HG2.out (by omega) hc1).mono ?_
  rintro e w3 ⟨s', ok', rfl, hA3, b3⟩
  obtain ⟨rfl, rfl⟩ := HA2.out.unique hA3
  have HG3 := Lib.hid (HG2.out.below b3)
  have HB3 := Lib.hid (below_trans_self HB2.out b3)
  clear hA3 b3
  cases ok with
  | true =>
    have hv : validB g = true := by
      rcases HA2.out with ⟨h, _⟩ | ⟨_, _, h⟩
      · exact h
      · cases h
    obtain ⟨i, hF⟩ := found_of hv HA2.out HS2.out
    have hcb := choices_short hv hn1 hF.lr hF.short
    have hrb := runB_yes hv hcb
    have hsz : s.size ≤ 26 := by have := hF.short; have := (valid_iff.1 hv).2.1; omega
    have HR := Lib.hid (fun w (h : Gr w A1 g) => implRun_yes A1 c1 g s w h (by omega) (by omega) hrb)
    obtain ⟨tr, htr⟩ : ∃ tr, tr = runT g s := ⟨_, rfl⟩
    obtain ⟨z, hz⟩ : ∃ z, z = runE g s := ⟨_, rfl⟩
    have htz : tr.size ≤ 60 := htr ▸ runT_small hrb
    have hhas : hasB tr nm = true := htr ▸ hF.has hv hrb
    have HHAS := Lib.hid (fun w => (by have := sjHas_any tr nm w (by omega); rw [hhas] at this; exact this : Calls Try.prog 33 #[.string tr, .string nm] w _))
    have HRG : Hid (∀ w, Gr w A1 g → Calls Try.prog 37 #[.slice A1 g.length c1, .string s] w fun e w' => e = .returned (.tuple #[.string tr, .int .i64 z, .bool true]) ∧ Below w.heap.size w w') := fun w h => by
      have := HR.out w h
      unfold RunPost at this
      rw [hrb, ← htr, ← hz] at this
      exact this
    have HF := Lib.hid hF
    have HV := Lib.hid hv
    have HZ := Lib.hid hz
    have HCB := Lib.hid hcb
    have HRB := Lib.hid hrb
    clear hv hF hcb hrb htr hz hhas HR
    go_wp2_with fail
    refine (HRG.out _ HG3.out).mono ?_
    rintro e w4 ⟨rfl, b4⟩
    have HG4 := Lib.hid (HG3.out.below b4)
    have HB4 := Lib.hid (below_trans_self HB3.out b4)
    clear b4
    go_wp2_with fail
    refine (HHAS.out _).mono ?_
    rintro e w5 ⟨rfl, rfl⟩
    by_cases h2 : z = 2
    · have q0 : (z == 2) = true := by simpa using h2
      obtain ⟨nx, hnx⟩ : ∃ nx, nx = nextVal g nm := ⟨_, rfl⟩
      have hn2 : nx.size = 1 := by rw [hnx]; exact HF.out.long HV.out HRB.out (by rw [← HZ.out]; exact h2)
      have HNX := Lib.hid (fun w h => (implNext_any A1 c1 g nm w h (by omega)).mono fun e w' h => show e = .returned (.tuple #[.string nx, .bool (nextHas g nm)]) ∧ Below w.heap.size w w' from hnx ▸ h)
      have q1 : ((nx.size : Int) == 1) = true := by rw [hn2]; rfl
      clear h2 hn2 hnx
      go_wp2_with fail
      refine (HNX.out _ HG4.out).mono ?_
      rintro e w6 ⟨rfl, b6⟩
      have HB6 := Lib.hid (below_trans_self HB4.out b6)
      clear b6
      go_wp2_with fail
      refine (HHAS.out _).mono ?_
      rintro e w7 ⟨rfl, rfl⟩
      go_wp2_with fail
      go_ret
      exact ⟨rfl, HB6.out⟩
    · have q0 : (z == 2) = false := by simpa using h2
      clear h2
      go_wp2_with fail
      obtain ⟨wo, hwo⟩ : ∃ wo : World, wo = w4 := ⟨_, rfl⟩
      have HGO : Hid (Gr wo A1 g) := by rw [hwo]; exact HG4.out
      have HBO : Hid (Below w.heap.size w wo) := by rw [hwo]; exact HB4.out
      rw [← hwo]
      clear hwo HG4 HB4
      go_loopw [88] (fun i wr => ∃ k : Nat, k ≤ s.size ∧ i = .int .i64 k ∧ Below wo.heap.size wo wr) (fun i _ => s.size - (intOf i).toNat)
      case atStart => exact ⟨0, Nat.zero_le _, rfl, Below.refl _ _⟩
      case round =>
        obtain ⟨k, hk, rfl, hB⟩ := hrel
        have HB := Lib.hid hB
        clear hB
        by_cases hlt : k < s.size
        · have hrb := runB_yes HV.out (choices_part HCB.out k)
          have HR := Lib.hid (implRun_yes A1 c1 g (s.extract 0 k) wr (HGO.out.below HB.out) (by omega) (by rw [ByteArray.size_extract]; omega) hrb)
          have hless := HF.out.less HV.out hlt hrb
          have htz2 := runT_small hrb
          obtain ⟨t2, ht2⟩ : ∃ t2, t2 = runT g (s.extract 0 k) := ⟨_, rfl⟩
          rw [← ht2] at hless htz2
          have HH2 := Lib.hid (fun w => (by have := sjHas_any t2 nm w (by omega); rw [hless] at this; exact this : Calls Try.prog 33 #[.string t2, .string nm] w _))
          have HT2 := Lib.hid ht2
          clear hrb hless ht2
          go_wp2_with fail
          refine HR.out.mono ?_
          rintro e w6 ⟨rfl, b6⟩
          rw [← HT2.out]
          have HB6 := Lib.hid (HB.out.trans (b6.mono HB.out.size))
          clear b6
          go_wp2_with fail
          refine (HH2.out _).mono ?_
          rintro e w7 ⟨rfl, rfl⟩
          go_wp2_with fail
          go_roundw
          case rel => exact ⟨k + 1, by omega, by go_num, HB6.out⟩
          case measure => simp [intOf]; omega
        · go_wp2_with fail
          go_ret
          exact ⟨rfl, below_trans_self HBO.out HB.out⟩
  | false =>
    obtain ⟨rfl, hno⟩ := none_reached HA2.out
    have HNO := Lib.hid hno
    have HRC := Lib.hid (implReached_any A1 c1 g w3 HG3.out (by omega))
    clear hno
    obtain ⟨r, hr⟩ : ∃ r, r = reachV g := ⟨_, rfl⟩
    have hrz : r.size ≤ 1048576 := by
      rw [hr]
      cases hv : validB g with
      | false => rw [reachV_no hv]; exact Nat.zero_le _
      | true => rw [reachV_yes hv, namesAt_size hv _ (reachS_lt g)]; have := srt_len g (reach g) g.length; rw [← reachS_srt] at this; omega
    rw [← hr] at HNO HRC
    cases hv : validB g with
    | false =>
      rw [hv] at HRC
      clear hr hv
      go_wp2_with fail
      refine HRC.out.mono ?_
      rintro e w4 ⟨rfl, b4⟩
      go_wp2_with fail
      go_ret
      exact ⟨rfl, below_trans_self HB3.out b4⟩
    | true =>
      have hf : hasB r nm = false := by
        rcases HNO.out with h | h
        · rw [hv] at h; cases h
        · exact h
      have HH := Lib.hid (fun w => (by have := sjHas_any r nm w hrz; rw [hf] at this; exact this : Calls Try.prog 33 #[.string r, .string nm] w _))
      rw [hv] at HRC
      clear hr hv hf
      go_wp2_with fail
      refine HRC.out.mono ?_
      rintro e w4 ⟨rfl, b4⟩
      have HB4 := Lib.hid (below_trans_self HB3.out b4)
      clear b4
      go_wp2_with fail
      refine (HH.out _).mono ?_
      rintro e w5 ⟨rfl, rfl⟩
      go_wp2_with fail
      go_ret
      exact ⟨rfl, HB4.out⟩

end Go.Proofs.Yteodlcgmncchpaa
