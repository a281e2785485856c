/-
  Contracts of the model's WayTo, StopsWith and CanStop; what these answer.
-/
import Derived.Test.YteodlcgmncchpaaL2Best
import Derived.Test.YteodlcgmncchpaaRunGraph
import Derived.Deep.QuietTactic
import Derived.BigQuiet
namespace Go.Proofs.Yteodlcgmncchpaa
open Go.RowKit Go.Sort

/-- The blocks with a name; those that stop. -/
abbrev Named (g : List Bl) (nm : ByteArray) : Nat → Prop := fun j => j < g.length ∧ nthName g j = nm
abbrev Stops (g : List Bl) : Nat → Prop := fun j => j < g.length ∧ nxt g j = []

/-- The best choices to a wanted one, if the graph is valid. -/
def WayAns (g : List Bl) (P : Nat → Prop) (s : ByteArray) (ok : Bool) : Prop := (validB g = true ∧ FirstWay g [] P s ok) ∨ (validB g = false ∧ s = ⟨#[]⟩ ∧ ok = false)

theorem WayAns.unique {g : List Bl} {P : Nat → Prop} {s s' : ByteArray} {ok ok' : Bool} (h : WayAns g P s ok) (h' : WayAns g P s' ok') : s = s' ∧ ok = ok' := by
  rcases h with ⟨v, h⟩ | ⟨v, rfl, rfl⟩ <;> rcases h' with ⟨v', h'⟩ | ⟨v', rfl, rfl⟩
  · exact h.unique h'
  · rw [v] at v'; cases v'
  · rw [v] at v'; cases v'
  · exact ⟨rfl, rfl⟩

theorem WayAns.small {g : List Bl} {P : Nat → Prop} {s : ByteArray} {ok : Bool} (h : WayAns g P s ok) : s.size ≤ 26 := by
  rcases h with ⟨v, ⟨_, _, h, _⟩ | ⟨_, rfl, _⟩⟩ | ⟨_, rfl, _⟩
  · have := (valid_iff.1 v).2.1; omega
  · exact Nat.zero_le _
  · exact Nat.zero_le _

def WayPost (g : List Bl) (P : Nat → Prop) (w : World) (e : Ending) (w' : World) : Prop :=
  ∃ s ok, e = .returned (.tuple #[.string s, .bool ok]) ∧ WayAns g P s ok ∧ Below w.heap.size w w'

theorem named_one {g : List Bl} (hv : validB g = true) {nm : ByteArray} {i : Nat} (hp : posOf g nm = some i) (j : Nat) : j = i ↔ Named g nm j := by
  obtain ⟨hi, hn⟩ := posOf_is hp
  constructor
  · rintro rfl; exact ⟨hi, by rw [nthName_at hi, hn]⟩
  · rintro ⟨hj, hm⟩
    rw [nthName_at hj] at hm
    exact name_inj hv hj hi (hm.trans hn.symm)

theorem named_none {g : List Bl} {nm : ByteArray} (hp : posOf g nm = none) (j : Nat) : ¬ Named g nm j := by
  rintro ⟨hj, hm⟩
  obtain ⟨i, hi⟩ := posOf_has (g := g) (s := nm) (b := g[j]) (List.getElem_mem hj) (by rw [← hm, nthName_at hj])
  rw [hp] at hi; cases hi

set_option maxRecDepth 100000 in
theorem specWayTo_any (A : Option Addr) (cap : Nat) (g : List Bl) (nm : ByteArray) (w : World) (hg : Gr w A g) (hn : g.length + tot g ≤ 1048576) (hcap : g.length ≤ cap) :
    Calls Try.prog 20 #[.slice A g.length cap, .string nm] w (WayPost g (Named g nm) w) := by
  have hc := specValid_any A cap g w hg hn hcap
  by_cases hv : validB g = true
  · rw [hv] at hc
    have HC := Lib.hid hc
    have HV := Lib.hid hv
    have hx := index_any A cap g nm
    cases hp : posOf g nm with
    | none =>
      have HA : Hid (WayAns g (Named g nm) ⟨#[]⟩ false) := .inl ⟨hv, .inr ⟨rfl, rfl, fun j c hj => absurd hj (named_none hp j)⟩⟩
      rw [hp] at hx
      have HX : Hid (∀ w, Gr w A g → g.length ≤ 1048576 → Calls Try.prog 53 #[.slice A g.length cap, .string nm] w fun e w' => e = .returned (.int .i64 (-1)) ∧ Below w.heap.size w w') := hx
      clear hx hp hv hc
      go_enter Try.func20, Try.ntmps20
      go_wp2_with fail
      refine HC.out.mono ?_
      rintro e w1 ⟨rfl, b1⟩
      go_wp2_with fail
      refine (HX.out w1 (hg.below b1) (by omega)).mono ?_
      rintro e w2 ⟨rfl, b2⟩
      go_wp2_with fail
      go_ret2
      exact ⟨_, _, rfl, HA.out, below_trans_self b1 b2⟩
    | some i =>
      obtain ⟨hi, _⟩ := posOf_is hp
      have HO := Lib.hid (named_one hv hp)
      rw [hp] at hx
      have HX : Hid (∀ w, Gr w A g → g.length ≤ 1048576 → Calls Try.prog 53 #[.slice A g.length cap, .string nm] w fun e w' => e = .returned (.int .i64 (i : Int)) ∧ Below w.heap.size w w') := hx
      clear hx hp hv hc
      go_enter Try.func20, Try.ntmps20
      go_wp2_with fail
      refine HC.out.mono ?_
      rintro e w1 ⟨rfl, b1⟩
      go_wp2_with fail
      refine (HX.out w1 (hg.below b1) (by omega)).mono ?_
      rintro e w2 ⟨rfl, b2⟩
      have g2 := (hg.below b1).below b2
      have HB2 := Lib.hid (below_trans_self b1 b2)
      clear b1 b2
      go_wp2_with fail
      refine (l2Best_any A cap g w2 g2 (by omega) HV.out).mono ?_
      rintro e w3 ⟨WB, TB, σ, rfl, hW, hT, hF, b3⟩
      have HW := Lib.hid hW
      have HT := Lib.hid hT
      have HF := Lib.hid hF
      have HB3 := Lib.hid (below_trans_self HB2.out b3)
      have g3 := g2.below b3
      clear hW hT hF b3
      go_wp2_with fail
      refine (HX.out w3 g3 (by omega)).mono ?_
      rintro e w4 ⟨rfl, b4⟩
      have x1 := (HW.out.below b4 HW.out.lt).cell i
      have x2 := (HT.out.below b4 HT.out.lt).cell i
      rw [waysC_get _ hi] at x1
      rw [thereC_get _ hi] at x2
      have HB4 := Lib.hid (below_trans_self HB3.out b4)
      have q0 : (0 : Int) ≤ i := by omega
      clear b4
      go_wp2_with fail
      go_quiet (fail)
      go_wp2_with fail
      go_ret2
      exact ⟨_, _, rfl, .inl ⟨HV.out, (HF.out.one i).same fun j _ => HO.out j⟩, below_trans_self HB4.out (below_drewN _ nq)⟩
  · have hv' : validB g = false := by simpa using hv
    rw [hv'] at hc
    have HC := Lib.hid hc
    have HA : Hid (WayAns g (Named g nm) ⟨#[]⟩ false) := .inr ⟨hv', rfl, rfl⟩
    clear hc hv hv'
    go_enter Try.func20, Try.ntmps20
    go_wp2_with fail
    refine HC.out.mono ?_
    rintro e w1 ⟨rfl, b1⟩
    go_wp2_with fail
    go_ret2
    exact ⟨_, _, rfl, HA.out, b1⟩

set_option maxRecDepth 100000 in
set_option maxHeartbeats 1000000 in
theorem specStops_any (A : Option Addr) (cap : Nat) (g : List Bl) (w : World) (hg : Gr w A g) (hn : g.length + tot g ≤ 1048576) (hcap : g.length ≤ cap) :
    Calls Try.prog 14 #[.slice A g.length cap] w (WayPost g (Stops g) w) := by
  have hc := specValid_any A cap g w hg hn hcap
  by_cases hv : validB g = true
  · rw [hv] at hc
    have HC := Lib.hid hc
    have HV := Lib.hid hv
    have h26 := (valid_iff.1 hv).2.1
    clear hc hv
    go_enter Try.func14, Try.ntmps14
    go_wp2_with fail
    refine HC.out.mono ?_
    rintro e w1 ⟨rfl, b1⟩
    have HG1 := Lib.hid (hg.below b1)
    have HB1 := Lib.hid b1
    clear b1
    go_wp2_with fail
    refine (l2Best_any A cap g w1 HG1.out (by omega) HV.out).mono ?_
    rintro e w3 ⟨WB, TB, σ, rfl, hW, hT, hF, b3⟩
    have HF := Lib.hid hF
    have HW := Lib.hid hW
    have HT := Lib.hid hT
    have HB3 := Lib.hid (below_trans_self HB1.out b3)
    have HG3 := Lib.hid (HG1.out.below b3)
    have hs3 := b3.size
    clear hW hT hF b3
    go_wp2_with fail
    obtain ⟨wo, hwo⟩ : ∃ wo : World, wo = w3 := ⟨_, rfl⟩
    have HGO : Hid (Gr wo A g) := by rw [hwo]; exact HG3.out
    have HBO : Hid (Below w.heap.size w wo) := by rw [hwo]; exact HB3.out
    have HWO : Hid (Blk wo WB 9 (waysC σ g.length)) := by rw [hwo]; exact HW.out
    have HTO : Hid (Blk wo TB 4 (thereC σ g.length)) := by rw [hwo]; exact HT.out
    rw [← hwo]
    clear hwo HW HT HB3 HG3 hs3
    go_loopw [4, 5, 20] (fun s4 s5 i wr => ∃ (k : Nat) (s : ByteArray) (ok : Bool), k ≤ g.length ∧ i = .int .i64 k ∧ s4 = .string s ∧ s5 = .bool ok ∧ FirstWay g [] (StopBefore g k) s ok ∧ Blk wr WB 9 (waysC σ g.length) ∧ Blk wr TB 4 (thereC σ g.length) ∧ Below wo.heap.size wo wr) (fun _ _ i _ => g.length - (intOf i).toNat)
    case atStart => exact ⟨0, ⟨#[]⟩, false, Nat.zero_le _, rfl, rfl, rfl, stops_start g [], HWO.out, HTO.out, Below.refl _ _⟩
    case round =>
      obtain ⟨k, s, ok, hk, rfl, rfl, rfl, hS, hW, hT, hB⟩ := hrel
      have HS := Lib.hid hS
      by_cases hlt : k < g.length
      · obtain ⟨b, off, t, nx, rfl, hb, hc0, hc1, he, he2⟩ := gr_at (HGO.out.below hB) hlt
        have HNL := Lib.hid (show (nxt g k).length = nx.size by rw [nxt_length hlt, he2])
        have HW2 := Lib.hid (hW.alloc (.cells #[.string t, .string nx] 49))
        have HT2 := Lib.hid (hT.alloc (.cells #[.string t, .string nx] 49))
        have HB2 := Lib.hid (hB.alloc hB.size (.cells #[.string t, .string nx] 49))
        have HTK := Lib.hid ((HT2.out.cell k).trans (thereC_get _ hlt))
        have HWK := Lib.hid ((HW2.out.cell k).trans (waysC_get _ hlt))
        clear he he2 hS hW hT hB
        by_cases hz : nx.size = 0
        · have hnx : nx = ⟨#[]⟩ := ba_ext (List.eq_nil_of_length_eq_zero (list_of_size.trans hz))
          have HN0 := Lib.hid (show nxt g k = [] from List.eq_nil_of_length_eq_zero (HNL.out.trans hz))
          subst hnx
          clear hz
          cases hsk : σ k with
          | none =>
            have HR := Lib.hid (stops_none HF.out HS.out hsk)
            rw [hsk] at HTK
            have x1 : ((wr.alloc (.cells #[.string t, .string ⟨#[]⟩] 49))).cell? ⟨TB, k, none⟩ = some (.bool false) := HTK.out
            clear hsk
            go_wp2_with fail
            go_roundw
            case rel => exact ⟨k + 1, s, ok, by omega, by go_num, rfl, rfl, HR.out, HW2.out, HT2.out, HB2.out⟩
            case measure => simp [intOf]; omega
          | some t0 =>
            rw [hsk] at HTK
            rw [atS_some hsk] at HWK
            have x1 : ((wr.alloc (.cells #[.string t, .string ⟨#[]⟩] 49))).cell? ⟨TB, k, none⟩ = some (.bool true) := HTK.out
            have x2 := HWK.out
            have HLT := Lib.hid (HF.out.some_ k t0 hsk).1
            cases ok with
            | false =>
              have HR := Lib.hid (stops_better HF.out HS.out hsk HN0.out (fun h => by cases h))
              clear hsk
              go_wp2_with fail
              go_roundw
              case rel => exact ⟨k + 1, t0, true, by omega, by go_num, rfl, rfl, HR.out, HW2.out, HT2.out, HB2.out⟩
              case measure => simp [intOf]; omega
            | true =>
              have HLS : Hid (lrS s = true) := by
                rcases HS.out with ⟨_, h, _⟩ | ⟨h, _⟩
                · exact h
                · cases h
              have HSH := Lib.hid (fun w' => shorter_any t0 s HLT.out HLS.out w')
              by_cases hsh : shorterB t0 s = true
              · have HR := Lib.hid (stops_better HF.out HS.out hsk HN0.out (fun _ => of_decide_eq_true hsh))
                rw [hsh] at HSH
                clear hsk hsh
                go_wp2_with fail
                refine (HSH.out _).mono ?_
                rintro e w5 ⟨rfl, rfl⟩
                go_wp2_with fail
                go_roundw
                case rel => exact ⟨k + 1, t0, true, by omega, by go_num, rfl, rfl, HR.out, HW2.out, HT2.out, HB2.out⟩
                case measure => simp [intOf]; omega
              · have hsf : shorterB t0 s = false := by simpa using hsh
                have hge : ¬ cd t0 < cd s := of_decide_eq_false hsf
                have HR := Lib.hid (stops_worse HF.out HS.out hsk (by omega))
                rw [hsf] at HSH
                clear hsk hsh hsf hge
                go_wp2_with fail
                refine (HSH.out _).mono ?_
                rintro e w5 ⟨rfl, rfl⟩
                go_wp2_with fail
                go_roundw
                case rel => exact ⟨k + 1, s, true, by omega, by go_num, rfl, rfl, HR.out, HW2.out, HT2.out, HB2.out⟩
                case measure => simp [intOf]; omega
        · have q0 := beq_empty (s := nx) (by omega)
          have HR := Lib.hid (stops_skip HS.out (show nxt g k ≠ [] from fun h => hz (by rw [← HNL.out, h]; rfl)))
          clear hz
          go_wp2_with fail
          go_roundw
          case rel => exact ⟨k + 1, s, ok, by omega, by go_num, rfl, rfl, HR.out, HW2.out, HT2.out, HB2.out⟩
          case measure => simp [intOf]; omega
      · obtain rfl : k = g.length := by omega
        have HB5 := Lib.hid (below_trans_self HBO.out hB)
        clear hS hW hT hB
        go_wp2_with fail
        go_ret2
        exact ⟨s, ok, rfl, .inl ⟨HV.out, HS.out⟩, HB5.out⟩
  · have hv' : validB g = false := by simpa using hv
    rw [hv'] at hc
    have HC := Lib.hid hc
    have HA : Hid (WayAns g (Stops g) ⟨#[]⟩ false) := .inr ⟨hv', rfl, rfl⟩
    clear hc hv hv'
    go_enter Try.func14, Try.ntmps14
    go_wp2_with fail
    refine HC.out.mono ?_
    rintro e w1 ⟨rfl, b1⟩
    go_wp2_with fail
    go_ret2
    exact ⟨_, _, rfl, HA.out, b1⟩

theorem specCan_any (A : Option Addr) (cap : Nat) (g : List Bl) (w : World) (hg : Gr w A g) (hn : g.length + tot g ≤ 1048576) (hcap : g.length ≤ cap) :
    Calls Try.prog 18 #[.slice A g.length cap] w fun e w' => ∃ s ok, e = .returned (.bool ok) ∧ WayAns g (Stops g) s ok ∧ Below w.heap.size w w' := by
  have HC := Lib.hid (specStops_any A cap g w hg hn hcap)
  go_enter Try.func18, Try.ntmps18
  go_wp2_with fail
  refine HC.out.mono ?_
  rintro e w1 ⟨s, ok, rfl, hA, b1⟩
  have HA := Lib.hid hA
  clear hA
  go_wp2_with fail
  go_ret
  exact ⟨s, ok, rfl, HA.out, b1⟩

end Go.Proofs.Yteodlcgmncchpaa
