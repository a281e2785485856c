/-
  The law FnFirstOther: the choices that are told make a difference, and where none are told there is none.
-/
import Derived.Test.YtgkamcnbpiipoaaGreatDrawBoth
import Derived.Test.YtgkamcnbpiipoaaGreatSameRuns
namespace Go.Proofs.YtgkamcnbpiipoaaGreat
open Go.RowKit Go.Sort
attribute [local go_sem] Oper.semAt_some

theorem fo_eq (a : List UInt8) : ((tb a).toList == (tb a).toList) = true := by simp

set_option maxRecDepth 100000 in
set_option maxHeartbeats 6400000 in
theorem firstOther_walk (A : Option Addr) (len cap : Nat) (w : World) (hb : Bytes w A len) (hlc : len ≤ cap) (hl : cap ≤ 9223372036854775807) :
    Calls Tryz.prog 3 #[.slice A len cap] w fun e w' => e = .returned (.bool true) ∧ Below w.heap.size w w' := by
  by_cases hbig : 1048576 < len
  · have hbI : (1048576 : Int) < len := by omega
    clear hb hlc hl
    go_enter Tryz.func3, Tryz.ntmps3
    go_wp2_with fail
    go_ret
    exact ⟨rfl, Below.refl _ _⟩
  have HC := Lib.hid ((drawFirstOther_any A len cap w hb hlc hl).mono fun _ _ h => drawnBoth_of h)
  have hbI : ¬ (1048576 : Int) < len := by omega
  clear hb
  go_enter Tryz.func3, Tryz.ntmps3
  go_wp2_with fail
  refine HC.out.mono ?_
  rintro e w1 ⟨A1, c1, g, S, rfl, hgc, hg1, hgn, hs, b1⟩
  have HB1 := Lib.hid b1
  have HG := Lib.hid hg1
  have HGC := Lib.hid hgc
  have hn : g.length + tot g ≤ 1048576 := by omega
  have HFI := Lib.hid (fun W (hgw : Gr W A1 g) => implFirstOther_any A1 c1 g S W hgw hn)
  have HFS := Lib.hid (fun W (hgw : Gr W A1 g) => specFirstOther_any A1 c1 g S W hgw hn hgc (by omega))
  have HSI := Lib.hid (fun W (hgw : Gr W A1 g) => implSameRuns_any A1 c1 g S W hgw hn)
  have HSS := Lib.hid (fun W (hgw : Gr W A1 g) => specSameRuns_any A1 c1 g S W hgw hn hgc (by omega))
  have HGV := Lib.hid (fun W (hgw : Gr W A1 g) => implValid_any A1 c1 g W hgw hn)
  have HTV := Lib.hid (fun W => by have := implValid_text (tb S) W; rw [tb_data] at this; exact this)
  have HRG := Lib.hid (fun x W (hgw : Gr W A1 g) hx => implRun_any A1 c1 g (tb x) W hgw hn hx)
  have HRT := Lib.hid (fun x W hx => implRunText_any S x W hx)
  clear b1 hg1 hgc hgn hs hn
  go_wp2_with fail
  refine (HFI.out w1 HG.out).mono ?_
  rintro e w2 ⟨r, hr, rfl, b2⟩
  have HR := Lib.hid hr
  have HG2 := Lib.hid (HG.out.below b2)
  have HB2 := Lib.hid (below_trans_self HB1.out b2)
  obtain ⟨x, o, hfo⟩ : ∃ x o, foV r = .tuple #[.string (tb x), .bool o] := by cases r <;> exact ⟨_, _, rfl⟩
  have HFO := Lib.hid hfo
  rw [hfo]
  clear hr b2 hfo
  have e1 := fo_eq x
  go_wp2_with fail
  refine (HFS.out w2 HG2.out).mono ?_
  rintro e w3 ⟨r', hr', he, b3⟩
  obtain rfl := HR.out.uniq hr'
  rw [HFO.out] at he
  subst he
  have HG3 := Lib.hid (HG2.out.below b3)
  have HB3 := Lib.hid (below_trans_self HB2.out b3)
  clear hr' b3
  go_wp2_with fail
  refine (HSI.out w3 HG3.out).mono ?_
  rintro e w4 ⟨r', hr', he, b4⟩
  obtain rfl := HR.out.uniq hr'
  obtain ⟨sm, hsm⟩ : ∃ sm, sm = sameB g S r := ⟨_, rfl⟩
  rw [← hsm] at he
  subst he
  have HSM := Lib.hid hsm
  have HG4 := Lib.hid (HG3.out.below b4)
  have HB4 := Lib.hid (below_trans_self HB3.out b4)
  clear hr' b4 hsm
  cases hv : validB g with
  | false =>
    have HGV4 := Lib.hid (fun W hW => by have := HGV.out W hW; rw [hv] at this; exact this)
    have hrn : r = none := HR.out.uniq (fo_no_graph hv)
    have hsf : sm = false := by rw [HSM.out]; unfold sameB; rw [hv]; rfl
    have h1 := HFO.out
    rw [hrn] at h1
    unfold foV at h1
    injection h1 with h1
    have ho : o = false := by
      have := congrArg (fun a : Array Value => a[1]?) h1
      simp at this; exact this
    subst ho
    have HSF := Lib.hid hsf
    clear h1 hrn hsf hv
    rw [HSF.out]
    go_wp2_with fail
    refine (HSS.out w4 HG4.out).mono ?_
    rintro e w5 ⟨r', hr', he, b5⟩
    obtain rfl := HR.out.uniq hr'
    rw [← HSM.out, HSF.out] at he
    subst he
    have HG5 := Lib.hid (HG4.out.below b5)
    have HB5 := Lib.hid (below_trans_self HB4.out b5)
    clear hr' b5
    go_wp2_with fail
    refine (HGV4.out w5 HG5.out).mono ?_
    rintro e w6 ⟨rfl, b6⟩
    have HB6 := Lib.hid (below_trans_self HB5.out b6)
    clear b6
    go_wp2_with fail
    go_ret
    exact ⟨rfl, HB6.out⟩
  | true =>
    have HGV4 := Lib.hid (fun W hW => by have := HGV.out W hW; rw [hv] at this; exact this)
    cases ht : textB S with
    | false =>
      rw [ht] at HTV
      have hrn : r = none := HR.out.uniq (fo_no_text (textB_not ht))
      have hsf : sm = false := by rw [HSM.out]; unfold sameB; rw [hv, ht]; rfl
      have h1 := HFO.out
      rw [hrn] at h1
      unfold foV at h1
      injection h1 with h1
      have ho : o = false := by
        have := congrArg (fun a : Array Value => a[1]?) h1
        simp at this; exact this
      subst ho
      have HSF := Lib.hid hsf
      clear h1 hrn hsf hv ht
      rw [HSF.out]
      go_wp2_with fail
      refine (HSS.out w4 HG4.out).mono ?_
      rintro e w5 ⟨r', hr', he, b5⟩
      obtain rfl := HR.out.uniq hr'
      rw [← HSM.out, HSF.out] at he
      subst he
      have HG5 := Lib.hid (HG4.out.below b5)
      have HB5 := Lib.hid (below_trans_self HB4.out b5)
      clear hr' b5
      go_wp2_with fail
      refine (HGV4.out w5 HG5.out).mono ?_
      rintro e w6 ⟨rfl, b6⟩
      have HB6 := Lib.hid (below_trans_self HB5.out b6)
      clear b6
      go_wp2_with fail
      refine (HTV.out w6).mono ?_
      rintro e w7 ⟨rfl, b7⟩
      have HB7 := Lib.hid (below_trans_self HB6.out b7)
      clear b7
      go_wp2_with fail
      go_ret
      exact ⟨rfl, HB7.out⟩
    | true =>
      rw [ht] at HTV
      obtain ⟨l, hl1⟩ := textB_get ht
      have HTX := Lib.hid hl1
      cases r with
      | none =>
        have hsf : sm = true := by rw [HSM.out]; unfold sameB; rw [hv, ht]; rfl
        have h1 := HFO.out
        unfold foV at h1
        injection h1 with h1
        have ho : o = false := by
          have := congrArg (fun a : Array Value => a[1]?) h1
          simp at this; exact this
        have hx0 : x = [] := by
          have := congrArg (fun a : Array Value => a[0]?) h1
          simp at this
          have := congrArg (fun b : ByteArray => b.data.toList) this
          simpa [tb_data] using this.symm
        subst ho
        have HSF := Lib.hid hsf
        have HX0 := Lib.hid hx0
        have e2 : (tb x).toList.isEmpty = true := by rw [hx0, tb_toList]; rfl
        clear h1 hsf hv ht hl1 hx0
        rw [HSF.out]
        go_wp2_with fail
        refine (HSS.out w4 HG4.out).mono ?_
        rintro e w5 ⟨r', hr', he, b5⟩
        obtain rfl := HR.out.uniq hr'
        rw [← HSM.out, HSF.out] at he
        subst he
        have HG5 := Lib.hid (HG4.out.below b5)
        have HB5 := Lib.hid (below_trans_self HB4.out b5)
        clear hr' b5
        go_wp2_with fail
        refine (HGV4.out w5 HG5.out).mono ?_
        rintro e w6 ⟨rfl, b6⟩
        have HB6 := Lib.hid (below_trans_self HB5.out b6)
        clear b6
        go_wp2_with fail
        refine (HTV.out w6).mono ?_
        rintro e w7 ⟨rfl, b7⟩
        have HB7 := Lib.hid (below_trans_self HB6.out b7)
        clear b7
        go_wp2_with fail
        go_ret
        exact ⟨rfl, HB7.out⟩
      | some x0 =>
        have hsf : sm = false := by rw [HSM.out]; unfold sameB; rw [hv, ht]; rfl
        have h1 := HFO.out
        unfold foV at h1
        injection h1 with h1
        have ho : o = true := by
          have := congrArg (fun a : Array Value => a[1]?) h1
          simp at this; exact this
        have hx0 : x0 = x := by
          have := congrArg (fun a : Array Value => a[0]?) h1
          simp at this
          have := congrArg (fun b : ByteArray => b.data.toList) this
          simpa [tb_data] using this
        subst ho
        subst hx0
        have HSF := Lib.hid hsf
        obtain ⟨l', hl', _, pre, hpre, _, hdis⟩ := HR.out
        obtain rfl := textOk_uniq hl' hl1
        have hxm : x0 ∈ shortL 6 := hpre.subset (List.mem_append_right _ (List.mem_singleton.2 rfl))
        have HXM := Lib.hid hxm
        have HDI := Lib.hid hdis
        have hz6 := (short_LR x0 hxm).2
        have hz1 : (tb x0).size = x0.length := tb_size _
        have g60 : (x0.length : Int) ≤ 6 := by omega
        have g61 : decide ((x0.length : Int) ≤ 6) = true := decide_eq_true g60
        have HR1 := Lib.hid (fun W hW => HRG.out x0 W hW (by omega))
        have HR2 := Lib.hid (fun W => HRT.out x0 W (by omega))
        obtain ⟨T0, hT0⟩ : ∃ T0, T0 = runT g (tb x0) := ⟨_, rfl⟩
        obtain ⟨E0, hE0⟩ : ∃ E0, E0 = runE g (tb x0) := ⟨_, rfl⟩
        unfold RunPost at HR1
        rw [← hT0, ← hE0] at HR1
        have HT0 := Lib.hid hT0
        have HE0 := Lib.hid hE0
        clear h1 hsf hv ht hl1 hl' hpre hdis hxm hT0 hE0
        rw [HSF.out]
        go_wp2_with fail
        refine (HSS.out w4 HG4.out).mono ?_
        rintro e w5 ⟨r', hr', he, b5⟩
        obtain rfl := HR.out.uniq hr'
        rw [← HSM.out, HSF.out] at he
        subst he
        have HG5 := Lib.hid (HG4.out.below b5)
        have HB5 := Lib.hid (below_trans_self HB4.out b5)
        clear hr' b5
        go_wp2_with fail
        refine (HGV4.out w5 HG5.out).mono ?_
        rintro e w6 ⟨rfl, b6⟩
        have HB6 := Lib.hid (below_trans_self HB5.out b6)
        have HG6 := Lib.hid (HG5.out.below b6)
        clear b6
        go_wp2_with fail
        refine (HTV.out w6).mono ?_
        rintro e w7 ⟨rfl, b7⟩
        have HB7 := Lib.hid (below_trans_self HB6.out b7)
        have HG7 := Lib.hid (HG6.out.below b7)
        clear b7
        go_wp2_with fail
        refine (HR1.out w7 HG7.out).mono ?_
        rintro e w8 ⟨rfl, b8⟩
        have HB8 := Lib.hid (below_trans_self HB7.out b8)
        clear b8
        go_wp2_with fail
        refine (HR2.out w8).mono ?_
        rintro e w9 ⟨q, hq, rfl, b9⟩
        obtain ⟨oo, rfl, hru⟩ := ran_short HTX.out HXM.out hq
        have HB9 := Lib.hid (below_trans_self HB8.out b9)
        have hne : ¬ ((tb oo.trace).toList = T0.toList ∧ (oo.code : Int) = E0) := fun h => by
          obtain ⟨o', h3, h4⟩ := HDI.out
          rw [h3.uniq hru] at h4
          exact h4 ⟨by rw [← HT0.out]; exact beq_toList.1 (by simp [h.1]), by rw [← HE0.out]; exact h.2⟩
        clear b9 hq hru
        unfold rtV
        by_cases hq1 : (tb oo.trace).toList = T0.toList
        · have g1 : (T0.toList == (tb oo.trace).toList) = true := by simp [hq1]
          have g1' : (T0.toList != (tb oo.trace).toList) = false := by simp [hq1]
          have g2 : (E0 == (oo.code : Int)) = false := by simp; exact fun h => hne ⟨hq1, h.symm⟩
          have g2' : (E0 != (oo.code : Int)) = true := by simp; exact fun h => hne ⟨hq1, h.symm⟩
          clear hq1 hne
          go_wp2_with fail
          go_ret
          exact ⟨rfl, HB9.out⟩
        · have g1 : (T0.toList == (tb oo.trace).toList) = false := by simp; exact fun h => hq1 h.symm
          have g1' : (T0.toList != (tb oo.trace).toList) = true := by simp; exact fun h => hq1 h.symm
          clear hq1 hne
          go_wp2_with fail
          go_ret
          exact ⟨rfl, HB9.out⟩
end Go.Proofs.YtgkamcnbpiipoaaGreat
