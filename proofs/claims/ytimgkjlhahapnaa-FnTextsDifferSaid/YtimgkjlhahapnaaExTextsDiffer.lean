/-
  Proved: the law FnTextsDiffer returns true for all bytes and leaves them as they were, with no condition on the input.
-/
import Derived.Test.YtimgkjlhahapnaaLaw
import Derived.Test.YtimgkjlhahapnaaTexts
namespace Go.Proofs.Ytimgkjlhahapnaa
open Go.ChangeShapes Go.WideShapes Go.ChangeAt Go.RowKit Go.Deep Go.Sort

set_option maxRecDepth 100000 in
theorem textsDiffer_walk (A B : Option Addr) (la ca lb cb : Nat) (w : World) (hA : Bytes w A la) (hB : Bytes w B lb) (h1 : la ≤ ca) (h2 : lb ≤ cb) (h3 : ca ≤ 9223372036854775807) (h4 : cb ≤ 9223372036854775807) :
    Calls Try.prog 11 #[.slice A la ca, .slice B lb cb] w fun e w' => e = .returned (.bool true) ∧ Below w.heap.size w w' := by
  by_cases g1 : (1048576 : Int) < la
  · clear hA hB
    go_enter Try.func11, Try.ntmps11
    go_wp2_with fail
    go_ret
    exact ⟨rfl, Below.refl _ _⟩
  by_cases g2 : (1048576 : Int) < lb
  · clear hA hB
    go_enter Try.func11, Try.ntmps11
    go_wp2_with fail
    go_ret
    exact ⟨rfl, Below.refl _ _⟩
  have HA := Lib.hid (drawFormatGraph_any A la ca w hA h1 h3)
  have HBY := Lib.hid hB
  have HD := Lib.hid (fun w h => drawPruneGraph_any B lb cb w h h2 h4)
  clear hA hB
  go_enter Try.func11, Try.ntmps11
  go_wp2_with fail
  refine HA.out.mono ?_
  intro e w1 hd1
  obtain ⟨A1, c1, g, rfl, hc1, gg, hn1, b1⟩ := drawn_of hd1
  have HBY1 := Lib.hid (HBY.out.below b1)
  clear hd1
  go_wp2_with fail
  refine (HD.out w1 HBY1.out).mono ?_
  intro e w2 hd2
  obtain ⟨A2, c2, h, rfl, hc2, gh, hn2, b2⟩ := drawn_of hd2
  have gg2 := gg.below b2
  clear hd2
  have VI := Lib.hid (fun w (h : Gr w A1 g) => implValid_any A1 c1 g w h (by omega))
  have VS := Lib.hid (fun w (h : Gr w A1 g) => specValid_any A1 c1 g w h (by omega) hc1)
  have VH := Lib.hid (fun w (k : Gr w A2 h) => implValid_any A2 c2 h w k (by omega))
  have FI := Lib.hid (fun w (h : Gr w A1 g) => implFormat_any A1 c1 g w h (by omega))
  have FH := Lib.hid (fun w (k : Gr w A2 h) => implFormat_any A2 c2 h w k (by omega))
  have SJ := Lib.hid (fun w (k : Gr w A1 g) (k' : Gr w A2 h) => sjGraph_any A1 A2 c1 c2 g h w k k' (by omega) (by omega))
  by_cases hv : validB g = true
  · rw [hv] at VI VS
    by_cases hv2 : validB h = true
    · rw [hv2] at VH
      have HQ := Lib.hid (show ((fmtVal g).toList == (fmtVal h).toList) = eqG g h by
        rw [fmtVal_yes hv, fmtVal_yes hv2]
        cases hq : eqG g h with
        | true => rw [eqG_iff.1 hq]; simp
        | false =>
          cases hx : ((fmtG g).toList == (fmtG h).toList) with
          | false => rfl
          | true => rw [eqG_iff.2 (fmtG_inj hv hv2 (beq_toList.1 hx))] at hq; cases hq)
      clear hv hv2
      generalize fmtVal g = x at *
      generalize fmtVal h = y at *
      generalize eqG g h = q at *
      go_wp2_with fail
      refine (VI.out w2 gg2).mono ?_
      rintro e w3 ⟨rfl, b3⟩
      have gg3 := gg2.below b3
      have gh3 := gh.below b3
      go_wp2_with fail
      refine (VS.out w3 gg3).mono ?_
      rintro e w4 ⟨rfl, b4⟩
      have gg4 := gg3.below b4
      have gh4 := gh3.below b4
      go_wp2_with fail
      refine (VI.out w4 gg4).mono ?_
      rintro e w5 ⟨rfl, b5⟩
      have gg5 := gg4.below b5
      have gh5 := gh4.below b5
      go_wp2_with fail
      refine (VH.out w5 gh5).mono ?_
      rintro e w6 ⟨rfl, b6⟩
      have gg6 := gg5.below b6
      have gh6 := gh5.below b6
      go_wp2_with fail
      refine (FI.out w6 gg6).mono ?_
      rintro e w7 ⟨rfl, b7⟩
      have gg7 := gg6.below b7
      have gh7 := gh6.below b7
      go_wp2_with fail
      refine (FH.out w7 gh7).mono ?_
      rintro e w8 ⟨rfl, b8⟩
      have gg8 := gg7.below b8
      have gh8 := gh7.below b8
      go_wp2_with fail
      refine (SJ.out w8 gg8 gh8).mono ?_
      rintro e w9 ⟨rfl, b9⟩
      go_wp2_with fail
      go_ret
      refine ⟨ret_bool ?_, below_trans_self (below_trans_self (below_trans_self (below_trans_self (below_trans_self (below_trans_self (below_trans_self (below_trans_self b1 b2) b3) b4) b5) b6) b7) b8) b9⟩
      have hq := HQ.out
      simp only [hq, beq_self_eq_true]
    · have hv2' : validB h = false := by simpa using hv2
      rw [hv2'] at VH
      have HE := Lib.hid (show fmtVal h = ⟨#[]⟩ from fmtVal_no hv2')
      rw [HE.out] at FH
      clear hv hv2 hv2'
      by_cases hx : ((fmtVal g).toList == ([] : List UInt8)) = true
      · generalize fmtVal g = x at *
        go_wp2_with fail
        refine (VI.out w2 gg2).mono ?_
        rintro e w3 ⟨rfl, b3⟩
        have gg3 := gg2.below b3
        have gh3 := gh.below b3
        go_wp2_with fail
        refine (VS.out w3 gg3).mono ?_
        rintro e w4 ⟨rfl, b4⟩
        have gg4 := gg3.below b4
        have gh4 := gh3.below b4
        go_wp2_with fail
        refine (VI.out w4 gg4).mono ?_
        rintro e w5 ⟨rfl, b5⟩
        have gg5 := gg4.below b5
        have gh5 := gh4.below b5
        go_wp2_with fail
        refine (VH.out w5 gh5).mono ?_
        rintro e w6 ⟨rfl, b6⟩
        have gg6 := gg5.below b6
        go_wp2_with fail
        refine (FI.out w6 gg6).mono ?_
        rintro e w7 ⟨rfl, b7⟩
        go_wp2_with fail
        go_ret
        exact ⟨rfl, below_trans_self (below_trans_self (below_trans_self (below_trans_self (below_trans_self (below_trans_self b1 b2) b3) b4) b5) b6) b7⟩
      · have hx' : ((fmtVal g).toList == ([] : List UInt8)) = false := by simpa using hx
        clear hx
        generalize fmtVal g = x at *
        go_wp2_with fail
        refine (VI.out w2 gg2).mono ?_
        rintro e w3 ⟨rfl, b3⟩
        have gg3 := gg2.below b3
        have gh3 := gh.below b3
        go_wp2_with fail
        refine (VS.out w3 gg3).mono ?_
        rintro e w4 ⟨rfl, b4⟩
        have gg4 := gg3.below b4
        have gh4 := gh3.below b4
        go_wp2_with fail
        refine (VI.out w4 gg4).mono ?_
        rintro e w5 ⟨rfl, b5⟩
        have gg5 := gg4.below b5
        have gh5 := gh4.below b5
        go_wp2_with fail
        refine (VH.out w5 gh5).mono ?_
        rintro e w6 ⟨rfl, b6⟩
        have gg6 := gg5.below b6
        have gh6 := gh5.below b6
        go_wp2_with fail
        refine (FI.out w6 gg6).mono ?_
        rintro e w7 ⟨rfl, b7⟩
        have gh7 := gh6.below b7
        go_wp2_with fail
        refine (FH.out w7 gh7).mono ?_
        rintro e w8 ⟨rfl, b8⟩
        go_wp2_with fail
        go_ret
        exact ⟨rfl, below_trans_self (below_trans_self (below_trans_self (below_trans_self (below_trans_self (below_trans_self (below_trans_self b1 b2) b3) b4) b5) b6) b7) b8⟩
  · have hv' : validB g = false := by simpa using hv
    rw [hv'] at VI VS
    have HE := Lib.hid (show fmtVal g = ⟨#[]⟩ from fmtVal_no hv')
    rw [HE.out] at FI
    clear hv hv'
    go_wp2_with fail
    refine (VI.out w2 gg2).mono ?_
    rintro e w3 ⟨rfl, b3⟩
    have gg3 := gg2.below b3
    go_wp2_with fail
    refine (VS.out w3 gg3).mono ?_
    rintro e w4 ⟨rfl, b4⟩
    have gg4 := gg3.below b4
    go_wp2_with fail
    refine (VI.out w4 gg4).mono ?_
    rintro e w5 ⟨rfl, b5⟩
    have gg5 := gg4.below b5
    go_wp2_with fail
    refine (FI.out w5 gg5).mono ?_
    rintro e w6 ⟨rfl, b6⟩
    go_wp2_with fail
    go_ret
    exact ⟨rfl, below_trans_self (below_trans_self (below_trans_self (below_trans_self (below_trans_self b1 b2) b3) b4) b5) b6⟩

set_option maxRecDepth 100000 in
theorem textsDiffer_lifted (os : Os) (started : os.Started) (H : Type) (enc : TypeId × Value → H) :
    ReturnsInHanded {} Try.checked os 11 .any (Rows.fnTextsDifferSpec.pre6 enc Try.prog Try.f11 Rows.fnTextsDifferRow.domain false) (Rows.fnTextsDifferSpec.post enc Try.prog Try.f11 false true false false) := by
  refine returnsInHanded_of_change (C := Try.checked) own started (by kernel_rfl) Try.func11
    (ChangeSpec.witness6 (enc := enc) (C := Try.checked) false ⟨#[], #[.slice none 0 0, .slice none 0 0], []⟩ 8 (by kernel_rfl) (by kernel_rfl) (by kernel_rfl) (by kernel_rfl)) ?_
  intro W base args ds gs before hval0 hW _ _
  have hval : ∀ (j : Nat) t v, Try.f11.params[j]? = some t → args[j]? = some v → Value.okWide Try.prog W .any base t v := hval0
  have hW' := hW
  obtain ⟨p, q, hA0, hV, rfl, _, _⟩ := hW
  have hA : DataW.TrodAll enc Try.prog W 0 (fun _ => true) true Try.f11.params.toList args.toList ds p := hA0
  rw [Try.params11] at hA hval
  obtain ⟨v0, v1, d0, d1, p0, p1, rfl, rfl, rfl, h0, h1⟩ := trodAll_two hA
  obtain ⟨rfl, rfl⟩ := trodVars_none hV
  have h0k := h0
  have h1k := h1
  clear hA0 hval0
  simp only [List.append_nil] at hW'
  have hlt : ∀ x ∈ p0 ++ p1, x.block < W.heap.size := fun x hx => by simpa using hW'.lt x hx
  have hlt0 : ∀ x ∈ p0, x.block < W.heap.size := fun x hx => hlt x (List.mem_append_left _ hx)
  have hlt1 : ∀ x ∈ p1, x.block < W.heap.size := fun x hx => hlt x (List.mem_append_right _ hx)
  obtain ⟨A, la, ca, rfl, ha1, ha2, ha3⟩ := open_bytes (hval 0 40 v0 rfl rfl) h0 hlt0
  obtain ⟨B, lb, cb, rfl, hb1, hb2, hb3⟩ := open_bytes (hval 1 40 v1 rfl rfl) h1 hlt1
  refine (textsDiffer_walk A B la ca lb cb W ha3 hb3 ha1 hb1 ha2 hb2).mono fun e W' ⟨he, hB⟩ => ?_
  subst he
  refine ⟨_, rfl, _, _, _, [] ++ [], p0 ++ p1, [], hW', ?_, ?_, rfl, hB.frame _, fun h => by cases h⟩
  · exact trodAll_mk1 (shut_bool Try.underlying4 true)
  · exact trodAll_mk2 (Below.trod laidOut (by kernel_rfl) (of_decide_eq_true (by kernel_rfl)) h0k hB hlt0) (Below.trod laidOut (by kernel_rfl) (of_decide_eq_true (by kernel_rfl)) h1k hB hlt1)

theorem textsDiffer_holds : Rows.FnTextsDifferSaid :=
  OpenClaim.holds_of_wide 11 Try.f11 rfl rfl rfl rfl rfl rfl rfl ⟨rfl, rfl, rfl, rfl, rfl⟩ rfl rfl rfl rfl rfl (by kernel_rfl) Try.func11 (by kernel_rfl)
    (of_decide_eq_true (by kernel_rfl)) (by unfold Func.isWrapper; first | (rw [if_pos (by decide +kernel)]; kernel_rfl) | (rw [if_neg (by decide +kernel)]; exact ⟨rfl, rfl⟩))
    (fun os started H enc _ => textsDiffer_lifted os started H enc)
#print axioms textsDiffer_holds
end Go.Proofs.Ytimgkjlhahapnaa
