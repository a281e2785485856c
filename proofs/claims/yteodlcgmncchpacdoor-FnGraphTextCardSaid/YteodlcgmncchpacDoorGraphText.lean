/-
  The law FnGraphText, walked.
-/
import Derived.Test.YteodlcgmncchpacDoorSplit
import Derived.Test.YteodlcgmncchpacDoorTextFacts
import Derived.Test.YteodlcgmncchpacDoorDrawText
import Derived.Test.YteodlcgmncchpacDoorDrawGraphs
import Derived.Test.YteodlcgmncchpacDoorValids
namespace Go.Proofs.YteodlcgmncchpacDoor
open Go.RowKit Go.Sort

def ParsePostT (pg : List Bl) (ok : Bool) (w : World) (e : Ending) (w' : World) : Prop :=
  ∃ A cap, e = .returned (.tuple #[.slice A pg.length cap, .bool ok]) ∧ Gr w' A pg ∧ Below w.heap.size w w'

theorem parseT_of {s : ByteArray} {w : World} {e : Ending} {w' : World} (h : ParsePost s w e w') : ParsePostT (parseVal s) (parseOk s) w e w' := by
  obtain ⟨v, rfl, ho, hB⟩ := h
  obtain ⟨A, cap, rfl, _, hg⟩ := own_gr ho
  exact ⟨A, cap, rfl, hg, hB⟩

theorem parse_small (s : ByteArray) (hs : s.size ≤ 1048576) : (parseVal s).length + tot (parseVal s) ≤ 1048576 := by
  unfold parseVal
  split
  · rename_i h
    unfold parseOk at h
    have hlong := (Bool.and_eq_true_iff.1 h).1
    have h1 : (parsed s).length + tot (parsed s) = lensOf (pieces 44 s) := tot_parsed hlong
    have h2 := pieces_lens 44 s
    have h4 : (pieces 44 s).length ≠ 0 := by
      intro e
      have := cutL_lens 44 s.data.toList
      have e2 : (cutL 44 s.data.toList).length = 0 := by simpa [pieces] using e
      rw [List.eq_nil_of_length_eq_zero e2] at this
      simp at this
    omega
  · simp [tot]

theorem fmtVal_small (g : List Bl) (h : g.length + tot g ≤ 1000) : (fmtVal g).size ≤ 3000 := by
  have := fmtG_size_le g
  unfold fmtVal
  split
  · omega
  · show 0 ≤ 3000; omega

set_option maxRecDepth 100000 in
set_option maxHeartbeats 6400000 in
theorem graphText_walk (A B : Option Addr) (la ca lb cb : Nat) (w : World) (hA : Bytes w A la) (hBy : Bytes w B lb) (h1 : la ≤ ca) (h2 : lb ≤ cb) (h3 : ca ≤ 9223372036854775807) (h4 : cb ≤ 9223372036854775807) :
    Calls Tryd.prog 3 #[.slice A la ca, .slice B lb cb] w fun e w' => e = .returned (.bool true) ∧ Below w.heap.size w w' := by
  by_cases g1 : (1048576 : Int) < la
  · clear hA hBy
    go_enter Tryd.func3, Tryd.ntmps3
    go_wp2_with fail
    go_ret
    exact ⟨rfl, Below.refl _ _⟩
  by_cases g2 : (1048576 : Int) < lb
  · clear hA hBy
    go_enter Tryd.func3, Tryd.ntmps3
    go_wp2_with fail
    go_ret
    exact ⟨rfl, Below.refl _ _⟩
  have HA := Lib.hid (drawFormatGraph_any A la ca w hA h1 h3)
  have HBG := Lib.hid (fun w (h : Bytes w B lb) => drawGraphValid_any B lb cb w h h2 h4)
  have HBT := Lib.hid (fun w (h : Bytes w B lb) => drawParseGraph_any B lb cb w h h2 h4)
  have HBY := Lib.hid hBy
  clear hA hBy
  go_enter Tryd.func3, Tryd.ntmps3
  go_wp2_with fail
  refine HA.out.mono ?_
  intro e w1 hd1
  obtain ⟨A1, c1, g, rfl, hc1, gg, hn1, b1⟩ := drawn_of hd1
  have HB1 := Lib.hid b1
  have HBY1 := Lib.hid (HBY.out.below b1)
  have hts := fmtVal_small g (by omega)
  have hback : validB g = true → parseVal (fmtVal g) = g := parse_back
  have hpv := parse_val g
  obtain ⟨t, ht⟩ : ∃ t, t = fmtVal g := ⟨_, rfl⟩
  obtain ⟨v, hv⟩ : ∃ v, v = validB g := ⟨_, rfl⟩
  obtain ⟨pg, hpg⟩ : ∃ pg, pg = parseVal t := ⟨_, rfl⟩
  have hpl := parse_small t (by rw [ht]; omega)
  rw [← hpg] at hpl
  rw [← ht, ← hpg, ← hv] at hback
  rw [← ht, ← hv] at hpv
  rw [← ht] at hts
  have HIF := Lib.hid (fun w (h : Gr w A1 g) => (implFormat_any A1 c1 g w h (by omega)).mono fun e w' h => show e = .returned (.string t) ∧ Below w.heap.size w w' from ht ▸ h)
  have HSF := Lib.hid (fun w (h : Gr w A1 g) => (specFormat_any A1 c1 g w h (by omega) hc1).mono fun e w' h => show e = .returned (.string t) ∧ Below w.heap.size w w' from ht ▸ h)
  have HIV := Lib.hid (fun w (h : Gr w A1 g) => (implValid_any A1 c1 g w h (by omega)).mono fun e w' h => show e = .returned (.bool v) ∧ Below w.heap.size w w' from hv ▸ h)
  have HIP : Hid (∀ w, Calls Tryd.prog 7 #[.string t] w (ParsePostT pg v w)) := by
    rw [hpg, ← hpv]
    exact fun w => (implParse_any t w (by omega)).mono fun e w' h => parseT_of h
  have HBACK := Lib.hid hback
  clear hd1 b1 ht hv hpg hback hpv
  go_wp2_with fail
  refine (HIF.out w1 gg).mono ?_
  rintro e w2 ⟨rfl, b2⟩
  have gg2 := gg.below b2
  have HBY2 := Lib.hid (HBY1.out.below b2)
  have HB2 := Lib.hid (below_trans_self HB1.out b2)
  clear b2
  go_wp2_with fail
  refine (HIP.out w2).mono ?_
  rintro e w3 ⟨A3, c3, rfl, q3, b3⟩
  have gg3 := gg2.below b3
  have HBY3 := Lib.hid (HBY2.out.below b3)
  have HB3 := Lib.hid (below_trans_self HB2.out b3)
  clear b3
  go_wp2_with fail
  refine (HBG.out w3 HBY3.out).mono ?_
  intro e w4 hd4
  obtain ⟨A4, c4, x, rfl, hc4, xx, hn4, b4⟩ := drawn_of hd4
  have gg4 := gg3.below b4
  have q4 := q3.below b4
  have HBY4 := Lib.hid (HBY3.out.below b4)
  have HB4 := Lib.hid (below_trans_self HB3.out b4)
  obtain ⟨vx, hvx⟩ : ∃ vx, vx = validB x := ⟨_, rfl⟩
  have HXI := Lib.hid (fun w (h : Gr w A4 x) => (implValid_any A4 c4 x w h (by omega)).mono fun e w' h => show e = .returned (.bool vx) ∧ Below w.heap.size w w' from hvx ▸ h)
  have HXS := Lib.hid (fun w (h : Gr w A4 x) => (specValid_any A4 c4 x w h (by omega) hc4).mono fun e w' h => show e = .returned (.bool vx) ∧ Below w.heap.size w w' from hvx ▸ h)
  clear b4 hd4 hvx gg gg2 gg3 q3
  have t1 : (t.toList == t.toList) = true := by simp
  have v1 : (vx != vx) = false := by simp
  have v2 : (v != v) = false := by simp
  go_wp2_with fail
  refine (HSF.out w4 gg4).mono ?_
  rintro e w5 ⟨rfl, b5⟩
  have gg5 := gg4.below b5
  have q5 := q4.below b5
  have x5 := xx.below b5
  have HBY5 := Lib.hid (HBY4.out.below b5)
  have HB5 := Lib.hid (below_trans_self HB4.out b5)
  clear b5 gg4 q4 xx
  go_wp2_with fail
  refine (HXI.out w5 x5).mono ?_
  rintro e w6 ⟨rfl, b6⟩
  have gg6 := gg5.below b6
  have q6 := q5.below b6
  have x6 := x5.below b6
  have HBY6 := Lib.hid (HBY5.out.below b6)
  have HB6 := Lib.hid (below_trans_self HB5.out b6)
  clear b6 gg5 q5 x5
  go_wp2_with fail
  refine (HXS.out w6 x6).mono ?_
  rintro e w7 ⟨rfl, b7⟩
  have gg7 := gg6.below b7
  have q7 := q6.below b7
  have HBY7 := Lib.hid (HBY6.out.below b7)
  have HB7 := Lib.hid (below_trans_self HB6.out b7)
  clear b7 gg6 q6 x6
  go_wp2_with fail
  refine (HIV.out w7 gg7).mono ?_
  rintro e w8 ⟨rfl, b8⟩
  have gg8 := gg7.below b8
  have q8 := q7.below b8
  have HBY8 := Lib.hid (HBY7.out.below b8)
  have HB8 := Lib.hid (below_trans_self HB7.out b8)
  clear b8 gg7 q7
  cases v with
  | false =>
    go_wp2_with fail
    refine (HBT.out w8 HBY8.out).mono ?_
    rintro e w9 ⟨s, rfl, hs, b9⟩
    have HB9 := Lib.hid (below_trans_self HB8.out b9)
    clear b9 gg8 q8
    have hsl := parse_small s (by omega)
    have hfp : parseOk s = true → fmtVal (parseVal s) = s := fmt_parse
    obtain ⟨r, hr⟩ : ∃ r, r = parseVal s := ⟨_, rfl⟩
    obtain ⟨k, hk⟩ : ∃ k, k = parseOk s := ⟨_, rfl⟩
    have HI2 : Hid (∀ w, Calls Tryd.prog 7 #[.string s] w (ParsePostT r k w)) := by
      rw [hr, hk]
      exact fun w => (implParse_any s w (by omega)).mono fun e w' h => parseT_of h
    have HS2 : Hid (∀ w, Calls Tryd.prog 14 #[.string s] w (ParsePostT r k w)) := by
      rw [hr, hk]
      exact fun w => (specParse_any s w (by omega)).mono fun e w' h => parseT_of h
    rw [← hr] at hsl hfp
    rw [← hk] at hfp
    have HFP := Lib.hid hfp
    have HEQ : Hid (eqG r r = true) := eqG_iff.2 rfl
    have k1 : (k == k) = true := by simp
    clear hr hk hfp
    go_wp2_with fail
    refine (HI2.out w9).mono ?_
    rintro e w10 ⟨A10, c10, rfl, q10, b10⟩
    have HB10 := Lib.hid (below_trans_self HB9.out b10)
    clear b10
    go_wp2_with fail
    refine (HS2.out w10).mono ?_
    rintro e w11 ⟨A11, c11, rfl, q11, b11⟩
    have q10' := q10.below b11
    have HB11 := Lib.hid (below_trans_self HB10.out b11)
    clear b11
    go_wp2_with fail
    refine (sjGraph_any A10 A11 c10 c11 r r w11 q10' q11 (by omega) (by omega)).mono ?_
    rintro e w12 ⟨rfl, b12⟩
    rw [HEQ.out]
    have q12 := q10'.below b12
    have HB12 := Lib.hid (below_trans_self HB11.out b12)
    clear b12 q10 q10' q11
    cases k with
    | false =>
      go_wp2_with fail
      go_ret
      exact ⟨rfl, HB12.out⟩
    | true =>
      have HF2 := Lib.hid ((implFormat_any A10 c10 r w12 q12 (by omega)).mono fun e w' h => show e = .returned (.string s) ∧ Below w12.heap.size w12 w' from (by rw [HFP.out rfl] at h; exact h))
      have s1 : (s.toList == s.toList) = true := by simp
      clear q12
      go_wp2_with fail
      refine HF2.out.mono ?_
      rintro e w13 ⟨rfl, b13⟩
      have HB13 := Lib.hid (below_trans_self HB12.out b13)
      clear b13
      go_wp2_with fail
      go_ret
      exact ⟨rfl, HB13.out⟩
  | true =>
    have hpe : pg = g := HBACK.out rfl
    have HSJ := Lib.hid ((sjGraph_any A3 A1 c3 c1 pg g w8 q8 gg8 (by omega) (by omega)).mono fun e w' h => show e = .returned (.bool true) ∧ Below w8.heap.size w8 w' from (by rw [eqG_iff.2 hpe] at h; exact h))
    clear hpe q8 gg8
    go_wp2_with fail
    refine HSJ.out.mono ?_
    rintro e w8b ⟨rfl, b8b⟩
    have HBY8b := Lib.hid (HBY8.out.below b8b)
    have HB8b := Lib.hid (below_trans_self HB8.out b8b)
    clear b8b
    go_wp2_with fail
    refine (HBT.out w8b HBY8b.out).mono ?_
    rintro e w9 ⟨s, rfl, hs, b9⟩
    have HB9 := Lib.hid (below_trans_self HB8b.out b9)
    clear b9
    have hsl := parse_small s (by omega)
    have hfp : parseOk s = true → fmtVal (parseVal s) = s := fmt_parse
    obtain ⟨r, hr⟩ : ∃ r, r = parseVal s := ⟨_, rfl⟩
    obtain ⟨k, hk⟩ : ∃ k, k = parseOk s := ⟨_, rfl⟩
    have HI2 : Hid (∀ w, Calls Tryd.prog 7 #[.string s] w (ParsePostT r k w)) := by
      rw [hr, hk]
      exact fun w => (implParse_any s w (by omega)).mono fun e w' h => parseT_of h
    have HS2 : Hid (∀ w, Calls Tryd.prog 14 #[.string s] w (ParsePostT r k w)) := by
      rw [hr, hk]
      exact fun w => (specParse_any s w (by omega)).mono fun e w' h => parseT_of h
    rw [← hr] at hsl hfp
    rw [← hk] at hfp
    have HFP := Lib.hid hfp
    have HEQ : Hid (eqG r r = true) := eqG_iff.2 rfl
    have k1 : (k == k) = true := by simp
    clear hr hk hfp
    go_wp2_with fail
    refine (HI2.out w9).mono ?_
    rintro e w10 ⟨A10, c10, rfl, q10, b10⟩
    have HB10 := Lib.hid (below_trans_self HB9.out b10)
    clear b10
    go_wp2_with fail
    refine (HS2.out w10).mono ?_
    rintro e w11 ⟨A11, c11, rfl, q11, b11⟩
    have q10' := q10.below b11
    have HB11 := Lib.hid (below_trans_self HB10.out b11)
    clear b11
    go_wp2_with fail
    refine (sjGraph_any A10 A11 c10 c11 r r w11 q10' q11 (by omega) (by omega)).mono ?_
    rintro e w12 ⟨rfl, b12⟩
    rw [HEQ.out]
    have q12 := q10'.below b12
    have HB12 := Lib.hid (below_trans_self HB11.out b12)
    clear b12 q10 q10' q11
    cases k with
    | false =>
      go_wp2_with fail
      go_ret
      exact ⟨rfl, HB12.out⟩
    | true =>
      have HF2 := Lib.hid ((implFormat_any A10 c10 r w12 q12 (by omega)).mono fun e w' h => show e = .returned (.string s) ∧ Below w12.heap.size w12 w' from (by rw [HFP.out rfl] at h; exact h))
      have s1 : (s.toList == s.toList) = true := by simp
      clear q12
      go_wp2_with fail
      refine HF2.out.mono ?_
      rintro e w13 ⟨rfl, b13⟩
      have HB13 := Lib.hid (below_trans_self HB12.out b13)
      clear b13
      go_wp2_with fail
      go_ret
      exact ⟨rfl, HB13.out⟩
end Go.Proofs.YteodlcgmncchpacDoor
