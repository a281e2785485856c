/-
  SameRuns of both.
-/
import Derived.Test.YtgkamcnbpiipoaaGreatSpecFirstOther
namespace Go.Proofs.YtgkamcnbpiipoaaGreat
open Go.RowKit Go.Sort
attribute [local go_sem] Oper.semAt_some

/-- Do they do the same with all short choices? -/
noncomputable def sameB (g : List Bl) (s : List UInt8) (r : Option (List UInt8)) : Bool := validB g && textB s && r.isNone

set_option maxRecDepth 100000 in
theorem implSameRuns_any (A : Option Addr) (cap : Nat) (g : List Bl) (s : List UInt8) (w : World) (hg : Gr w A g) (hn : g.length + tot g ≤ 1048576) :
    Calls Tryz.prog 8 #[.slice A g.length cap, .string (tb s)] w fun e w' => ∃ r, FO g s r ∧ e = .returned (.bool (sameB g s r)) ∧ Below w.heap.size w w' := by
  have HG := Lib.hid hg
  have HF := Lib.hid (implFirstOther_any A cap g s w hg hn)
  have HGV := Lib.hid (fun W (hgw : Gr W A g) => implValid_any A cap g W hgw hn)
  have HTV := Lib.hid (fun W => by have := implValid_text (tb s) W; rw [tb_data] at this; exact this)
  clear hg hn
  go_enter Tryz.func8, Tryz.ntmps8
  go_wp2_with fail
  refine HF.out.mono ?_
  rintro e w1 ⟨r, hr, rfl, b1⟩
  have HB1 := Lib.hid b1
  have HR := Lib.hid hr
  have HG1 := Lib.hid (HG.out.below b1)
  obtain ⟨x, o, hfo⟩ : ∃ x o, foV r = .tuple #[.string x, .bool o] ∧ o = r.isSome := by cases r <;> exact ⟨_, _, rfl, rfl⟩
  have HOS := Lib.hid hfo.2
  rw [hfo.1]
  clear b1 hr hfo
  have HGV1 := Lib.hid (HGV.out w1 HG1.out)
  have key : ∀ a b, validB g = a → textB s = b → sameB g s r = (a && b && !o) := by
    intro a b ha hb
    unfold sameB
    rw [ha, hb, HOS.out]
    cases r <;> rfl
  have HKEY := Lib.hid key
  clear key
  cases hv : validB g with
  | false =>
    rw [hv] at HGV1
    have HE := Lib.hid (show sameB g s r = false by rw [HKEY.out _ _ hv rfl]; simp)
    clear hv
    go_wp2_with fail
    refine HGV1.out.mono ?_
    rintro e w2 ⟨rfl, b2⟩
    have HB2 := Lib.hid (below_trans_self HB1.out b2)
    clear b2
    go_wp2_with fail
    go_ret
    exact ⟨r, HR.out, by rw [HE.out]; rfl, HB2.out⟩
  | true =>
    rw [hv] at HGV1
    cases ht : textB s with
    | false =>
      rw [ht] at HTV
      have HE := Lib.hid (show sameB g s r = false by rw [HKEY.out _ _ hv ht]; simp)
      clear hv ht
      go_wp2_with fail
      refine HGV1.out.mono ?_
      rintro e w2 ⟨rfl, b2⟩
      have HB2 := Lib.hid (below_trans_self HB1.out b2)
      clear b2
      go_wp2_with fail
      refine (HTV.out w2).mono ?_
      rintro e w3 ⟨rfl, b3⟩
      have HB3 := Lib.hid (below_trans_self HB2.out b3)
      clear b3
      go_wp2_with fail
      go_ret
      exact ⟨r, HR.out, by rw [HE.out]; rfl, HB3.out⟩
    | true =>
      rw [ht] at HTV
      have HE := Lib.hid (show sameB g s r = !o by rw [HKEY.out _ _ hv ht]; simp)
      clear hv ht
      cases o
      all_goals
        go_wp2_with fail
        refine HGV1.out.mono ?_
        rintro e w2 ⟨rfl, b2⟩
        have HB2 := Lib.hid (below_trans_self HB1.out b2)
        clear b2
        go_wp2_with fail
        refine (HTV.out w2).mono ?_
        rintro e w3 ⟨rfl, b3⟩
        have HB3 := Lib.hid (below_trans_self HB2.out b3)
        clear b3
        go_wp2_with fail
        go_ret
        exact ⟨r, HR.out, by rw [HE.out]; rfl, HB3.out⟩

set_option maxRecDepth 100000 in
theorem specSameRuns_any (A : Option Addr) (cap : Nat) (g : List Bl) (s : List UInt8) (w : World) (hg : Gr w A g) (hn : g.length + tot g ≤ 1048576) (hcap : g.length ≤ cap) (hs : s.length ≤ 1048576) :
    Calls Tryz.prog 9 #[.slice A g.length cap, .string (tb s)] w fun e w' => ∃ r, FO g s r ∧ e = .returned (.bool (sameB g s r)) ∧ Below w.heap.size w w' := by
  have HG := Lib.hid hg
  have HF := Lib.hid (specFirstOther_any A cap g s w hg hn hcap hs)
  have HGV := Lib.hid (fun W (hgw : Gr W A g) => specValid_any A cap g W hgw hn hcap)
  have HTV := Lib.hid (fun W => by have := specValid_text (tb s) W (by rw [tb_size]; exact hs); rw [tb_data] at this; exact this)
  clear hg hn hcap hs
  go_enter Tryz.func9, Tryz.ntmps9
  go_wp2_with fail
  refine HF.out.mono ?_
  rintro e w1 ⟨r, hr, rfl, b1⟩
  have HB1 := Lib.hid b1
  have HR := Lib.hid hr
  have HG1 := Lib.hid (HG.out.below b1)
  obtain ⟨x, o, hfo⟩ : ∃ x o, foV r = .tuple #[.string x, .bool o] ∧ o = r.isSome := by cases r <;> exact ⟨_, _, rfl, rfl⟩
  have HOS := Lib.hid hfo.2
  rw [hfo.1]
  clear b1 hr hfo
  have HGV1 := Lib.hid (HGV.out w1 HG1.out)
  have key : ∀ a b, validB g = a → textB s = b → sameB g s r = (a && b && !o) := by
    intro a b ha hb
    unfold sameB
    rw [ha, hb, HOS.out]
    cases r <;> rfl
  have HKEY := Lib.hid key
  clear key
  cases hv : validB g with
  | false =>
    rw [hv] at HGV1
    have HE := Lib.hid (show sameB g s r = false by rw [HKEY.out _ _ hv rfl]; simp)
    clear hv
    go_wp2_with fail
    refine HGV1.out.mono ?_
    rintro e w2 ⟨rfl, b2⟩
    have HB2 := Lib.hid (below_trans_self HB1.out b2)
    clear b2
    go_wp2_with fail
    go_ret
    exact ⟨r, HR.out, by rw [HE.out]; rfl, HB2.out⟩
  | true =>
    rw [hv] at HGV1
    cases ht : textB s with
    | false =>
      rw [ht] at HTV
      have HE := Lib.hid (show sameB g s r = false by rw [HKEY.out _ _ hv ht]; simp)
      clear hv ht
      go_wp2_with fail
      refine HGV1.out.mono ?_
      rintro e w2 ⟨rfl, b2⟩
      have HB2 := Lib.hid (below_trans_self HB1.out b2)
      clear b2
      go_wp2_with fail
      refine (HTV.out w2).mono ?_
      rintro e w3 ⟨rfl, b3⟩
      have HB3 := Lib.hid (below_trans_self HB2.out b3)
      clear b3
      go_wp2_with fail
      go_ret
      exact ⟨r, HR.out, by rw [HE.out]; rfl, HB3.out⟩
    | true =>
      rw [ht] at HTV
      have HE := Lib.hid (show sameB g s r = !o by rw [HKEY.out _ _ hv ht]; simp)
      clear hv ht
      cases o
      all_goals
        go_wp2_with fail
        refine HGV1.out.mono ?_
        rintro e w2 ⟨rfl, b2⟩
        have HB2 := Lib.hid (below_trans_self HB1.out b2)
        clear b2
        go_wp2_with fail
        refine (HTV.out w2).mono ?_
        rintro e w3 ⟨rfl, b3⟩
        have HB3 := Lib.hid (below_trans_self HB2.out b3)
        clear b3
        go_wp2_with fail
        go_ret
        exact ⟨r, HR.out, by rw [HE.out]; rfl, HB3.out⟩
end Go.Proofs.YtgkamcnbpiipoaaGreat
