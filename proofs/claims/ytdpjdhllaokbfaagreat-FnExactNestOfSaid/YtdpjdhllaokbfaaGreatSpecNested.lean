/-
  The model's FirstBroken and IsNested.
-/
import Derived.Test.YtdpjdhllaokbfaaGreatSpecBroken
namespace Go.Proofs.YtdpjdhllaokbfaaGreat
open Go.RowKit Go.Sort

theorem brokenV_no {g : List Bl} (hv : validB g = false) : brokenV g = none := by unfold brokenV; rw [hv]; rfl
theorem brokenV_yes {g : List Bl} (hv : validB g = true) : brokenV g = brokenO (nestF g 26 (reachS g)) := by unfold brokenV nestG; rw [hv]; rfl
theorem brokenG_good {g : List Bl} {q : PT} (hv : validB g = true) (h : brokenO (nestF g 26 (reachS g)) = some q) : ∃ x xs, q.1 = x :: xs ∧ ∀ y ∈ q.1, y < g.length := by
  have hG := nest_good 26 (reachS g) (reach_ok hv) q (List.mem_of_find?_eq_some h)
  cases e : q.1 with
  | nil => have := hG.pos; rw [e] at this; simp at this
  | cons x xs => exact ⟨x, xs, rfl, by rw [← e]; exact hG.lt⟩
set_option maxRecDepth 100000 in
theorem specBroken_any (A : Option Addr) (cap : Nat) (g : List Bl) (w : World) (hg : Gr w A g) (hn : g.length + tot g ≤ 1048576) (hcap : g.length ≤ cap) :
    Calls Tryz.prog 32 #[.slice A g.length cap] w fun e w' => e = .returned (.tuple #[.string (textO (fun r => namesAt g r.1) (brokenV g)), .bool (brokenV g).isSome]) ∧ Below w.heap.size w w' := by
  have HC := Lib.hid (specValid_any A cap g w hg hn hcap)
  have HG := Lib.hid hg
  clear hg
  cases hv : validB g with
  | false =>
    rw [hv] at HC
    have HE := Lib.hid (brokenV_no hv)
    clear hv
    go_enter Tryz.func32, Tryz.ntmps32
    go_wp2_with fail
    refine HC.out.mono ?_
    rintro e w1 ⟨rfl, b1⟩
    go_wp2_with fail
    go_ret2
    exact ⟨by rw [HE.out]; rfl, b1⟩
  | true =>
    rw [hv] at HC
    have HE := Lib.hid (brokenV_yes hv)
    obtain ⟨rs, hrs⟩ : ∃ rs, rs = namesAt g (reachS g) := ⟨_, rfl⟩
    have HR1 := Lib.hid (fun w (h : Gr w A g) => (l1Reached_any A cap g w h hn hv).mono fun e w' h => show e = .returned (.string rs) ∧ Below w.heap.size w w' from hrs ▸ h)
    have HP1 := Lib.hid (fun w (h : Gr w A g) => l10Broken_any A cap g hn hv 26 (reachS g) [] rs ⟨#[]⟩ w h (reachS_up g) (fun _ h => h) (fun x hx => by cases hx) (by rw [cutL_nil]; exact reachS_len hv) (by simp) hrs rfl)
    rw [cutL_nil] at HP1
    obtain ⟨o, ho⟩ : ∃ o, o = brokenO (nestF g 26 (reachS g)) := ⟨_, rfl⟩
    have hgood : ∀ q, o = some q → ∃ x xs, q.1 = x :: xs ∧ ∀ y ∈ q.1, y < g.length := fun q hq => brokenG_good hv (ho ▸ hq)
    rw [← ho] at HP1 HE
    have HV := Lib.hid hv
    clear hv hrs ho
    cases o with
    | none =>
      have HP2 : Hid (∀ w, Gr w A g → Calls Tryz.prog 57 #[.slice A g.length cap, .string rs, .string ⟨#[]⟩] w fun e w' => e = .returned (.string ⟨#[]⟩) ∧ Below w.heap.size w w') := HP1
      clear HP1 hgood
      go_enter Tryz.func32, Tryz.ntmps32
      go_wp2_with fail
      refine HC.out.mono ?_
      rintro e w1 ⟨rfl, b1⟩
      have HB1 := Lib.hid b1
      clear b1
      go_wp2_with fail
      refine (HR1.out w1 (HG.out.below HB1.out)).mono ?_
      rintro e w2 ⟨rfl, b2⟩
      have HB2 := Lib.hid (HB1.out.trans (b2.mono HB1.out.size))
      clear b2
      go_wp2_with fail
      refine (HP2.out w2 (HG.out.below HB2.out)).mono ?_
      rintro e w3 ⟨rfl, b3⟩
      have HB3 := Lib.hid (HB2.out.trans (b3.mono HB2.out.size))
      clear b3
      go_wp2_with fail
      go_ret2
      exact ⟨by rw [HE.out]; rfl, HB3.out⟩
    | some q =>
      obtain ⟨x, xs, e, hql⟩ := hgood q rfl
      obtain ⟨qt, hqt⟩ : ∃ qt, qt = namesAt g q.1 := ⟨_, rfl⟩
      have HP2 : Hid (∀ w, Gr w A g → Calls Tryz.prog 57 #[.slice A g.length cap, .string rs, .string ⟨#[]⟩] w fun e w' => e = .returned (.string qt) ∧ Below w.heap.size w w') := by rw [hqt]; exact HP1
      have q0 : qt.toList.isEmpty = false := emp_no (by rw [hqt, namesAt_size HV.out _ hql, e]; simp)
      have HQT := Lib.hid hqt
      clear HP1 hgood e hql hqt
      go_enter Tryz.func32, Tryz.ntmps32
      go_wp2_with fail
      refine HC.out.mono ?_
      rintro e w1 ⟨rfl, b1⟩
      have HB1 := Lib.hid b1
      clear b1
      go_wp2_with fail
      refine (HR1.out w1 (HG.out.below HB1.out)).mono ?_
      rintro e w2 ⟨rfl, b2⟩
      have HB2 := Lib.hid (HB1.out.trans (b2.mono HB1.out.size))
      clear b2
      go_wp2_with fail
      refine (HP2.out w2 (HG.out.below HB2.out)).mono ?_
      rintro e w3 ⟨rfl, b3⟩
      have HB3 := Lib.hid (HB2.out.trans (b3.mono HB2.out.size))
      clear b3
      go_wp2_with fail
      go_ret2
      exact ⟨by rw [HE.out, HQT.out]; rfl, HB3.out⟩
set_option maxRecDepth 100000 in
theorem specNested_any (A : Option Addr) (cap : Nat) (g : List Bl) (w : World) (hg : Gr w A g) (hn : g.length + tot g ≤ 1048576) (hcap : g.length ≤ cap) :
    Calls Tryz.prog 26 #[.slice A g.length cap] w fun e w' => e = .returned (.bool (nestedB g)) ∧ Below w.heap.size w w' := by
  have HC := Lib.hid (fun w (h : Gr w A g) => specValid_any A cap g w h hn hcap)
  have HF := Lib.hid (specBroken_any A cap g w hg hn hcap)
  have HG := Lib.hid hg
  obtain ⟨vb, hvb⟩ : ∃ vb, vb = validB g := ⟨_, rfl⟩
  obtain ⟨tx, htx⟩ : ∃ tx, tx = textO (fun r => namesAt g r.1) (brokenV g) := ⟨_, rfl⟩
  obtain ⟨bb, hbb⟩ : ∃ bb, bb = (brokenV g).isSome := ⟨_, rfl⟩
  have HN := Lib.hid (show (vb && !bb) = nestedB g by rw [hvb, hbb]; unfold nestedB; congr 1; cases brokenV g <;> rfl)
  rw [← hvb] at HC
  rw [← htx, ← hbb] at HF
  clear hg hvb htx hbb
  cases vb with
  | false =>
    go_enter Tryz.func26, Tryz.ntmps26
    go_wp2_with fail
    refine HF.out.mono ?_
    rintro e w1 ⟨rfl, b1⟩
    have HB1 := Lib.hid b1
    clear b1
    go_wp2_with fail
    refine (HC.out w1 (HG.out.below HB1.out)).mono ?_
    rintro e w2 ⟨rfl, b2⟩
    have HB2 := Lib.hid (HB1.out.trans (b2.mono HB1.out.size))
    clear b2
    go_wp2_with fail
    go_ret
    exact ⟨ret_bool HN.out, HB2.out⟩
  | true =>
    cases bb with
    | false =>
      go_enter Tryz.func26, Tryz.ntmps26
      go_wp2_with fail
      refine HF.out.mono ?_
      rintro e w1 ⟨rfl, b1⟩
      have HB1 := Lib.hid b1
      clear b1
      go_wp2_with fail
      refine (HC.out w1 (HG.out.below HB1.out)).mono ?_
      rintro e w2 ⟨rfl, b2⟩
      have HB2 := Lib.hid (HB1.out.trans (b2.mono HB1.out.size))
      clear b2
      go_wp2_with fail
      go_ret
      exact ⟨ret_bool HN.out, HB2.out⟩
    | true =>
      go_enter Tryz.func26, Tryz.ntmps26
      go_wp2_with fail
      refine HF.out.mono ?_
      rintro e w1 ⟨rfl, b1⟩
      have HB1 := Lib.hid b1
      clear b1
      go_wp2_with fail
      refine (HC.out w1 (HG.out.below HB1.out)).mono ?_
      rintro e w2 ⟨rfl, b2⟩
      have HB2 := Lib.hid (HB1.out.trans (b2.mono HB1.out.size))
      clear b2
      go_wp2_with fail
      go_ret
      exact ⟨ret_bool HN.out, HB2.out⟩
end Go.Proofs.YtdpjdhllaokbfaaGreat
