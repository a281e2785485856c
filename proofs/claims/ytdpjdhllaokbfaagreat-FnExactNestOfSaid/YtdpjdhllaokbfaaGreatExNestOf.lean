/-
  Proved: the law FnExactNestOf returns true for every slice of blocks and leaves it as it was, with no condition on the input.
-/
import Derived.Test.YtdpjdhllaokbfaaGreatSpecNestTop
import Derived.Test.YtdpjdhllaokbfaaGreatValids
namespace Go.Proofs.YtdpjdhllaokbfaaGreat
open Go.ChangeShapes Go.WideShapes Go.ChangeAt Go.RowKit Go.Deep

set_option maxRecDepth 100000 in
theorem exNestOf_walk (A : Option Addr) (cap : Nat) (g : List Bl) (w : World) (hg : Gr w A g) (hl : g.length ≤ 9223372036854775807) (hz : ∀ b ∈ g, b.1.size ≤ 9223372036854775807 ∧ b.2.size ≤ 9223372036854775807) :
    Calls Tryz.prog 8 #[.slice A g.length cap] w fun e w' => e = .returned (.bool true) ∧ Below w.heap.size w w' := by
  by_cases hn : g.length + tot g ≤ 1048576
  · clear hz
    have hnn : ¬ ((1048576 : Int) - g.length - tot g < 0) := by omega
    have HQ : Hid (eqG g g = true) := eqG_iff.2 rfl
    generalize hx : nestV g = x
    generalize hv : nestedB g = v
    have H1 := Lib.hid (fun A cap w h1 h2 => (specNestOf_any A cap g w h1 hn h2).mono fun e w' h => show e = .returned (.tuple #[.string x, .bool v]) ∧ Below w.heap.size w w' from hx ▸ hv ▸ h)
    have H2 := Lib.hid (fun A cap w h1 => (implNestOf_any A cap g w h1 hn).mono fun e w' h => show e = .returned (.tuple #[.string x, .bool v]) ∧ Below w.heap.size w w' from hx ▸ hv ▸ h)
    clear hx hv
    go_enter Tryz.func8, Tryz.ntmps8
    go_wp2_with fail
    refine (szS_small A cap g _ hg hn).mono ?_
    rintro e w1 ⟨rfl, b1⟩
    have g1 := hg.below b1
    go_wp2_with fail
    refine (toS_any A cap g _ g1 hn).mono ?_
    rintro e w2 ⟨rfl, o2, b2⟩
    have g2 := g1.below b2
    go_wp2_with fail
    refine (H1.out _ _ _ o2.gr (Nat.le_refl _)).mono ?_
    rintro e w3 ⟨rfl, b3⟩
    have g3 := g2.below b3
    clear o2
    go_wp2_with fail
    refine (toS_any A cap g _ g3 hn).mono ?_
    rintro e w4 ⟨rfl, o4, b4⟩
    have g4 := g3.below b4
    have q4 := o4.gr
    go_wp2_with fail
    refine (H2.out _ _ _ q4).mono ?_
    rintro e w5 ⟨rfl, b5⟩
    have g5 := g4.below b5
    have q5 := q4.below b5
    go_wp2_with fail
    refine (toS_any A cap g _ g5 hn).mono ?_
    rintro e w6 ⟨rfl, o6, b6⟩
    have q6 := q5.below b6
    go_wp2_with fail
    refine (eqS_any _ _ _ _ g g _ q6 o6.gr (by omega) (by omega)).mono ?_
    rintro e w7 ⟨rfl, b7⟩
    rw [HQ.out]
    go_wp2_with fail
    go_ret
    exact ⟨rfl, below_trans_self (below_trans_self (below_trans_self (below_trans_self (below_trans_self (below_trans_self b1 b2) b3) b4) b5) b6) b7⟩
  · have HZ := Lib.hid hz
    clear hz
    go_enter Tryz.func8, Tryz.ntmps8
    go_wp2_with fail
    refine (szS_big A cap g _ hg hn hl HZ.out).mono ?_
    rintro e w1 ⟨rfl, b1⟩
    go_wp2_with fail
    go_ret
    exact ⟨rfl, b1⟩

set_option maxRecDepth 100000 in
theorem exNestOf_lifted (os : Os) (started : os.Started) (H : Type) (enc : TypeId × Value → H) :
    ReturnsInHanded {} Tryz.checked os 8 .any (Rows.fnExactNestOfSpec.pre6 enc Tryz.prog Tryz.f8 Rows.fnExactNestOfRow.domain false) (Rows.fnExactNestOfSpec.post enc Tryz.prog Tryz.f8 false true false false) := by
  refine returnsInHanded_of_change (C := Tryz.checked) own started (by kernel_rfl) Tryz.func8
    (ChangeSpec.witness6 (enc := enc) (C := Tryz.checked) false ⟨#[], #[.slice none 0 0], []⟩ 8 (by kernel_rfl) (by kernel_rfl) (by kernel_rfl) (by kernel_rfl)) ?_
  intro W base args ds gs before hval0 hW _ _
  have hval : ∀ (j : Nat) t v, Tryz.f8.params[j]? = some t → args[j]? = some v → Value.okWide Tryz.prog W .any base t v := hval0
  have hW' := hW
  obtain ⟨p, q, hA0, hV, rfl, _, _⟩ := hW
  have hA : DataW.TrodAll enc Tryz.prog W 0 (fun _ => true) true Tryz.f8.params.toList args.toList ds p := hA0
  rw [Tryz.params8] at hA hval
  obtain ⟨v0, d0, rfl, rfl, h0⟩ := trodAll_one hA
  obtain ⟨rfl, rfl⟩ := trodVars_none hV
  have h0k := h0
  clear hA0 hval0
  simp only [List.append_nil] at hW'
  have hlt : ∀ x ∈ p, x.block < W.heap.size := fun x hx => by simpa using hW'.lt x hx
  obtain ⟨A, cap, g, rfl, _, hl, hg, hz⟩ := open_blocks (hval 0 22 v0 rfl rfl) h0 hlt
  refine (exNestOf_walk A cap g W hg hl hz).mono fun e W' ⟨he, hB⟩ => ?_
  subst he
  refine ⟨_, rfl, _, _, _, [] ++ [], p, [], hW', ?_, ?_, rfl, hB.frame _, fun h => by cases h⟩
  · exact trodAll_mk1 (shut_bool Tryz.underlying4 true)
  · exact trodAll_mk1 (Below.trod laidOut (by kernel_rfl) (of_decide_eq_true (by kernel_rfl)) h0k hB hlt)

theorem exNestOf_holds : Rows.FnExactNestOfSaid :=
  OpenClaim.holds_of_wide 8 Tryz.f8 rfl rfl rfl rfl rfl rfl rfl ⟨rfl, rfl, rfl, rfl, rfl⟩ rfl rfl rfl rfl rfl (by kernel_rfl) Tryz.func8 (by kernel_rfl)
    (of_decide_eq_true (by kernel_rfl)) (by unfold Func.isWrapper; first | (rw [if_pos (by decide +kernel)]; kernel_rfl) | (rw [if_neg (by decide +kernel)]; exact ⟨rfl, rfl⟩))
    (fun os started H enc _ => exNestOf_lifted os started H enc)
#print axioms exNestOf_holds
end Go.Proofs.YtdpjdhllaokbfaaGreat
