/-
  Proved: the law FnExactGoRound returns true for every slice of blocks and all strings and leaves them as they were, with no condition on the input.
-/
import Derived.Test.YtdpjdhllaokbfaaSpecGoRound
import Derived.Test.YtdpjdhllaokbfaaValids
namespace Go.Proofs.Ytdpjdhllaokbfaa
open Go.ChangeShapes Go.WideShapes Go.ChangeAt Go.RowKit Go.Deep

theorem exGoRound_walk (A : Option Addr) (cap : Nat) (g : List Bl) (s t : ByteArray) (w : World) (hg : Gr w A g) (hl : g.length ≤ 9223372036854775807) (hz : ∀ b ∈ g, b.1.size ≤ 9223372036854775807 ∧ b.2.size ≤ 9223372036854775807) :
    Calls Try.prog 3 #[.slice A g.length cap, .string s, .string t] w fun e w' => e = .returned (.bool true) ∧ Below w.heap.size w w' := by
  by_cases hsl : (1048576 : Int) < s.size
  · clear hz
    go_enter Try.func3, Try.ntmps3
    go_wp2_with fail
    go_ret
    exact ⟨rfl, Below.refl _ _⟩
  by_cases htl : (1048576 : Int) < t.size
  · clear hz
    go_enter Try.func3, Try.ntmps3
    go_wp2_with fail
    go_ret
    exact ⟨rfl, Below.refl _ _⟩
  by_cases hn : g.length + tot g ≤ 1048576
  · clear hz
    have hnn : ¬ ((1048576 : Int) - g.length - tot g < 0) := by omega
    have HQ : Hid (eqG g g = true) := eqG_iff.2 rfl
    go_enter Try.func3, Try.ntmps3
    go_wp2_with fail
    refine (szS_small A cap g _ hg hn).mono ?_
    rintro e w1 ⟨rfl, b1⟩
    have g1 := hg.below b1
    go_wp2_with fail
    refine (toS_any A cap g _ g1 hn).mono ?_
    rintro e w2 ⟨rfl, o2, b2⟩
    have g2 := g1.below b2
    go_wp2_with fail
    refine (specGoRound_any _ _ g s t _ o2.gr hn (Nat.le_refl _)).mono ?_
    rintro e w3 ⟨rfl, b3⟩
    have g3 := g2.below b3
    clear o2
    go_wp2_with fail
    refine (toS_any A cap g _ g3 hn).mono ?_
    rintro e w4 ⟨rfl, o4, b4⟩
    have g4 := g3.below b4
    have q4 := o4.gr
    go_wp2_with fail
    refine (implGoRound_any _ _ g s t _ q4 hn).mono ?_
    rintro e w5 ⟨rfl, b5⟩
    have g5 := g4.below b5
    have q5 := q4.below b5
    go_wp2_with fail
    refine (toS_any A cap g _ g5 hn).mono ?_
    rintro e w6 ⟨rfl, o6, b6⟩
    have q6 := q5.below b6
    go_wp2_with fail
    refine (eqS_any _ _ _ _ g g _ q6 o6.gr (by omega) (by omega)).mono ?_
    rintro e w7 ⟨rfl, b7⟩
    rw [HQ.out]
    go_wp2_with fail
    go_ret
    exact ⟨rfl, below_trans_self (below_trans_self (below_trans_self (below_trans_self (below_trans_self (below_trans_self b1 b2) b3) b4) b5) b6) b7⟩
  · have HZ := Lib.hid hz
    clear hz
    go_enter Try.func3, Try.ntmps3
    go_wp2_with fail
    refine (szS_big A cap g _ hg hn hl HZ.out).mono ?_
    rintro e w1 ⟨rfl, b1⟩
    go_wp2_with fail
    go_ret
    exact ⟨rfl, b1⟩

set_option maxRecDepth 100000 in
theorem exGoRound_lifted (os : Os) (started : os.Started) (H : Type) (enc : TypeId × Value → H) :
    ReturnsInHanded {} Try.checked os 3 .any (Rows.fnExactGoRoundSpec.pre6 enc Try.prog Try.f3 Rows.fnExactGoRoundRow.domain false) (Rows.fnExactGoRoundSpec.post enc Try.prog Try.f3 false true false false) := by
  refine returnsInHanded_of_change (C := Try.checked) own started (by kernel_rfl) Try.func3
    (ChangeSpec.witness6 (enc := enc) (C := Try.checked) false ⟨#[], #[.slice none 0 0, .string ⟨#[]⟩, .string ⟨#[]⟩], []⟩ 8 (by kernel_rfl) (by kernel_rfl) (by kernel_rfl) (by kernel_rfl)) ?_
  intro W base args ds gs before hval0 hW _ _
  have hval : ∀ (j : Nat) t v, Try.f3.params[j]? = some t → args[j]? = some v → Value.okWide Try.prog W .any base t v := hval0
  have hW' := hW
  obtain ⟨p, q, hA0, hV, rfl, _, _⟩ := hW
  have hA : DataW.TrodAll enc Try.prog W 0 (fun _ => true) true Try.f3.params.toList args.toList ds p := hA0
  rw [Try.params3] at hA hval
  obtain ⟨v0, v1, v2, d0, d1, d2, p0, p1, p2, rfl, rfl, rfl, h0, h1, h2⟩ := trodAll_three hA
  obtain ⟨rfl, rfl⟩ := trodVars_none hV
  have h0k := h0
  have h1k := h1
  have h2k := h2
  clear hA0 hval0
  simp only [List.append_nil] at hW'
  have hlt : ∀ x ∈ p0 ++ (p1 ++ p2), x.block < W.heap.size := fun x hx => by simpa using hW'.lt x (by simpa using hx)
  have hlt0 : ∀ x ∈ p0, x.block < W.heap.size := fun x hx => hlt x (List.mem_append_left _ hx)
  have hlt1 : ∀ x ∈ p1, x.block < W.heap.size := fun x hx => hlt x (List.mem_append_right _ (List.mem_append_left _ hx))
  have hlt2 : ∀ x ∈ p2, x.block < W.heap.size := fun x hx => hlt x (List.mem_append_right _ (List.mem_append_right _ hx))
  obtain ⟨A, cap, g, rfl, _, hl, hg, hz⟩ := open_blocks (hval 0 22 v0 rfl rfl) h0 hlt0
  obtain ⟨s, rfl⟩ := okWide_string Try.underlying9 (hval 1 9 v1 rfl rfl)
  obtain ⟨t, rfl⟩ := okWide_string Try.underlying9 (hval 2 9 v2 rfl rfl)
  refine (exGoRound_walk A cap g s t W hg hl hz).mono fun e W' ⟨he, hB⟩ => ?_
  subst he
  refine ⟨_, rfl, _, _, _, [] ++ [], p0 ++ (p1 ++ p2), [], hW', ?_, ?_, rfl, hB.frame _, fun h => by cases h⟩
  · exact trodAll_mk1 (shut_bool Try.underlying4 true)
  · exact trodAll_mk3 (Below.trod laidOut (by kernel_rfl) (of_decide_eq_true (by kernel_rfl)) h0k hB hlt0) (Below.trod laidOut (by kernel_rfl) (of_decide_eq_true (by kernel_rfl)) h1k hB hlt1) (Below.trod laidOut (by kernel_rfl) (of_decide_eq_true (by kernel_rfl)) h2k hB hlt2)

theorem exGoRound_holds : Rows.FnExactGoRoundSaid :=
  OpenClaim.holds_of_wide 3 Try.f3 rfl rfl rfl rfl rfl rfl rfl ⟨rfl, rfl, rfl, rfl, rfl⟩ rfl rfl rfl rfl rfl (by kernel_rfl) Try.func3 (by kernel_rfl)
    (of_decide_eq_true (by kernel_rfl)) (by unfold Func.isWrapper; first | (rw [if_pos (by decide +kernel)]; kernel_rfl) | (rw [if_neg (by decide +kernel)]; exact ⟨rfl, rfl⟩))
    (fun os started H enc _ => exGoRound_lifted os started H enc)
#print axioms exGoRound_holds
end Go.Proofs.Ytdpjdhllaokbfaa
