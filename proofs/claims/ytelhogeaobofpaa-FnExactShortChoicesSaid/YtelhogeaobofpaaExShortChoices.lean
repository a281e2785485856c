/-
  Proved: the law FnExactShortChoices returns true for every whole number, and leaves it as it was, with no condition on the input.
-/
import Derived.Test.YtelhogeaobofpaaShortAll
import Derived.Test.YtelhogeaobofpaaEnds
import Derived.Test.YtelhogeaobofpaaHead
namespace Go.Proofs.Ytelhogeaobofpaa
open Go.ChangeShapes Go.WideShapes Go.ChangeAt Go.RowKit Go.Deep

attribute [local go_sem] Oper.semAt_some

theorem collect_any (n NB : Nat) (w : World) (hn : n ≤ 6) (hE : w.cell? ⟨NB, 0, none⟩ = some (.int .i64 n)) (hEl : NB < w.heap.size) :
    Calls Try.prog 63 #[.func (.func 75) #[] #[.pointer (some ⟨NB, 0, none⟩)]] w fun e w' => ∃ v, e = .returned v ∧ OwnStr w' w.heap.size v ((shortL n).map tb) ∧ Below w.heap.size w w' := by
  have HA := Lib.hid (appendSeq_any n NB w hn hE hEl)
  generalize (shortL n).map tb = ps at HA ⊢
  clear hE
  go_enter Try.func63, Try.ntmps63
  go_wp2_with fail
  refine HA.out.mono ?_
  rintro e w1 ⟨v, rfl, ho, hb⟩
  have HO := Lib.hid ho
  have HB := Lib.hid hb
  clear ho hb
  go_wp2_with fail
  refine bodyPost_ret (results_tmp rfl _ _ _) rfl ?_
  exact ⟨v, rfl, HO.out, HB.out⟩

theorem own_baseS {w : World} {b b' : Nat} {e : TypeId} {size : Nat} {v : Value} {n : Nat} {xs : List Value} (h : w.ownsRow b e size v n xs) (hb : b' ≤ b) : w.ownsRow b' e size v n xs := by
  refine ⟨h.1, ?_⟩
  rcases h.2 with hn | ⟨g, cap, cur, hv, hb2, rest⟩
  · exact .inl hn
  · exact .inr ⟨g, cap, cur, hv, Nat.le_trans hb hb2, rest⟩

set_option maxRecDepth 100000 in
theorem implShort_any (n : Int) (w : World) :
    Calls Try.prog 40 #[.int .i64 n] w (ListS (shortS n) (shortB n) w) := by
  by_cases h0 : n < 0
  · have hq : shortB n = false := by unfold shortB; rw [decide_eq_false (by omega)]; rfl
    rw [show shortS n = [] by unfold shortS; rw [if_neg (by rw [hq]; decide)], hq]
    have g0 : decide (n < 0) = true := decide_eq_true h0
    clear hq
    go_enter Try.func40, Try.ntmps40
    go_wp2_with fail
    go_ret2
    exact ⟨_, rfl, World.ownsRow_nil _ _ _ _, Below.refl _ _⟩
  · by_cases h6 : 6 < n
    · have hq : shortB n = false := by unfold shortB; rw [decide_eq_false (by omega : ¬ n ≤ 6), Bool.and_false]
      rw [show shortS n = [] by unfold shortS; rw [if_neg (by rw [hq]; decide)], hq]
      have g0 : decide (n < 0) = false := decide_eq_false h0
      have g1 : decide (6 < n) = true := decide_eq_true h6
      clear hq
      go_enter Try.func40, Try.ntmps40
      go_wp2_with fail
      go_ret2
      exact ⟨_, rfl, World.ownsRow_nil _ _ _ _, Below.refl _ _⟩
    · obtain ⟨m, rfl⟩ := Int.eq_ofNat_of_zero_le (by omega : 0 ≤ n)
      have hq : shortB (m : Int) = true := by unfold shortB; rw [decide_eq_true (by omega : (0 : Int) ≤ m), decide_eq_true (by omega : (m : Int) ≤ 6)]; rfl
      rw [show shortS (m : Int) = (shortL m).map tb by unfold shortS; rw [if_pos hq]; rfl, hq]
      have g0 : decide ((m : Int) < 0) = false := decide_eq_false h0
      have g1 : decide ((6 : Int) < m) = false := decide_eq_false h6
      have HC := Lib.hid (fun W (hc : W.cell? ⟨w.heap.size, 0, none⟩ = some (.int .i64 m)) (hl : w.heap.size < W.heap.size) => collect_any m w.heap.size W (by omega) hc hl)
      generalize (shortL m).map tb = ps at HC ⊢
      clear hq
      go_enter Try.func40, Try.ntmps40
      go_wp2_with fail
      refine (shortChoices_any m w).mono ?_
      rintro e w1 ⟨rfl, hw1⟩
      have hb1 : Below w.heap.size w w1 := by rw [hw1]; exact (Below.refl _ w).alloc (Nat.le_refl _) _
      have hs1 : w1.heap.size = w.heap.size + 1 := by rw [hw1]; simp
      have HC1 := Lib.hid (HC.out w1 (by rw [hw1]; exact (Blk.new w 3 #[.int .i64 m]).cell 0) (by omega))
      have HB1 := Lib.hid hb1
      clear hw1 hb1
      go_wp2_with fail
      refine HC1.out.mono ?_
      rintro e w2 ⟨v, rfl, ho, hb⟩
      have HO := Lib.hid (own_baseS ho (by omega : w.heap.size ≤ w1.heap.size))
      have HB := Lib.hid (below_trans_self HB1.out hb)
      clear ho hb
      go_wp2_with fail
      refine bodyPost_ret (results_tmp2 rfl _ _ _) rfl ?_
      exact ⟨v, rfl, HO.out, HB.out⟩

set_option maxRecDepth 100000 in
set_option maxHeartbeats 3200000 in
theorem exShortChoices_walk (n : Int) (w : World) :
    Calls Try.prog 14 #[.int .i64 n] w fun e w' => e = .returned (.bool true) ∧ Below w.heap.size w w' := by
  have H1 := Lib.hid (fun W => specShort_any n W)
  have H2 := Lib.hid (fun W => implShort_any n W)
  have hpl : (shortS n).length ≤ 1048576 := by
    unfold shortS
    split
    · rename_i hq
      unfold shortB at hq
      rw [Bool.and_eq_true, decide_eq_true_eq, decide_eq_true_eq] at hq
      rw [List.length_map]
      have := shortL_len (n := n.toNat) (by omega)
      omega
    · simp
  generalize shortS n = ps at H1 H2 hpl
  generalize shortB n = ok at H1 H2
  have ok1 : (ok != ok) = false := by simp
  go_enter Try.func14, Try.ntmps14
  go_wp2_with fail
  refine (H1.out w).mono ?_
  rintro e w1 ⟨v0, rfl, o0, b1⟩
  obtain ⟨A0, c0, rfl, q0⟩ := own_strs o0
  have HB1 := Lib.hid b1
  have HQ := Lib.hid q0
  clear o0 b1 q0
  go_wp2_with fail
  refine (H2.out w1).mono ?_
  rintro e w2 ⟨v1, rfl, o1, b2⟩
  obtain ⟨A1, c1, rfl, q1⟩ := own_strs o1
  have HT2 := Lib.hid b2
  have HO2 := Lib.hid o1
  have HB2 := Lib.hid (below_trans_self HB1.out b2)
  clear o1 b2
  go_wp2_with fail
  refine (eqStr_any A1 A0 c1 c0 ps w2 q1 (HQ.out.below HT2.out) hpl).mono ?_
  rintro e w3 ⟨rfl, b3⟩
  have HO3 := Lib.hid (own_belowS HO2.out b3)
  have HT3 := Lib.hid (below_trans_self HT2.out b3)
  have HB3 := Lib.hid (below_trans_self HB2.out b3)
  clear b3 q1
  have HM := Lib.hid (markV HO3.out hpl HT3.out.size)
  go_wp2_with fail
  refine HM.out.mono ?_
  rintro e w4 ⟨rfl, hmk, om⟩
  have HK4 := Lib.hid hmk
  have HT4 := Lib.hid (HT3.out.trans om)
  have HB4 := Lib.hid (HB3.out.trans (om.mono HB1.out.size))
  clear hmk om
  go_wp2_with fail
  refine (heldV HK4.out hpl).mono ?_
  rintro e w5 ⟨rfl, b5⟩
  have HK5 := Lib.hid (HK4.out.below b5)
  have HT5 := Lib.hid (below_trans_self HT4.out b5)
  have HB5 := Lib.hid (below_trans_self HB4.out b5)
  clear b5
  go_wp2_with fail
  refine (H2.out w5).mono ?_
  rintro e w6 ⟨v2, rfl, o6, b6⟩
  obtain ⟨A2, c2, rfl, q6⟩ := own_strs o6
  have HK6 := Lib.hid (HK5.out.below b6)
  have HT6 := Lib.hid (below_trans_self HT5.out b6)
  have HB6 := Lib.hid (below_trans_self HB5.out b6)
  clear o6 b6
  go_wp2_with fail
  refine (eqStr_any A2 A0 c2 c0 ps w6 q6 (HQ.out.below HT6.out) hpl).mono ?_
  rintro e w7 ⟨rfl, b7⟩
  have HK7 := Lib.hid (HK6.out.below b7)
  have HB7 := Lib.hid (below_trans_self HB6.out b7)
  clear b7 q6
  go_wp2_with fail
  refine (heldV HK7.out hpl).mono ?_
  rintro e w8 ⟨rfl, b8⟩
  have HB8 := Lib.hid (below_trans_self HB7.out b8)
  clear b8
  go_wp2_with fail
  go_ret
  exact ⟨rfl, HB8.out⟩

set_option maxRecDepth 100000 in
theorem exShortChoices_lifted (os : Os) (started : os.Started) (H : Type) (enc : TypeId × Value → H) :
    ReturnsInHanded {} Try.checked os 14 .any (Rows.fnExactShortChoicesSpec.pre6 enc Try.prog Try.f14 Rows.fnExactShortChoicesRow.domain false) (Rows.fnExactShortChoicesSpec.post enc Try.prog Try.f14 false true false false) := by
  refine returnsInHanded_of_change (C := Try.checked) own5 started (by kernel_rfl) Try.func14
    (ChangeSpec.witness6 (enc := enc) (C := Try.checked) false ⟨#[], #[.int .i64 0], []⟩ 8 (by kernel_rfl) (by kernel_rfl) (by kernel_rfl) (by kernel_rfl)) ?_
  intro W base args ds gs before hval0 hW _ _
  have hval : ∀ (j : Nat) t v, Try.f14.params[j]? = some t → args[j]? = some v → Value.okWide Try.prog W .any base t v := hval0
  have hW' := hW
  obtain ⟨p, q, hA0, hV, rfl, _, _⟩ := hW
  have hA : DataW.TrodAll enc Try.prog W 0 (fun _ => true) true Try.f14.params.toList args.toList ds p := hA0
  rw [Try.params14] at hA hval
  obtain ⟨v0, d0, rfl, rfl, h0⟩ := trodAll_one hA
  obtain ⟨rfl, rfl⟩ := trodVars_none hV
  have h0k := h0
  clear hA0 hval0
  simp only [List.append_nil] at hW'
  have hlt0 : ∀ x ∈ p, x.block < W.heap.size := fun x hx => by simpa using hW'.lt x hx
  obtain ⟨n, rfl⟩ := okWide_int Try.underlying3 (hval 0 3 v0 rfl rfl)
  refine (exShortChoices_walk n W ).mono fun e W' ⟨he, hB⟩ => ?_
  subst he
  refine ⟨_, rfl, _, _, _, [] ++ [], p, [], hW', ?_, ?_, rfl, hB.frame _, fun h => by cases h⟩
  · exact trodAll_mk1 (shut_bool Try.underlying4 true)
  · exact trodAll_mk1 (Below.trod laidOut5 (by kernel_rfl) (of_decide_eq_true (by kernel_rfl)) h0k hB hlt0)

theorem exShortChoices_closed : joinedFacts Try.prog 14 Try.f14 Rows.fnExactShortChoicesSpec Rows.fnExactShortChoicesRow = true := by
  simp only [joinedFacts, Bool.and_eq_true]
  repeat' apply And.intro
  all_goals first | with_reducible exact head_enter | (with_reducible rw [head_final]; kernel_rfl) | (with_reducible rw [head_make]; kernel_rfl) | kernel_rfl
theorem exShortChoices_holds : Rows.FnExactShortChoicesSaid :=
  OpenClaim.holds_of_wide 14 Try.f14 rfl rfl rfl rfl rfl rfl rfl ⟨rfl, rfl, rfl, rfl, rfl⟩ rfl rfl rfl rfl rfl (by kernel_rfl) Try.func14 exShortChoices_closed
    (of_decide_eq_true (by kernel_rfl)) (by unfold Func.isWrapper; first | (rw [if_pos (by decide +kernel)]; kernel_rfl) | (rw [if_neg (by decide +kernel)]; exact ⟨rfl, rfl⟩))
    (fun os started H enc _ => exShortChoices_lifted os started H enc)
#print axioms exShortChoices_holds
end Go.Proofs.Ytelhogeaobofpaa
