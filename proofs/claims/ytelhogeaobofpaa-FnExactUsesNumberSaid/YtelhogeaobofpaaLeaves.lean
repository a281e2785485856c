/-
  CountLeaves and UsesNumber of both.
-/
import Derived.Test.YtelhogeaobofpaaCount
namespace Go.Proofs.Ytelhogeaobofpaa
open Go.RowKit Go.Sort
attribute [local go_sem] Oper.semAt_some

/-- Whether a text sets or asks the number. -/
noncomputable def numB (s : List UInt8) : Bool := decide (0 < countZ s [61]) || decide (0 < countZ s [35])
theorem numB_1 {s : List UInt8} (h : 0 < countZ s [61]) : numB s = true := by unfold numB; rw [decide_eq_true h, Bool.true_or]
theorem numB_2 {s : List UInt8} (h : ¬ 0 < countZ s [61]) : numB s = decide (0 < countZ s [35]) := by unfold numB; rw [decide_eq_false h, Bool.false_or]

theorem implCountLeaves_any (s : List UInt8) (w : World) :
    Calls Try.prog 18 #[.string (tb s)] w fun e w' => e = .returned (.int .i64 (countZ s [94])) ∧ Below w.heap.size w w' := by
  have H1 : Hid (∀ W, Calls Try.prog 20 #[.string (tb s), .string ⟨#[94]⟩] W fun e w' => e = .returned (.int .i64 (countZ s [94])) ∧ Below W.heap.size W w') := fun W => implCountItems_any s [94] W
  go_enter Try.func18, Try.ntmps18
  go_wp2_with fail
  refine (H1.out _).mono ?_
  rintro e w1 ⟨rfl, b1⟩
  go_wp2_with fail
  go_ret
  exact ⟨rfl, b1⟩

theorem implUsesNumber_any (s : List UInt8) (w : World) :
    Calls Try.prog 24 #[.string (tb s)] w fun e w' => e = .returned (.bool (numB s)) ∧ Below w.heap.size w w' := by
  have H1 : Hid (∀ W, Calls Try.prog 20 #[.string (tb s), .string ⟨#[61]⟩] W fun e w' => e = .returned (.int .i64 (countZ s [61])) ∧ Below W.heap.size W w') := fun W => implCountItems_any s [61] W
  have H2 : Hid (∀ W, Calls Try.prog 20 #[.string (tb s), .string ⟨#[35]⟩] W fun e w' => e = .returned (.int .i64 (countZ s [35])) ∧ Below W.heap.size W w') := fun W => implCountItems_any s [35] W
  by_cases hq : 0 < countZ s [61]
  · have HQ := Lib.hid (numB_1 hq)
    have g1 : decide (0 < countZ s [61]) = true := decide_eq_true hq
    go_enter Try.func24, Try.ntmps24
    go_wp2_with fail
    refine (H1.out _).mono ?_
    rintro e w1 ⟨rfl, b1⟩
    go_wp2_with fail
    go_ret
    exact ⟨by rw [HQ.out]; rfl, b1⟩
  · have HQ := Lib.hid (numB_2 hq)
    have g1 : decide (0 < countZ s [61]) = false := decide_eq_false hq
    go_enter Try.func24, Try.ntmps24
    go_wp2_with fail
    refine (H1.out _).mono ?_
    rintro e w1 ⟨rfl, b1⟩
    go_wp2_with fail
    refine (H2.out _).mono ?_
    rintro e w2 ⟨rfl, b2⟩
    go_wp2_with fail
    go_ret
    exact ⟨by rw [HQ.out]; rfl, below_trans_self b1 b2⟩

theorem specCountLeaves_any (s : List UInt8) (w : World) (hs : s.length ≤ 1048576) :
    Calls Try.prog 17 #[.string (tb s)] w fun e w' => e = .returned (.int .i64 (countZ s [94])) ∧ Below w.heap.size w w' := by
  have H1 : Hid (∀ W, Calls Try.prog 19 #[.string (tb s), .string ⟨#[94]⟩] W fun e w' => e = .returned (.int .i64 (countZ s [94])) ∧ Below W.heap.size W w') := fun W => specCountItems_any s [94] W hs (by decide)
  go_enter Try.func17, Try.ntmps17
  go_wp2_with fail
  refine (H1.out _).mono ?_
  rintro e w1 ⟨rfl, b1⟩
  go_wp2_with fail
  go_ret
  exact ⟨rfl, b1⟩

theorem specUsesNumber_any (s : List UInt8) (w : World) (hs : s.length ≤ 1048576) :
    Calls Try.prog 23 #[.string (tb s)] w fun e w' => e = .returned (.bool (numB s)) ∧ Below w.heap.size w w' := by
  have H1 : Hid (∀ W, Calls Try.prog 19 #[.string (tb s), .string ⟨#[61]⟩] W fun e w' => e = .returned (.int .i64 (countZ s [61])) ∧ Below W.heap.size W w') := fun W => specCountItems_any s [61] W hs (by decide)
  have H2 : Hid (∀ W, Calls Try.prog 19 #[.string (tb s), .string ⟨#[35]⟩] W fun e w' => e = .returned (.int .i64 (countZ s [35])) ∧ Below W.heap.size W w') := fun W => specCountItems_any s [35] W hs (by decide)
  by_cases hq : 0 < countZ s [61]
  · have HQ := Lib.hid (numB_1 hq)
    have g1 : decide (0 < countZ s [61]) = true := decide_eq_true hq
    go_enter Try.func23, Try.ntmps23
    go_wp2_with fail
    refine (H1.out _).mono ?_
    rintro e w1 ⟨rfl, b1⟩
    go_wp2_with fail
    go_ret
    exact ⟨by rw [HQ.out]; rfl, b1⟩
  · have HQ := Lib.hid (numB_2 hq)
    have g1 : decide (0 < countZ s [61]) = false := decide_eq_false hq
    go_enter Try.func23, Try.ntmps23
    go_wp2_with fail
    refine (H1.out _).mono ?_
    rintro e w1 ⟨rfl, b1⟩
    go_wp2_with fail
    refine (H2.out _).mono ?_
    rintro e w2 ⟨rfl, b2⟩
    go_wp2_with fail
    go_ret
    exact ⟨by rw [HQ.out]; rfl, below_trans_self b1 b2⟩
end Go.Proofs.Ytelhogeaobofpaa
