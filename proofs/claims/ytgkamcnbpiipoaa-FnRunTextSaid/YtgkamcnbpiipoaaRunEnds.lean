/-
  EndsSilently of both.
-/
import Derived.Test.YtgkamcnbpiipoaaRunText
import Derived.Test.YtgkamcnbpiipoaaMRunText
namespace Go.Proofs.Ytgkamcnbpiipoaa
open Go.RowKit Go.Sort
attribute [local go_sem] Oper.semAt_some
theorem esB_some (o : ROut) : esB (some o) = (decide (o.code = 2) && decide (o.trace.length < 60)) := rfl

set_option maxRecDepth 100000 in
theorem specEnds_any (s c : List UInt8) (w : World) (hs : s.length ≤ 1048576) (hc : c.length ≤ 4611686018427387904) :
    Calls Try.prog 17 #[.string (tb s), .string (tb c)] w fun e w' => ∃ o, RanT s c o ∧ e = .returned (.bool (esB o)) ∧ Below w.heap.size w w' := by
  have HD := Lib.hid (specRunText_any s c w hs hc)
  go_enter Try.func17, Try.ntmps17
  go_wp2_with fail
  refine HD.out.mono ?_
  rintro e w1 ⟨o, hr, rfl, hb⟩
  have HR := Lib.hid hr
  have HB := Lib.hid hb
  clear hr hb
  cases o with
  | none =>
    unfold rtV
    go_wp2_with fail
    go_ret
    exact ⟨none, HR.out, rfl, HB.out⟩
  | some o =>
    have hz : (tb o.trace).size = o.trace.length := tb_size _
    by_cases h2 : o.code = 2
    · have g2 : ((o.code : Int) == 2) = true := by simp; omega
      have HE := Lib.hid (show esB (some o) = decide ((o.trace.length : Int) < 60) by rw [esB_some, decide_eq_true h2, Bool.true_and]; exact decide_eq_decide.2 (by omega))
      clear h2
      unfold rtV
      go_wp2_with fail
      go_ret
      exact ⟨some o, HR.out, by rw [HE.out]; rfl, HB.out⟩
    · have g2 : ((o.code : Int) == 2) = false := by simp; omega
      have HE := Lib.hid (show esB (some o) = false by rw [esB_some, decide_eq_false h2, Bool.false_and])
      clear h2
      unfold rtV
      go_wp2_with fail
      go_ret
      exact ⟨some o, HR.out, by rw [HE.out]; rfl, HB.out⟩

set_option maxRecDepth 100000 in
theorem implEnds_any (s c : List UInt8) (w : World) (hc : c.length ≤ 4611686018427387904) :
    Calls Try.prog 16 #[.string (tb s), .string (tb c)] w fun e w' => ∃ o, RanT s c o ∧ e = .returned (.bool (esB o)) ∧ Below w.heap.size w w' := by
  have HD := Lib.hid (implRunText_any s c w hc)
  go_enter Try.func16, Try.ntmps16
  go_wp2_with fail
  refine HD.out.mono ?_
  rintro e w1 ⟨o, hr, rfl, hb⟩
  have HR := Lib.hid hr
  have HB := Lib.hid hb
  clear hr hb
  cases o with
  | none =>
    unfold rtV
    go_wp2_with fail
    go_ret
    exact ⟨none, HR.out, rfl, HB.out⟩
  | some o =>
    have hz : (tb o.trace).size = o.trace.length := tb_size _
    by_cases h2 : o.code = 2
    · have g2 : ((o.code : Int) == 2) = true := by simp; omega
      have HE := Lib.hid (show esB (some o) = decide ((o.trace.length : Int) < 60) by rw [esB_some, decide_eq_true h2, Bool.true_and]; exact decide_eq_decide.2 (by omega))
      clear h2
      unfold rtV
      go_wp2_with fail
      go_ret
      exact ⟨some o, HR.out, by rw [HE.out]; rfl, HB.out⟩
    · have g2 : ((o.code : Int) == 2) = false := by simp; omega
      have HE := Lib.hid (show esB (some o) = false by rw [esB_some, decide_eq_false h2, Bool.false_and])
      clear h2
      unfold rtV
      go_wp2_with fail
      go_ret
      exact ⟨some o, HR.out, by rw [HE.out]; rfl, HB.out⟩

end Go.Proofs.Ytgkamcnbpiipoaa
