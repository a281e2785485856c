import Derived.Test.YtlkfakdghjaoaaaGreatDoorRunText
set_option maxRecDepth 100000
namespace Go.Proofs.YtlkfakdghjaoaaaGreatDoor
open Go.RowKit Go.Sort
attribute [local go_sem] Oper.semAt_some
theorem we (o : ROut) : wl (some o) = (decide (o.code = 2) && decide (o.trace.length < 60)) := rfl
theorem wg (s c : List UInt8) (w : World) (hc : c.length ≤ 4611686018427387904) :
  Calls Tryz.prog 49 #[.string (tb s), .string (tb c)] w fun e w' => ∃ o, RanT s c o ∧ e = .returned (.bool (wl o)) ∧ Below w.heap.size w w' := by
 have HD := GR (kM s c w hc)
 go_enter Tryz.func49, Tryz.ntmps49
 go_wp2_with fail
 refine HD.out.mono ?_
 rintro e w1 ⟨o, hr, rfl, hb⟩
 have HR := GR hr
 have HB := GR hb
 clear hr hb
 cases o with
 | none =>
  unfold n7
  go_wp2_with fail
  go_ret
  exact ⟨none, HR.out, rfl, HB.out⟩
 | some o =>
  have hz : (tb o.trace).size = o.trace.length := aB _
  by_cases h2 : o.code = 2
  ·have g2 : ((o.code : Int) == 2) = true := by simp; omega
   have HE := GR (show wl (some o) = decide ((o.trace.length : Int) < 60) by rw [we, decide_eq_true h2, Bool.true_and]; exact decide_eq_decide.2 (by omega))
   clear h2
   unfold n7
   go_wp2_with fail
   go_ret
   exact ⟨some o, HR.out, by rw [HE.out]; rfl, HB.out⟩
  ·have g2 : ((o.code : Int) == 2) = false := by simp; omega
   have HE := GR (show wl (some o) = false by rw [we, decide_eq_false h2, Bool.false_and])
   clear h2
   unfold n7
   go_wp2_with fail
   go_ret
   exact ⟨some o, HR.out, by rw [HE.out]; rfl, HB.out⟩
end Go.Proofs.YtlkfakdghjaoaaaGreatDoor
