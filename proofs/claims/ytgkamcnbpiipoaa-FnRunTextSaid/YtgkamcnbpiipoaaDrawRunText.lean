/-
  Contracts of the model's DrawRunText, DrawNumberIn.
-/
import Derived.Test.YtgkamcnbpiipoaaDrawAny
import Derived.Test.YtgkamcnbpiipoaaDrawCh
namespace Go.Proofs.Ytgkamcnbpiipoaa
open Go.RowKit Go.Sort

/-- Some text and choices. -/
def DrawnTC (w : World) (e : Ending) (w' : World) : Prop := ∃ s t : ByteArray, e = .returned (.tuple #[.string s, .string t]) ∧ s.size ≤ 202 ∧ t.size ≤ 100 ∧ Below w.heap.size w w'

set_option maxRecDepth 100000 in
theorem drawRunText_any (A : Option Addr) (len cap : Nat) (w : World) (hb : Bytes w A len) (hlc : len ≤ cap) (hl : cap ≤ 9223372036854775807) :
    Calls Try.prog 10 #[.slice A len cap] w (DrawnTC w) := by
  have HC := Lib.hid (open_any A len cap w hb hlc hl)
  clear hb
  go_enter Try.func10, Try.ntmps10
  go_wp2_with fail
  refine HC.out.mono ?_
  rintro e w1 ⟨A', len', cap', rfl, hrd, b1⟩
  have HB := Lib.hid b1
  have HA := Lib.hid (any5_any w.heap.size A' len' cap' 0 w1 hrd (by omega))
  clear hrd b1
  go_wp2_with fail
  refine HA.out.mono ?_
  rintro e w2 ⟨s, q, rfl, hs, ho, hr, hq⟩
  have HB2 := Lib.hid (Only.below HB.out ho)
  have HCH := Lib.hid (l2Choices_any w.heap.size A' len' cap' q w2 hr (by omega))
  clear ho hr
  go_wp2_with fail
  refine HCH.out.mono ?_
  rintro e w3 ⟨t, q3, rfl, ht, ho3, _, _⟩
  have HB3 := Lib.hid (Only.below HB2.out ho3)
  clear ho3
  go_wp2_with fail
  exact bodyPost_ret (v := .tuple #[.string s, .string t]) (by simp [results, Try.results10, go_sem]) rfl ⟨s, t, rfl, hs, ht, HB3.out⟩

end Go.Proofs.Ytgkamcnbpiipoaa
