/-
  The model's TextValid.
-/
import Derived.Test.YtelhogeaobofpaaMRead
namespace Go.Proofs.Ytelhogeaobofpaa
open Go.RowKit Go.Sort

set_option maxRecDepth 100000 in
theorem specTextValid_any (s : List UInt8) (w : World) (hs : s.length ≤ 1048576) :
    Calls Try.prog 34 #[.string (tb s)] w fun e w' => ((∃ l, textOk s l) ∧ e = .returned (.bool true) ∨ (∀ l, ¬ textOk s l) ∧ e = .returned (.bool false)) ∧ Below w.heap.size w w' := by
  have HC := Lib.hid (l5Read_any s w hs)
  go_enter Try.func34, Try.ntmps34
  go_wp2_with fail
  refine HC.out.mono ?_
  rintro e w1 (⟨l, A, n, k, hl, rfl, _, b1⟩ | ⟨hno, A, k, rfl, b1⟩)
  · have HL := Lib.hid hl
    have HB := Lib.hid b1
    clear hl b1
    go_wp2_with fail
    go_ret
    exact ⟨.inl ⟨⟨l, HL.out⟩, rfl⟩, HB.out⟩
  · have HN := Lib.hid hno
    have HB := Lib.hid b1
    clear hno b1
    go_wp2_with fail
    go_ret
    exact ⟨.inr ⟨HN.out, rfl⟩, HB.out⟩
end Go.Proofs.Ytelhogeaobofpaa
