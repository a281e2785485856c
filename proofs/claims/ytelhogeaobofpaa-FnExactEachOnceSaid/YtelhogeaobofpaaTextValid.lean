/-
  The program's TextValid.
-/
import Derived.Test.YtelhogeaobofpaaItemsOf
namespace Go.Proofs.Ytelhogeaobofpaa
open Go.RowKit Go.Sort

set_option maxRecDepth 100000 in
theorem implTextValid_any (s : List UInt8) (w : World) :
    Calls Try.prog 30 #[.string (tb s)] w fun e w' => ((∃ l, textOk s l) ∧ e = .returned (.bool true) ∨ (∀ l, ¬ textOk s l) ∧ e = .returned (.bool false)) ∧ Below w.heap.size w w' := by
  have HC := Lib.hid (itemsOf_any s w)
  go_enter Try.func30, Try.ntmps30
  go_wp2_with fail
  refine HC.out.mono ?_
  rintro e w1 (⟨l, v, hl, rfl, _, _, b1⟩ | ⟨hno, rfl, b1⟩)
  · have HL := Lib.hid hl
    have HB := Lib.hid b1
    clear hl b1
    go_wp2_with fail
    go_ret
    exact ⟨.inl ⟨⟨l, HL.out⟩, rfl⟩, HB.out⟩
  · have HN := Lib.hid hno
    have HB := Lib.hid b1
    clear hno b1
    go_wp2_with fail
    go_ret
    exact ⟨.inr ⟨HN.out, rfl⟩, HB.out⟩
end Go.Proofs.Ytelhogeaobofpaa
