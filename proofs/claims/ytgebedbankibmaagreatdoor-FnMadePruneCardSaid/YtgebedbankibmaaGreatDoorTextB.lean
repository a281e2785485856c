/-
  The program's TextValid.
-/
import Derived.Test.YtgebedbankibmaaGreatDoorItemsOf
import Derived.Test.YtgebedbankibmaaGreatDoorMRead
namespace Go.Proofs.YtgebedbankibmaaGreatDoor
open Go.RowKit Go.Sort

set_option maxRecDepth 100000 in
theorem implTextValid_any (s : List UInt8) (w : World) :
    Calls Tryz.prog 57 #[.string (tb s)] w fun e w' => ((∃ l, textOk s l) ∧ e = .returned (.bool true) ∨ (∀ l, ¬ textOk s l) ∧ e = .returned (.bool false)) ∧ Below w.heap.size w w' := by
  have HC := Lib.hid (itemsOf_any s w)
  go_enter Tryz.func57, Tryz.ntmps57
  go_wp2_with fail
  refine HC.out.mono ?_
  rintro e w1 (⟨l, v, hl, rfl, _, _, b1⟩ | ⟨hno, rfl, b1⟩)
  · have HL := Lib.hid hl
    have HB := Lib.hid b1
    clear hl b1
    go_wp2_with fail
    go_ret
    exact ⟨.inl ⟨⟨l, HL.out⟩, rfl⟩, HB.out⟩
  · have HN := Lib.hid hno
    have HB := Lib.hid b1
    clear hno b1
    go_wp2_with fail
    go_ret
    exact ⟨.inr ⟨HN.out, rfl⟩, HB.out⟩
end Go.Proofs.YtgebedbankibmaaGreatDoor

/-
  Is it a text with frames? TextValid of both, by one truth.
-/
namespace Go.Proofs.YtgebedbankibmaaGreatDoor
open Go.RowKit Go.Sort

open Classical in
/-- Whether a text is one with frames. -/
noncomputable def textB (s : List UInt8) : Bool := if ∃ l, textOk s l then true else false
theorem textB_yes {s : List UInt8} (h : ∃ l, textOk s l) : textB s = true := if_pos h
theorem textB_no {s : List UInt8} (h : ∀ l, ¬ textOk s l) : textB s = false := if_neg (fun ⟨l, hl⟩ => h l hl)
theorem specValid_text (s : ByteArray) (w : World) (hs : s.size ≤ 1048576) :
    Calls Tryz.prog 69 #[.string s] w fun e w' => e = .returned (.bool (textB s.data.toList)) ∧ Below w.heap.size w w' := by
  have h := specTextValid_any s.data.toList w (by simpa using hs)
  rw [tb_of] at h
  refine h.mono ?_
  rintro e w' ⟨⟨hl, rfl⟩ | ⟨hl, rfl⟩, hb⟩
  · exact ⟨by rw [textB_yes hl], hb⟩
  · exact ⟨by rw [textB_no hl], hb⟩
theorem implValid_text (s : ByteArray) (w : World) :
    Calls Tryz.prog 57 #[.string s] w fun e w' => e = .returned (.bool (textB s.data.toList)) ∧ Below w.heap.size w w' := by
  have h := implTextValid_any s.data.toList w
  rw [tb_of] at h
  refine h.mono ?_
  rintro e w' ⟨⟨hl, rfl⟩ | ⟨hl, rfl⟩, hb⟩
  · exact ⟨by rw [textB_yes hl], hb⟩
  · exact ⟨by rw [textB_no hl], hb⟩
end Go.Proofs.YtgebedbankibmaaGreatDoor
