/-
  Is it a text with frames? TextValid of both, by one truth.
-/
import Derived.Test.YtelhogeaobofpaaSpecTextValid
import Derived.Test.YtelhogeaobofpaaTextValid
namespace Go.Proofs.Ytelhogeaobofpaa
open Go.RowKit Go.Sort

open Classical in
/-- Whether a text is one with frames. -/
noncomputable def textB (s : List UInt8) : Bool := if ∃ l, textOk s l then true else false
theorem textB_yes {s : List UInt8} (h : ∃ l, textOk s l) : textB s = true := if_pos h
theorem textB_no {s : List UInt8} (h : ∀ l, ¬ textOk s l) : textB s = false := if_neg (fun ⟨l, hl⟩ => h l hl)
theorem textB_get {s : List UInt8} (h : textB s = true) : ∃ l, textOk s l := by
  by_cases k : ∃ l, textOk s l
  · exact k
  · rw [textB_no fun l hl => k ⟨l, hl⟩] at h; cases h
theorem textB_not {s : List UInt8} (h : textB s = false) : ∀ l, ¬ textOk s l := fun l hl => by rw [textB_yes ⟨l, hl⟩] at h; cases h

theorem specValid_text (s : ByteArray) (w : World) (hs : s.size ≤ 1048576) :
    Calls Try.prog 34 #[.string s] w fun e w' => e = .returned (.bool (textB s.data.toList)) ∧ Below w.heap.size w w' := by
  have h := specTextValid_any s.data.toList w (by simpa using hs)
  rw [tb_of] at h
  refine h.mono ?_
  rintro e w' ⟨⟨hl, rfl⟩ | ⟨hl, rfl⟩, hb⟩
  · exact ⟨by rw [textB_yes hl], hb⟩
  · exact ⟨by rw [textB_no hl], hb⟩
theorem implValid_text (s : ByteArray) (w : World) :
    Calls Try.prog 30 #[.string s] w fun e w' => e = .returned (.bool (textB s.data.toList)) ∧ Below w.heap.size w w' := by
  have h := implTextValid_any s.data.toList w
  rw [tb_of] at h
  refine h.mono ?_
  rintro e w' ⟨⟨hl, rfl⟩ | ⟨hl, rfl⟩, hb⟩
  · exact ⟨by rw [textB_yes hl], hb⟩
  · exact ⟨by rw [textB_no hl], hb⟩
end Go.Proofs.Ytelhogeaobofpaa
