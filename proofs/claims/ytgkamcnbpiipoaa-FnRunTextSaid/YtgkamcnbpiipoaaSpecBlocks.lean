/-
  The blocks of a text: one value for both, and what is known of it.
-/
import Derived.Test.YtgkamcnbpiipoaaTextB
import Derived.Test.YtgkamcnbpiipoaaSpecEach
import Derived.Test.YtgkamcnbpiipoaaSpecFar
namespace Go.Proofs.Ytgkamcnbpiipoaa
open Go.RowKit Go.Sort

open Classical in
/-- The blocks of a text, in order; none if it is no text. -/
noncomputable def blocksV (s : List UInt8) : List UInt8 := if h : ∃ l, textOk s l then blL h.choose else []
theorem blocksV_yes {s : List UInt8} {l : List It} (h : textOk s l) : blocksV s = blL l := by
  have k : ∃ l, textOk s l := ⟨l, h⟩
  unfold blocksV
  rw [dif_pos k, textOk_uniq k.choose_spec h]
theorem blocksV_no {s : List UInt8} (h : ∀ l, ¬ textOk s l) : blocksV s = [] := dif_neg fun ⟨l, hl⟩ => h l hl

theorem nm_le (i : It) : (nmI i).length ≤ 1 := by cases i <;> simp [nmI]
theorem nm_flat_le (l : List It) : (l.flatMap nmI).length ≤ l.length := by
  induction l with
  | nil => simp
  | cons i l ih => rw [List.flatMap_cons, List.length_append, List.length_cons]; have := nm_le i; omega
theorem bl_flL (l : List It) : (flL l).flatMap nmI = blL l := by
  have h := bl_evL l 0
  rw [← h]; unfold flL; rw [List.flatMap_map]
theorem name_nm (i : It) : nameI i = nmI i := by cases i <;> rfl
theorem flat_step {l : List It} {j : Nat} (h : j < l.length) : (l.take (j + 1)).flatMap nmI = (l.take j).flatMap nmI ++ nmI l[j] := by
  rw [List.take_succ_eq_append_getElem h, List.flatMap_append]; simp
theorem tb_append (a b : List UInt8) : tb a ++ tb b = tb (a ++ b) := by
  apply ba_ext
  rw [ByteArray.data_append, Array.toList_append, tb_data, tb_data, tb_data]
theorem blV_len {s : List UInt8} : (blocksV s).length ≤ 200 := by
  by_cases h : ∃ l, textOk s l
  · obtain ⟨l, hl⟩ := h
    rw [blocksV_yes hl, ← bl_flL]
    have h1 := nm_flat_le (flL l)
    have h2 := flL_length l
    have h3 := hl.1
    rw [hl.2.2] at h3
    omega
  · rw [blocksV_no fun l hl => h ⟨l, hl⟩]; simp
end Go.Proofs.Ytgkamcnbpiipoaa

/-
  BlocksIn of the model.
-/
namespace Go.Proofs.Ytgkamcnbpiipoaa
open Go.RowKit Go.Sort
attribute [local go_sem] Oper.semAt_some

theorem ret_tb {a b : List UInt8} {x y : Bool} (h : a = b) (k : x = y) : Ending.returned (.tuple #[.string (tb a), .bool x]) = .returned (.tuple #[.string (tb b), .bool y]) := by rw [h, k]

/-- What BlocksIn returns. -/
def BlocksPost (s : List UInt8) (w : World) (e : Ending) (w' : World) : Prop :=
  e = .returned (.tuple #[.string (tb (blocksV s)), .bool (textB s)]) ∧ Below w.heap.size w w'

end Go.Proofs.Ytgkamcnbpiipoaa
