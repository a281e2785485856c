/-
  FramesIn of both.
-/
import Derived.Test.YtgkamcnbpiipoaaEvery
import Derived.Test.YtgkamcnbpiipoaaSpecFrames
import Derived.Test.YtgkamcnbpiipoaaTextB
namespace Go.Proofs.Ytgkamcnbpiipoaa
open Go.RowKit Go.Sort
attribute [local go_sem] Oper.semAt_some

open Classical in
/-- How many frames lie within each other; -1 if it is no text. -/
noncomputable def framesZ (s : List UInt8) : Int := if h : ∃ l, textOk s l then (dpL h.choose : Int) else -1
theorem framesZ_yes {s : List UInt8} {l : List It} (h : textOk s l) : framesZ s = (dpL l : Int) := by
  have k : ∃ l, textOk s l := ⟨l, h⟩
  unfold framesZ
  rw [dif_pos k, textOk_uniq k.choose_spec h]
theorem framesZ_no {s : List UInt8} (h : ∀ l, ¬ textOk s l) : framesZ s = -1 := dif_neg fun ⟨l, hl⟩ => h l hl

theorem mostF_le {α : Type} (p : α → Nat) : ∀ (l : List α) (m : Nat), m ≤ mostF p m l
  | [], m => Nat.le_refl _
  | x :: l, m => by rw [mostF_cons]; exact Nat.le_trans (Nat.le_max_left _ _) (mostF_le p l _)
theorem mostF_mem {α : Type} (p : α → Nat) : ∀ (l : List α) (m : Nat) (x : α), x ∈ l → p x ≤ mostF p m l
  | y :: l, m, x, h => by
    rw [mostF_cons]
    rcases List.mem_cons.1 h with rfl | h
    · exact Nat.le_trans (Nat.le_max_right _ _) (mostF_le p l _)
    · exact mostF_mem p l _ x h


theorem below_putD {w W : World} {B D : Nat} (h : Below B w W) (hD : B ≤ D) (o : Obj) : Below B w (W.putObj D o) :=
  ⟨h.os, h.tape, h.output, by simpa using h.size, fun k hk => (World.putObj_heap_other (by omega)).trans (h.block k hk)⟩

end Go.Proofs.Ytgkamcnbpiipoaa
