/-
  Contracts of the laws' eqStringS, markStringS and heldStringS; lists of strings of a call's own.
-/
import Derived.Test.YtdpjdhllaokbfaaGreatMark
import Derived.Test.YtdpjdhllaokbfaaGreatValids
namespace Go.Proofs.YtdpjdhllaokbfaaGreat
open Go.RowKit Go.Sort


theorem OwnGr.below' {w w' : World} {B : Nat} {g : List Bl} (h : OwnGr w B g) (hb : Below w.heap.size w w') : OwnGr w' B g := by
  obtain ⟨cs, t, hk, hc⟩ := h
  exact ⟨cs, t, hk.below hb hk.lt, hc⟩
theorem OwnGr.lt' {w : World} {B : Nat} {g : List Bl} (h : OwnGr w B g) : B < w.heap.size := by
  obtain ⟨cs, t, hk, hc⟩ := h
  exact hk.lt
theorem OwnGr.mark {w : World} {B : Nat} {g : List Bl} (h : OwnGr w B g) (hl : g.length ≤ 1048576) :
    Calls Tryz.prog 17 #[.slice (some ⟨B, 0, none⟩) g.length g.length, .int .i64 1] w (MarkPost B 1 (g.length * 2) w) := by
  obtain ⟨cs, t, hk, hc⟩ := h
  refine mark_any' B g.length t cs w hk ?_ hl
  by_cases h0 : g.length = 0
  · omega
  · obtain ⟨_, h2⟩ := hc (g.length - 1) (by omega)
    rcases Nat.lt_or_ge ((g.length - 1) * 2 + 1) cs.size with h | h
    · omega
    · rw [Array.getElem?_eq_none h] at h2; cases h2

end Go.Proofs.YtdpjdhllaokbfaaGreat
