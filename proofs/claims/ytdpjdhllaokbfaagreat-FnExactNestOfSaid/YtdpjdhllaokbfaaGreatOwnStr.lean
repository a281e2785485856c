/-
  Lists of strings of a call's own; rows below a height.
-/
import Derived.Test.YtdpjdhllaokbfaaGreatBase
import Derived.Test.YtdpjdhllaokbfaaGreatOnly
import Derived.Laws.BytesArg
import Derived.Lib.QuietBelow
import Derived.OwnWalk
import Derived.Deep.AppendLies
import Derived.Deep.RegionLaw
namespace Go.Proofs.YtdpjdhllaokbfaaGreat
open Go.RowKit Go.Sort


/-- A slice that reads as strings. -/
def Strs (w : World) (A : Option Addr) (ps : List ByteArray) : Prop :=
  0 < ps.length → ∃ b off, A = some ⟨b, off, none⟩ ∧ b < w.heap.size ∧ ∀ k (h : k < ps.length), w.cell? ⟨b, off + k, none⟩ = some (.string ps[k])

theorem Strs.below {w w' : World} {A : Option Addr} {ps : List ByteArray} (h : Strs w A ps) (hb : Below w.heap.size w w') : Strs w' A ps := by
  intro hn
  obtain ⟨b, off, rfl, hlt, hc⟩ := h hn
  have := hb.size
  exact ⟨b, off, rfl, by omega, fun k hk => (hb.cell (p := ⟨b, off + k, none⟩) hlt).trans (hc k hk)⟩

theorem info_str : (Tryz.prog.info? 9).map (fun i => (i.zero, i.size, i.bytes)) = some (some (.string ⟨#[]⟩), 1, 16) := by kernel_rfl

theorem own_strs {w : World} {base : Nat} {v : Value} {ps : List ByteArray} (h : w.ownsRow base 9 1 v ps.length (ps.map Value.string)) : ∃ A cap, v = .slice A ps.length cap ∧ Strs w A ps := by
  rcases h.2 with ⟨rfl, hn⟩ | ⟨gb, cap, cur, hv, _, hg, _⟩
  · exact ⟨none, 0, by rw [hn], fun hpos => absurd hpos (by omega)⟩
  · subst hv
    refine ⟨_, _, rfl, fun _ => ⟨gb, 0, rfl, ?_, fun j hj => ?_⟩⟩
    · rcases Nat.lt_or_ge gb w.heap.size with h' | h'
      · exact h'
      · rw [Array.getElem?_eq_none h'] at hg; cases hg
    · have hc := h.cellAt j (by omega)
      rw [List.getElem?_map, List.getElem?_eq_getElem hj] at hc
      rw [Nat.zero_add]; exact hc

/-- A slice of the call's own that holds strings. -/
abbrev OwnStr (w : World) (base : Nat) (v : Value) (ps : List ByteArray) : Prop := w.ownsRow base 9 1 v ps.length (ps.map Value.string)

theorem OwnStr.strs {w : World} {base : Nat} {A : Option Addr} {cap : Nat} {ps : List ByteArray} (h : OwnStr w base (.slice A ps.length cap) ps) : Strs w A ps := by
  obtain ⟨A', cap', he, hs⟩ := own_strs h
  injection he with h1 _ _
  rw [h1]; exact hs

theorem ownRow_below {w w' : World} {base : Nat} {e : TypeId} {size : Nat} {v : Value} {n : Nat} {xs : List Value} (h : w.ownsRow base e size v n xs) (hb : Below w.heap.size w w') : w'.ownsRow base e size v n xs := by
  refine ⟨h.1, ?_⟩
  rcases h.2 with hn | ⟨g, cap, cur, hv, hb2, hg, rest⟩
  · exact .inl hn
  · refine .inr ⟨g, cap, cur, hv, hb2, ?_, rest⟩
    have hlt : g < w.heap.size := by
      rcases Nat.lt_or_ge g w.heap.size with h' | h'
      · exact h'
      · rw [Array.getElem?_eq_none h'] at hg; cases hg
    exact (hb.block g hlt).trans hg

end Go.Proofs.YtdpjdhllaokbfaaGreat
