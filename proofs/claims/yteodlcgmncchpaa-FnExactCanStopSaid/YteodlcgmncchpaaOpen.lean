/-
  A slice of blocks that came in, opened; the end of a law's row: what is returned is true, and what came in reads as it did.
-/
import Derived.Test.YteodlcgmncchpaaRows
import Derived.Test.YteodlcgmncchpaaGr
import Derived.ProofKit
import Derived.Deep.SlicePairs
namespace Go.Proofs.Yteodlcgmncchpaa
open Go.ChangeShapes Go.WideShapes Go.ChangeAt Go.RowKit Go.Deep

theorem own : ownKnob Try.prog.godebug = none := by kernel_rfl
theorem laidOut : laidOutB Try.prog = true := by kernel_rfl
theorem cellsBlock : Try.prog.cellsOf 51 = 2 := by kernel_rfl
theorem cellsString : Try.prog.cellsOf 9 = 1 := by kernel_rfl

set_option maxRecDepth 100000 in
/-- A slice-of-blocks argument. -/
theorem open_blocks {H : Type} {enc : TypeId × Value → H} {W : World} {r : Reach} {b0 : Nat} {v : Value} {d : DataW H} {ps : List MemPlace}
    (hval : Value.okWide Try.prog W r b0 22 v) (h : DataW.Trod enc Try.prog W 0 (fun _ => true) true 22 v d ps) (hlt : ∀ x ∈ ps, x.block < W.heap.size) :
    ∃ (A : Option Addr) (cap : Nat) (g : List Bl), v = .slice A g.length cap ∧ g.length ≤ cap ∧ g.length ≤ maxLen ∧ Gr W A g ∧ ∀ b ∈ g, b.1.size ≤ maxLen ∧ b.2.size ≤ maxLen := by
  obtain ⟨a0, len, cap, rfl⟩ := okWide_slice Try.underlying22 hval
  obtain ⟨fuel, hf⟩ := h
  rcases open_slice_pairs Try.underlying22 Try.underlying51 cellsBlock rfl rfl cellsString cellsString hf with ⟨hcs, _⟩ | ⟨a, len', cap', m, n, V0, V1, D0, D1, P0, P1, hcs, _, hl, hm, hmm, hx, hall⟩
  · simp [Value.cells] at hcs
    obtain ⟨rfl, rfl, rfl⟩ := hcs
    exact ⟨none, 0, [], rfl, Nat.le_refl _, Nat.zero_le _, Gr.nil _ _, by simp⟩
  · simp [Value.cells] at hcs
    obtain ⟨rfl, rfl, rfl⟩ := hcs
    simp only [if_true] at hmm
    subst hmm
    have each : ∀ i, i < len → ∃ q : Bl, W.cell? (a.add (i * 2)) = some (.string q.1) ∧ W.cell? (a.add (i * 2 + 1)) = some (.string q.2) ∧ q.1.size ≤ maxLen ∧ q.2.size ≤ maxLen := by
      intro i hi
      obtain ⟨e0, e1, t0, t1⟩ := hall i (by omega)
      obtain ⟨s, hs, _, hs2⟩ := DataW.trod_string Try.underlying9 t0
      obtain ⟨t, ht, _, ht2⟩ := DataW.trod_string Try.underlying9 t1
      simp only [List.cons.injEq, and_true] at hs ht
      exact ⟨(s, t), by rw [e0, hs], by rw [e1, ht], hs2, ht2⟩
    obtain ⟨q, hq⟩ := choose_lt each
    refine ⟨some a, m, (List.range len).map q, by simp, by simpa using hl, by simp; omega, fun hn => ?_, ?_⟩
    · have hn' : 0 < len := by simpa using hn
      obtain ⟨b, off, spot⟩ := a
      have hspot : spot = none := by simpa [Addr.add] using World.cell?_spot (hq 0 hn').1
      subst hspot
      have hbW : b < W.heap.size := by
        have hx2 := (Prod.mk.inj hx).2
        have : MemPlace.cell b off ∈ ps := by
          rw [hx2]
          exact List.mem_append_left _ (MemPlace.mem_row.2 ⟨0, by omega, by simp⟩)
        exact hlt _ this
      refine ⟨b, off, rfl, hbW, fun k hk => ?_⟩
      have hk' : k < len := by simpa using hk
      have := hq k hk'
      rw [add_plain, add_plain] at this
      simp only [List.getElem_map, List.getElem_range]
      exact ⟨this.1, by rw [Nat.add_assoc]; exact this.2.1⟩
    · intro x hx'
      obtain ⟨i, hi, rfl⟩ := List.mem_map.1 hx'
      exact (hq i (List.mem_range.1 hi)).2.2
end Go.Proofs.Yteodlcgmncchpaa
