import Derived.Test.YteodlcgmncchpaaDoorRows
import Derived.Test.YteodlcgmncchpaaDoorNameOf
import Derived.Laws.IdiomArrays
import Derived.ProofKit
import Derived.LaidMore
import Derived.OpenShut
import Derived.Stop.Joined
/-! What the row's condition gives: the three cells of endNames. -/
namespace Go.Proofs.YteodlcgmncchpaaDoor
open Go Go.ChangeShapes Go.WideShapes Go.ChangeAt Go.WideElems Go.RowKit

theorem ownKnob0 : ownKnob Tryd.prog.godebug = none := by kernel_rfl
theorem gEnd : Tryd.prog.globalNamed "loop.example/structuredjumps/impl.endNames" = some 0 := by kernel_rfl
theorem tEnd : (Tryd.prog.globals[0]?).map (·.type) = some 38 := by kernel_rfl
theorem cells38 : Tryd.prog.cellsOf 38 = 3 := by kernel_rfl
theorem cells9 : Tryd.prog.cellsOf 9 = 1 := by kernel_rfl

def endCells : Array Value := #[.string wStop, .string wAsk, .string wLong]

abbrev endH {H : Type} : DataW H := Rows.laid_loop_example_structuredjumps_impl_endNames

theorem word_of {H : Type} {enc : TypeId × Value → H} {W : World} {base : Nat} {sp : Nat → Bool} {held : Bool} {fuel : Nat} {c : Value} {y : DataW H × List MemPlace} {bs : List UInt8}
    (h : DataW.trod enc Tryd.prog W base sp held fuel 9 [c] = some y) (hy : y.1 = .lit (.string bs)) : c = .string ⟨bs.toArray⟩ := by
  obtain ⟨s, hc, rfl, _⟩ := DataW.trod_string Tryd.underlying9 h
  simp only [DataW.lit.injEq, Lit.string.injEq] at hy
  simp only [List.cons.injEq, and_true] at hc
  subst hc
  subst hy
  rfl

theorem cells_of_laid {W : World} (h : laidMetH Tryd.prog [("loop.example/structuredjumps/impl.endNames", Rows.laid_loop_example_structuredjumps_impl_endNames)] W) :
    W.var? Tryd.prog "loop.example/structuredjumps/impl.endNames" = some endCells := by
  rw [MakeChecks.laidMetH_plain _ _ _ (by kernel_rfl)] at h
  obtain ⟨ps, ⟨g, t, cs, fuel, p, q, hg, ht, hvar, hd, _, _⟩, _⟩ := h
  obtain rfl := Option.some.inj (gEnd.symm.trans hg)
  obtain rfl := Option.some.inj (tEnd.symm.trans ht)
  rw [hvar]
  congr 1
  obtain ⟨l⟩ := cs
  have hl : l.length = 3 := by
    obtain ⟨xs, n, hx, _, hlen, _⟩ := DataW.trod_array Tryd.underlying38 hd
    simpa [cells38, cells9] using hlen
  match l, hl, hd with
  | [c0, c1, c2], _, hd =>
    obtain ⟨y0, y1, y2, n, hx, h0, h1, h2⟩ := trod_array3 Tryd.underlying38 cells9 hd
    simp only [Rows.laid_loop_example_structuredjumps_impl_endNames, Prod.mk.injEq, DataW.agg.injEq, List.cons.injEq, and_true] at hx
    obtain ⟨⟨e0, e1, e2⟩, _⟩ := hx
    rw [word_of h0 e0.symm, word_of h1 e1.symm, word_of h2 e2.symm]
    rfl

theorem reads_end {H : Type} (enc : TypeId × Value → H) (W : World) (sp : Nat → Bool) : DataW.trod enc Tryd.prog W 0 sp true 3 38 endCells.toList = some (endH, []) := by kernel_rfl

/-- The door's own heap meets the condition. -/
theorem door_met (os : Os) (args : Array Value) : laidMetH Tryd.prog [("loop.example/structuredjumps/impl.endNames", Rows.laid_loop_example_structuredjumps_impl_endNames)] ((World.doorLaid Tryd.prog 14 os).forCall (fun _ _ => 0) ⟨#[], args, []⟩).memory :=
  laidMetH_of_parts3 (fuel := 8) (laidMet_of_run' 8 (by kernel_rfl) (by kernel_rfl)) (by kernel_rfl) (by kernel_rfl)
end Go.Proofs.YteodlcgmncchpaaDoor
