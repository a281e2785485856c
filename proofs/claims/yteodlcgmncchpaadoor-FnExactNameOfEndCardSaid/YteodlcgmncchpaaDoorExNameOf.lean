import Derived.Test.YteodlcgmncchpaaDoorLaid
import Derived.Test.YteodlcgmncchpaaDoorCards
import Derived.Test.YteodlcgmncchpaaDoorTie
import Derived.SevenTiedAt
/-! The row of NameOfEnd's exact law, and its tied card. -/
namespace Go.Proofs.YteodlcgmncchpaaDoor
open Go Go.ChangeShapes Go.WideShapes Go.ChangeAt Go.WideElems Go.RowKit

abbrev endLaid : List (String × DataW Unit) := [("loop.example/structuredjumps/impl.endNames", Rows.laid_loop_example_structuredjumps_impl_endNames)]

set_option maxRecDepth 100000 in
theorem exNameOf_lifted (os : Os) (started : os.Started) (H : Type) (enc : TypeId × Value → H) :
    ReturnsInHanded {} Tryd.checked os 3 .any (fun w args => (Rows.fnExactNameOfEndSpec.pre enc Tryd.prog Tryd.f3 [] false w args ∧ laidMetH Tryd.prog endLaid w) ∧ sizedMet enc Tryd.prog Tryd.f3 (OpenSpec.ofChange Rows.fnExactNameOfEndSpec) false w args)
      (Rows.fnExactNameOfEndSpec.post enc Tryd.prog Tryd.f3 false true false false) := by
  refine returnsInHanded_of_change_and (C := Tryd.checked) (X := fun w _ => laidMetH Tryd.prog endLaid w) (fun _ _ _ hh h => h.of_heap hh) ownKnob0 started (by kernel_rfl) Tryd.func3
    (ChangeSpec.witness_shaped (enc := enc) (C := Tryd.checked) (os := os) (X := fun w _ => laidMetH Tryd.prog endLaid w) false (World.doorLaid Tryd.prog 14 os) #[.int .i64 0] 8 rfl (World.shaped_of_RefB (by kernel_rfl) (by kernel_rfl)) (by kernel_rfl) (by kernel_rfl) (by kernel_rfl) (door_met os _)) ?_
  intro W base args ds gs before hval0 hW _ _ hL _
  have hval : ∀ (j : Nat) t v, Tryd.f3.params[j]? = some t → args[j]? = some v → Value.okWide Tryd.prog W .any base t v := hval0
  have hW' := hW
  obtain ⟨p, q, hA0, hV0, rfl, hfz, hnd⟩ := hW
  have hA : DataW.TrodAll enc Tryd.prog W 0 (fun _ => true) true Tryd.f3.params.toList args.toList ds p := hA0
  have hV : DataW.TrodVars enc Tryd.prog W (fun _ => true) ["loop.example/structuredjumps/impl.endNames"] gs q := hV0
  rw [Tryd.params3] at hA hval
  obtain ⟨v0, d0, rfl, rfl, h0⟩ := trodAll_one hA
  obtain ⟨n, rfl, rfl, rfl, wn⟩ := open_int Tryd.underlying3 (hval 0 3 v0 rfl rfl) h0
  obtain ⟨g, t, cs, fuel, d, p', rfl, hg, ht, hvar, hd, rfl⟩ := trodVars_one hV
  obtain rfl := Option.some.inj (gEnd.symm.trans hg)
  obtain rfl := Option.some.inj (tEnd.symm.trans ht)
  obtain rfl : cs = endCells := Option.some.inj (hvar.symm.trans (cells_of_laid hL))
  obtain ⟨rfl, rfl⟩ := DataW.Trod.unique (v := .agg endCells) ⟨fuel, hd⟩ ⟨3, reads_end enc W _⟩
  clear hA0 hV0 hval0
  have hvars : ∀ sp : Nat → Bool, DataW.TrodVars enc Tryd.prog W sp ["loop.example/structuredjumps/impl.endNames"] [endH] (MemPlace.row ⟨0, 0, none⟩ endCells.size ++ [] ++ []) := fun sp =>
    ⟨0, 38, endCells, 3, [], [], hg, ht, hvar, reads_end enc W sp, rfl, rfl⟩
  have c0 : W.cell? ⟨0, 0, none⟩ = some (.string wStop) := World.var?_cell hg hvar 0
  have c1 : W.cell? ⟨0, 1, none⟩ = some (.string wAsk) := World.var?_cell hg hvar 1
  have c2 : W.cell? ⟨0, 2, none⟩ = some (.string wLong) := World.var?_cell hg hvar 2
  refine (nameLaw_any n W c0 c1 c2).mono fun e W' ⟨he, hw⟩ => ?_
  subst he; subst hw
  exact ⟨_, rfl, post_of_same (pa := []) hW' (fun _ _ _ => trodAll_mk1 (shut_bool Tryd.underlying4 true)) (fun sp _ => trodAll_mk1 (shut_int Tryd.underlying3 wn)) (fun sp _ => hvars sp) (by simp)
    (World.keptBut_refl _ _) (fun _ => rfl) (ok_one (by kernel_rfl) rfl (okWide_bool_mk Tryd.underlying4 _))⟩

theorem exNameOf_row : Rows.FnExactNameOfEndSaid :=
  OpenClaim.holds_of_wide 3 Tryd.f3 rfl rfl rfl rfl rfl rfl rfl ⟨rfl, rfl, rfl, rfl, rfl⟩ rfl rfl rfl rfl rfl (by kernel_rfl) Tryd.func3 (by kernel_rfl)
    (of_decide_eq_true (by kernel_rfl)) (by unfold Func.isWrapper; first | (rw [if_pos (by decide +kernel)]; kernel_rfl) | (rw [if_neg (by decide +kernel)]; exact ⟨rfl, rfl⟩))
    (fun os started H enc _ => exNameOf_lifted os started H enc)

theorem exNameOf_holds : Rows.FnExactNameOfEndCardSaid :=
  Claim7.holds_tied_plain_at .later [] [.data] true (true, "d2f7497799d9e5f403412336e3e379e7b14c22845b9a38b428a9f4711b4a1bb0") true
    exNameOf_row (fun _ h => by cases h) (by kernel_rfl) (fun _ h => by cases h) fnExactNameOfEnd_row_tie rfl ⟨rfl, rfl⟩ (by kernel_rfl) rfl
    (fun f fn hf hfn => by
      obtain rfl : f = 3 := Option.some.inj ((show Tryd.prog.funcNamed "loop.example/structuredjumps/laws.FnExactNameOfEnd" = some 3 by kernel_rfl).symm.trans hf) |>.symm
      obtain rfl : fn = Tryd.f3 := (Option.some.inj (Tryd.func3.symm.trans hfn)).symm
      exact ⟨by kernel_rfl, fun j t ht => by
        rw [Tryd.params3] at ht
        have hm : t ∈ [3] := by simpa using Array.mem_of_getElem? ht
        have hall : ([3].all fun u => !Tryd.prog.wantsStandIn u) = true := by kernel_rfl
        exact (show Tryd.prog.wantsStandIn t = false by simpa using List.all_eq_true.1 hall t hm)⟩)
    (by kernel_rfl)
end Go.Proofs.YteodlcgmncchpaaDoor
