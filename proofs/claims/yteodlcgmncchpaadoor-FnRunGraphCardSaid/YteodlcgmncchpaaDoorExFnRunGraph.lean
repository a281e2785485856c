/-
  Proved: the law FnRunGraph returns true for all bytes and leaves them as they were, with the three words as the program's text lays them: row and tied card.
-/
import Derived.Test.YteodlcgmncchpaaDoorFnRunGraph
import Derived.Test.YteodlcgmncchpaaDoorLaid
import Derived.Test.YteodlcgmncchpaaDoorLaw
import Derived.Test.YteodlcgmncchpaaDoorCards
import Derived.Test.YteodlcgmncchpaaDoorTie
import Derived.SevenTiedAt
import Derived.WalkSmall
namespace Go.Proofs.YteodlcgmncchpaaDoor
open Go.ChangeShapes Go.WideShapes Go.ChangeAt Go.RowKit Go.Deep

abbrev wordsLaid : List (String × DataW Unit) := [("loop.example/structuredjumps/impl.endNames", Rows.laid_loop_example_structuredjumps_impl_endNames)]

set_option maxRecDepth 100000 in
theorem fnRunGraph_lifted (os : Os) (started : os.Started) (H : Type) (enc : TypeId × Value → H) :
    ReturnsInHanded {} Tryd.checked os 4 .any (fun w args => (Rows.fnRunGraphSpec.pre enc Tryd.prog Tryd.f4 [] false w args ∧ laidMetH Tryd.prog wordsLaid w) ∧ sizedMet enc Tryd.prog Tryd.f4 (OpenSpec.ofChange Rows.fnRunGraphSpec) false w args)
      (Rows.fnRunGraphSpec.post enc Tryd.prog Tryd.f4 false true false false) := by
  refine returnsInHanded_of_change_and (C := Tryd.checked) (X := fun w _ => laidMetH Tryd.prog wordsLaid w) (fun _ _ _ hh h => h.of_heap hh) ownKnob0 started (by kernel_rfl) Tryd.func4
    (ChangeSpec.witness_shaped (enc := enc) (C := Tryd.checked) (os := os) (X := fun w _ => laidMetH Tryd.prog wordsLaid w) false (World.doorLaid Tryd.prog 14 os) #[.slice none 0 0, .slice none 0 0] 8 rfl (World.shaped_of_RefB (by kernel_rfl) (by kernel_rfl)) (by kernel_rfl) (by kernel_rfl) (by kernel_rfl) (door_met os _)) ?_
  intro W base args ds gs before hval0 hW _ _ hL _
  have hval : ∀ (j : Nat) t v, Tryd.f4.params[j]? = some t → args[j]? = some v → Value.okWide Tryd.prog W .any base t v := hval0
  have hW' := hW
  obtain ⟨p, q, hA0, hV0, rfl, _, _⟩ := hW
  have hA : DataW.TrodAll enc Tryd.prog W 0 (fun _ => true) true Tryd.f4.params.toList args.toList ds p := hA0
  have hV : DataW.TrodVars enc Tryd.prog W (fun _ => true) ["loop.example/structuredjumps/impl.endNames"] gs q := hV0
  rw [Tryd.params4] at hA hval
  obtain ⟨v0, v1, d0, d1, p0, p1, rfl, rfl, rfl, h0, h1⟩ := trodAll_two hA
  obtain ⟨g, t, cs, fuel, d, p', rfl, hg, ht, hvar, hd, rfl⟩ := trodVars_one hV
  obtain rfl := Option.some.inj (gEnd.symm.trans hg)
  obtain rfl := Option.some.inj (tEnd.symm.trans ht)
  obtain rfl : cs = endCells := Option.some.inj (hvar.symm.trans (cells_of_laid hL))
  obtain ⟨rfl, rfl⟩ := DataW.Trod.unique (v := .agg endCells) ⟨fuel, hd⟩ ⟨3, reads_end enc W _⟩
  have h0k := h0
  have h1k := h1
  clear hA0 hV0 hval0
  have hlt : ∀ x ∈ p0 ++ p1, x.block < W.heap.size := fun x hx => hW'.lt x (List.mem_append_left _ hx)
  have hlt0 : ∀ x ∈ p0, x.block < W.heap.size := fun x hx => hlt x (List.mem_append_left _ hx)
  have hlt1 : ∀ x ∈ p1, x.block < W.heap.size := fun x hx => hlt x (List.mem_append_right _ hx)
  obtain ⟨A, la, ca, rfl, ha1, ha2, ha3⟩ := open_bytes (hval 0 24 v0 rfl rfl) h0 hlt0
  obtain ⟨B, lb, cb, rfl, hb1, hb2, hb3⟩ := open_bytes (hval 1 24 v1 rfl rfl) h1 hlt1
  have c0 : W.cell? ⟨0, 0, none⟩ = some (.string wStop) := World.var?_cell hg hvar 0
  have c1 : W.cell? ⟨0, 1, none⟩ = some (.string wAsk) := World.var?_cell hg hvar 1
  have c2 : W.cell? ⟨0, 2, none⟩ = some (.string wLong) := World.var?_cell hg hvar 2
  have hgB : 0 < W.heap.size := by
    rcases Nat.lt_or_ge 0 W.heap.size with h | h
    · exact h
    · exfalso
      simp [World.cell?, Array.getElem?_eq_none h] at c0
  refine (fnRunGraph_walk A B la ca lb cb W ha3 hb3 ha1 hb1 ha2 hb2 ⟨hgB, c0, c1, c2⟩).mono fun e W' ⟨he, hB⟩ => ?_
  subst he
  have hvar' := var?_below hB hg hgB hvar
  refine ⟨_, rfl, _, _, _, [] ++ [], p0 ++ p1, _, hW', ?_, ?_, ⟨0, 38, endCells, 3, [], [], hg, ht, hvar', reads_end enc W' _, rfl, rfl⟩, hB.frame _, fun h => by cases h⟩
  · exact trodAll_mk1 (shut_bool Tryd.underlying4 true)
  · exact trodAll_mk2 (Below.trod laidOut (by kernel_rfl) (of_decide_eq_true (by kernel_rfl)) h0k hB hlt0) (Below.trod laidOut (by kernel_rfl) (of_decide_eq_true (by kernel_rfl)) h1k hB hlt1)

theorem fnRunGraph_row : Rows.FnRunGraphSaid :=
  OpenClaim.holds_of_wide 4 Tryd.f4 rfl rfl rfl rfl rfl rfl rfl ⟨rfl, rfl, rfl, rfl, rfl⟩ rfl rfl rfl rfl rfl (by kernel_rfl) Tryd.func4 (by kernel_rfl)
    (of_decide_eq_true (by kernel_rfl)) (by unfold Func.isWrapper; first | (rw [if_pos (by decide +kernel)]; kernel_rfl) | (rw [if_neg (by decide +kernel)]; exact ⟨rfl, rfl⟩))
    (fun os started H enc _ => fnRunGraph_lifted os started H enc)

theorem fnRunGraph_holds : Rows.FnRunGraphCardSaid :=
  Claim7.holds_tied_plain_at .later [] [.data] true Rows.fnRunGraphCard.stood.harness true
    fnRunGraph_row (fun _ h => by cases h) (by kernel_rfl) (fun _ h => by cases h) fnRunGraph_row_tie rfl ⟨rfl, rfl⟩ (by kernel_rfl) rfl
    (fun f fn hf hfn => by
      obtain rfl : f = 4 := Option.some.inj ((show Tryd.prog.funcNamed "loop.example/structuredjumps/laws.FnRunGraph" = some 4 by kernel_rfl).symm.trans hf) |>.symm
      obtain rfl : fn = Tryd.f4 := (Option.some.inj (Tryd.func4.symm.trans hfn)).symm
      exact ⟨by kernel_rfl, fun j t ht => by
        rw [Tryd.params4] at ht
        have hm : t ∈ [24, 24] := by simpa using Array.mem_of_getElem? ht
        have hall : ([24, 24].all fun u => !Tryd.prog.wantsStandIn u) = true := by kernel_rfl
        exact (show Tryd.prog.wantsStandIn t = false by simpa using List.all_eq_true.1 hall t hm)⟩)
    (by kernel_rfl)
end Go.Proofs.YteodlcgmncchpaaDoor
