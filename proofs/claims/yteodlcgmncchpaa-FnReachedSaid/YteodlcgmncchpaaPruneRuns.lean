/-
  The law FnPruneRuns, walked.
-/
import Derived.Test.YteodlcgmncchpaaPruneRun
import Derived.Test.YteodlcgmncchpaaPruneMore
import Derived.Test.YteodlcgmncchpaaDrawRun
import Derived.Test.YteodlcgmncchpaaSpecRun
namespace Go.Proofs.Yteodlcgmncchpaa
open Go.RowKit Go.Sort

theorem OwnGr.keep2 {w w' : World} {B : Nat} {g : List Bl} (h : OwnGr w B g) (hb : Below w.heap.size w w') : OwnGr w' B g := by
  obtain ⟨cs, t, hk, hc⟩ := h
  exact ⟨cs, t, hk.below hb hk.lt, hc⟩

set_option maxRecDepth 100000 in
set_option maxHeartbeats 1000000 in
theorem pruneRuns_walk (A : Option Addr) (la ca : Nat) (w : World) (hA : Bytes w A la) (h1 : la ≤ ca) (h3 : ca ≤ 9223372036854775807) :
    Calls Try.prog 12 #[.slice A la ca] w fun e w' => e = .returned (.bool true) ∧ Below w.heap.size w w' := by
  by_cases g1 : (1048576 : Int) < la
  · clear hA
    go_enter Try.func12, Try.ntmps12
    go_wp2_with fail
    go_ret
    exact ⟨rfl, Below.refl _ _⟩
  have HA := Lib.hid (drawRunGraph_any A la ca w hA h1 h3)
  clear hA
  go_enter Try.func12, Try.ntmps12
  go_wp2_with fail
  refine HA.out.mono ?_
  intro e w1 hd1
  obtain ⟨A1, c1, g, t, rfl, hc1, gg, hn1, htz, b1⟩ := drawnRun_of hd1
  have HB1 := Lib.hid b1
  have HG := Lib.hid gg
  have HT1 : Hid (Below w1.heap.size w1 w1) := Below.refl _ _
  have HRG := Lib.hid (fun w h => implRun_any A1 c1 g t w h (by omega) (by omega))
  clear hd1 b1 gg
  cases hv : validB g with
  | false =>
    have HP := Lib.hid (implPrune_no A1 c1 g w1 HG.out (by omega) hv)
    have HS := Lib.hid (fun w h => specPrune_no A1 c1 g w h (by omega) hc1 hv)
    have hb := runB_no (choices := t) hv
    have HR : Hid (∀ w, Gr w A1 g → Calls Try.prog 37 #[.slice A1 g.length c1, .string t] w fun e w' => e = .returned (.tuple #[.string (runT g t), .int .i64 (runE g t), .bool false]) ∧ Below w.heap.size w w') := fun w h => by
      have := HRG.out w h
      unfold RunPost at this
      rw [hb] at this
      exact this
    clear hv hb
    go_wp2_with fail
    refine HP.out.mono ?_
    rintro e w2 ⟨rfl, b2⟩
    have HT2 := Lib.hid (HT1.out.trans (b2.mono HT1.out.size))
    clear b2
    go_wp2_with fail
    refine (HS.out _ (HG.out.below HT2.out)).mono ?_
    rintro e w3 ⟨v3, rfl, _, b3⟩
    have HT3 := Lib.hid (HT2.out.trans (b3.mono HT2.out.size))
    clear b3
    go_wp2_with fail
    refine (HR.out _ (HG.out.below HT3.out)).mono ?_
    rintro e w4 ⟨rfl, b4⟩
    have HT4 := Lib.hid (HT3.out.trans (b4.mono HT3.out.size))
    clear b4
    go_wp2_with fail
    go_ret
    exact ⟨rfl, below_trans_self HB1.out HT4.out⟩
  | true =>
    obtain ⟨p, hp⟩ : ∃ p, p = pruneG g := ⟨_, rfl⟩
    have hpv : validB p = true := hp ▸ prune_valid hv
    have hpt := valid_tot hpv
    have HP := Lib.hid ((implPrune_yes A1 c1 g w1 HG.out (by omega) hv).mono fun e w' h => show ∃ B, w1.heap.size ≤ B ∧ e = .returned (.tuple #[.slice (some ⟨B, 0, none⟩) p.length p.length, .bool true]) ∧ OwnGr w' B p ∧ Below w1.heap.size w1 w' from hp ▸ h)
    have HS := Lib.hid (fun w h => specPrune_yes A1 c1 g w h (by omega) hc1 hv)
    obtain ⟨r1, r2, r3⟩ := prune_run hv t
    rw [← hp] at r1 r2 r3
    have HRP := Lib.hid (fun A cap w (h : Gr w A p) => implRun_any A cap p t w h (by omega) (by omega))
    obtain ⟨x, hx⟩ : ∃ x, x = runT g t := ⟨_, rfl⟩
    obtain ⟨y, hy⟩ : ∃ y, y = runE g t := ⟨_, rfl⟩
    obtain ⟨z, hz⟩ : ∃ z, z = runB g t := ⟨_, rfl⟩
    have HR1 : Hid (∀ w, Gr w A1 g → Calls Try.prog 37 #[.slice A1 g.length c1, .string t] w fun e w' => e = .returned (.tuple #[.string x, .int .i64 y, .bool z]) ∧ Below w.heap.size w w') := fun w h => by
      have := HRG.out w h
      unfold RunPost at this
      rw [← hx, ← hy, ← hz] at this
      exact this
    have HR2 : Hid (∀ A cap w, Gr w A p → Calls Try.prog 37 #[.slice A p.length cap, .string t] w fun e w' => e = .returned (.tuple #[.string x, .int .i64 y, .bool z]) ∧ Below w.heap.size w w') := fun A cap w h => by
      have := HRP.out A cap w h
      unfold RunPost at this
      rw [r1, r2, r3, ← hx, ← hy, ← hz] at this
      exact this
    have HST := Lib.hid (fun s ok (h : WayAns p (Stops p) s ok) => prune_stops (g := g) hv (hp ▸ h))
    clear hv hpv hp r1 r2 r3 hx hy hz
    go_wp2_with fail
    refine HP.out.mono ?_
    rintro e w2 ⟨B, hB, rfl, o2, b2⟩
    have HT2 := Lib.hid (HT1.out.trans (b2.mono HT1.out.size))
    have HO2 := Lib.hid o2
    clear b2 o2
    go_wp2_with fail
    refine (HS.out _ (HG.out.below HT2.out)).mono ?_
    rintro e w3 ⟨v3, rfl, _, b3⟩
    have HT3 := Lib.hid (HT2.out.trans (b3.mono HT2.out.size))
    have HO3 := Lib.hid (HO2.out.keep2 b3)
    clear b3
    go_wp2_with fail
    refine (HR1.out _ (HG.out.below HT3.out)).mono ?_
    rintro e w4 ⟨rfl, b4⟩
    have HT4 := Lib.hid (HT3.out.trans (b4.mono HT3.out.size))
    have HO4 := Lib.hid (HO3.out.keep2 b4)
    clear b4
    go_wp2_with fail
    refine (HR2.out _ _ _ HO4.out.gr).mono ?_
    rintro e w5 ⟨rfl, b5⟩
    have HT5 := Lib.hid (HT4.out.trans (b5.mono HT4.out.size))
    have HO5 := Lib.hid (HO4.out.keep2 b5)
    clear b5
    go_wp2_with fail
    refine (implStops_any A1 c1 g w5 (HG.out.below HT5.out) (by omega)).mono ?_
    rintro e w6 ⟨s, ok, rfl, hA6, _, b6⟩
    have HA6 := Lib.hid hA6
    have HT6 := Lib.hid (HT5.out.trans (b6.mono HT5.out.size))
    have HO6 := Lib.hid (HO5.out.keep2 b6)
    clear b6 hA6
    go_wp2_with fail
    refine (implStops_any _ _ p w6 HO6.out.gr (by omega)).mono ?_
    rintro e w7 ⟨s2, ok2, rfl, hA7, _, b7⟩
    obtain ⟨rfl, rfl⟩ := HA6.out.unique (HST.out _ _ hA7)
    have HT7 := Lib.hid (HT6.out.trans (b7.mono HT6.out.size))
    clear b7 hA7
    have q1 : (z == z) = true := by simp
    have q2 : (y == y) = true := by simp
    have q3 : (ok == ok) = true := by simp
    go_wp2_with fail
    go_ret
    exact ⟨rfl, below_trans_self HB1.out HT7.out⟩

end Go.Proofs.Yteodlcgmncchpaa
