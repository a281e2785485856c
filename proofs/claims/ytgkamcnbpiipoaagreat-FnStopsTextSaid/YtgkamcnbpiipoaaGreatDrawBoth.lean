/-
  Contracts of the model's l6Both, DrawSameRuns, DrawFirstOther.
-/
import Derived.Test.YtgkamcnbpiipoaaGreatDraws
import Derived.Test.YtgkamcnbpiipoaaGreatDrawAny
namespace Go.Proofs.YtgkamcnbpiipoaaGreat
open Go.RowKit Go.Sort
attribute [local go_sem] Oper.semAt_some

def bothTexts : List ByteArray := [⟨#[65, 63, 66, 67, 44, 66, 62, 68, 44, 67, 62, 68, 44, 68, 46]⟩, ⟨#[65, 62, 66, 44, 66, 63, 67, 68, 44, 67, 62, 66, 44, 68, 46]⟩, ⟨#[65, 62, 65]⟩, ⟨#[65, 46]⟩]
theorem both_small : ∀ s ∈ bothTexts, s.size ≤ 25 := by decide

def DrawBothPost (w : World) (e : Ending) (w' : World) : Prop :=
  ∃ v g s, e = .returned (.tuple #[v, .string s]) ∧ OwnBl w' w.heap.size v g ∧ g.length + tot g ≤ 40 ∧ s.size ≤ 202 ∧ Below w.heap.size w w'
def BothPost (R : Nat) (w : World) (e : Ending) (w' : World) : Prop :=
  ∃ v g s, e = .returned (.tuple #[v, .string s]) ∧ OwnBl w' w.heap.size v g ∧ g.length + tot g ≤ 40 ∧ s.size ≤ 202 ∧ Only R w w'

theorem only_below6 {R : Nat} {w w' : World} (h : Below w.heap.size w w') : Only R w w' := ⟨h.os, h.tape, h.output, h.size, fun k _ hk => h.block k hk⟩

set_option maxHeartbeats 1600000 in
set_option maxRecDepth 100000 in
theorem both_any (R : Nat) (A : Option Addr) (len cap : Nat) (w : World) (hr : Rd w R A len cap 0) :
    Calls Tryz.prog 16 #[.pointer (some ⟨R, 0, none⟩)] w (BothPost R w) := by
  have hRlt := hr.blk.lt
  have HP := Lib.hid (pick2 R A len cap 0 2 w hr (by omega) (by omega) (by omega))
  clear hr
  go_enter Tryz.func16, Tryz.ntmps16
  go_wp2_with fail
  refine HP.out.mono ?_
  rintro e w1 ⟨x, rfl, hx, o1, r1⟩
  have HO1 := Lib.hid o1
  have HR1 := Lib.hid r1
  have hs1 := o1.size
  clear o1 r1
  by_cases h0 : x = 0
  · have g0 : ((x : Int) == 0) = true := by rw [h0]; rfl
    have HP2 := Lib.hid (pick2 R A len cap 1 4 w1 HR1.out (by omega) (by omega) (by omega))
    clear h0
    go_wp2_with fail
    refine HP2.out.mono ?_
    rintro e w2 ⟨k, rfl, hk, o2, r2⟩
    have HO2 := Lib.hid (HO1.out.trans o2)
    have hs2 := o2.size
    obtain ⟨s, hs⟩ : ∃ s, bothTexts[k]? = some s := ⟨_, List.getElem?_eq_getElem (by simpa [bothTexts] using hk)⟩
    have hsz := both_small s (List.mem_of_getElem? hs)
    have HPG : Hid (∀ w, Calls Tryz.prog 35 #[.string s] w (ParsePost s w)) := fun w => specParse_any s w (by omega)
    have HB : Hid ((bothTexts.map Value.string)[k]? = some (.string s)) := by
      show (bothTexts.map Value.string)[k]? = some (.string s)
      rw [List.getElem?_map, hs]; rfl
    have hcell : (w2.alloc (.cells (bothTexts.map Value.string).toArray 9)).cell? ⟨w2.heap.size, k, none⟩ = some (.string s) := by
      rw [(Blk.new w2 9 (bothTexts.map Value.string).toArray).cell k]
      simpa using HB.out
    simp only [bothTexts, List.map_cons, List.map_nil] at hcell
    have hkl : (k : Int) < 4 := by omega
    have HS := Lib.hid (parseVal_small s)
    have hks : k < 12 := by omega
    clear hs o2 r2
    go_wp2_with fail
    clear hcell
    refine (HPG.out _).mono ?_
    rintro e w3 ⟨v, rfl, hv, b3⟩
    have HV := Lib.hid (ownRow_base hv (show w.heap.size ≤ _ by simp; omega))
    have HB3 := Lib.hid (HO2.out.trans (only_below6 (R := R) (below_trans_self ((Below.refl w2.heap.size w2).alloc (Nat.le_refl _) _) b3)))
    have HK := Lib.hid (known5_any k w3 hks)
    clear hv b3
    go_wp2_with fail
    refine HK.out.mono ?_
    rintro e w4 ⟨s2, rfl, hs2, b4⟩
    have HV4 := Lib.hid (ownRow_below HV.out b4)
    have HB4 := Lib.hid (HB3.out.trans (only_below6 b4))
    clear b4
    go_wp2_with fail
    exact bodyPost_ret (v := .tuple #[v, .string s2]) (by simp [results, Tryz.results16, go_sem]) rfl ⟨v, parseVal s, s2, rfl, HV4.out, by have := HS.out; omega, by omega, HB4.out⟩
  · have g0 : ((x : Int) == 0) = false := by simp; omega
    have HSM := Lib.hid (some_any R A len cap 1 w1 HR1.out (by omega))
    clear h0
    go_wp2_with fail
    refine HSM.out.mono ?_
    rintro e w2 ⟨v, g, q, rfl, hown, hg, o2, r2, hq⟩
    have HOWN := Lib.hid hown
    have HO2 := Lib.hid (HO1.out.trans o2)
    have HA := Lib.hid (any5_any R A len cap q w2 r2 (by omega))
    clear hown o2 r2
    go_wp2_with fail
    refine HA.out.mono ?_
    rintro e w3 ⟨s, q3, rfl, hs, o3, _, _⟩
    have HOWN3 := Lib.hid (ownRow_base (ownRow_only HOWN.out (by omega) o3) hs1)
    have HO3 := Lib.hid (HO2.out.trans o3)
    clear o3
    go_wp2_with fail
    exact bodyPost_ret (v := .tuple #[v, .string s]) (by simp [results, Tryz.results16, go_sem]) rfl ⟨v, g, s, rfl, HOWN3.out, hg, by omega, HO3.out⟩

set_option maxRecDepth 100000 in
theorem drawSameRuns_any (A : Option Addr) (len cap : Nat) (w : World) (hb : Bytes w A len) (hlc : len ≤ cap) (hl : cap ≤ 9223372036854775807) :
    Calls Tryz.prog 14 #[.slice A len cap] w (DrawBothPost w) := by
  have HC := Lib.hid (open_any A len cap w hb hlc hl)
  clear hb
  go_enter Tryz.func14, Tryz.ntmps14
  go_wp2_with fail
  refine HC.out.mono ?_
  rintro e w1 ⟨A', len', cap', rfl, hrd, b1⟩
  have HB := Lib.hid b1
  have HA := Lib.hid (both_any w.heap.size A' len' cap' w1 hrd)
  have hs1 := b1.size
  clear hrd b1
  go_wp2_with fail
  refine HA.out.mono ?_
  rintro e w2 ⟨v, g, s, rfl, hown, hg, hs, ho⟩
  have HOWN := Lib.hid (ownRow_base hown hs1)
  have HB2 := Lib.hid (Only.below HB.out ho)
  clear hown ho
  go_wp2_with fail
  exact bodyPost_ret (v := .tuple #[v, .string s]) (by simp [results, Tryz.results14, go_sem]) rfl ⟨v, g, s, rfl, HOWN.out, hg, hs, HB2.out⟩

set_option maxRecDepth 100000 in
theorem drawFirstOther_any (A : Option Addr) (len cap : Nat) (w : World) (hb : Bytes w A len) (hlc : len ≤ cap) (hl : cap ≤ 9223372036854775807) :
    Calls Tryz.prog 5 #[.slice A len cap] w (DrawBothPost w) := by
  have HC := Lib.hid (open_any A len cap w hb hlc hl)
  clear hb
  go_enter Tryz.func5, Tryz.ntmps5
  go_wp2_with fail
  refine HC.out.mono ?_
  rintro e w1 ⟨A', len', cap', rfl, hrd, b1⟩
  have HB := Lib.hid b1
  have HA := Lib.hid (both_any w.heap.size A' len' cap' w1 hrd)
  have hs1 := b1.size
  clear hrd b1
  go_wp2_with fail
  refine HA.out.mono ?_
  rintro e w2 ⟨v, g, s, rfl, hown, hg, hs, ho⟩
  have HOWN := Lib.hid (ownRow_base hown hs1)
  have HB2 := Lib.hid (Only.below HB.out ho)
  clear hown ho
  go_wp2_with fail
  exact bodyPost_ret (v := .tuple #[v, .string s]) (by simp [results, Tryz.results5, go_sem]) rfl ⟨v, g, s, rfl, HOWN.out, hg, hs, HB2.out⟩

/-- What is drawn, with the blocks as they lie. -/
def DrawnBoth (w : World) (e : Ending) (w' : World) : Prop :=
  ∃ A cap g S, e = .returned (.tuple #[.slice A g.length cap, .string (tb S)]) ∧ g.length ≤ cap ∧ Gr w' A g ∧ g.length + tot g ≤ 40 ∧ S.length ≤ 202 ∧ Below w.heap.size w w'
theorem drawnBoth_of {w : World} {e : Ending} {w' : World} (h : DrawBothPost w e w') : DrawnBoth w e w' := by
  obtain ⟨v, g, s, rfl, ho, hn, hs, hB⟩ := h
  obtain ⟨A, cap, rfl, hc, hg⟩ := own_gr ho
  exact ⟨A, cap, g, s.data.toList, by rw [tb_of], hc, hg, hn, by simpa using hs, hB⟩
end Go.Proofs.YtgkamcnbpiipoaaGreat
