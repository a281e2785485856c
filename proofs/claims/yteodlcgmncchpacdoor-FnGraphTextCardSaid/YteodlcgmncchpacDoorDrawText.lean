/-
  Draws of a text of a graph, mostly turned: the model's DrawParseGraph.
-/
import Derived.Test.YteodlcgmncchpacDoorGoodValid
import Derived.Test.YteodlcgmncchpacDoorLaw
import Derived.IntWalk
namespace Go.Proofs.YteodlcgmncchpacDoor
open Go.RowKit Go.Sort

theorem Rd.drew1 {w : World} {R : Nat} {A : Option Addr} {len cap p : Nat} (h : Rd w R A len cap p) (k : Nat) : Rd (w.drewN k) R A len cap p := h.below (below_drewN w k)

theorem fmtG_pos {g : List Bl} (h : 1 ≤ g.length) : 0 < (fmtG g).size := by
  rcases List.eq_nil_or_concat g with rfl | ⟨g', b, rfl⟩
  · simp at h
  · by_cases h0 : 0 < g'.length
    · rw [List.concat_eq_append, fmtG_snoc h0, ByteArray.size_append, part_size]; omega
    · have : g' = [] := List.eq_nil_of_length_eq_zero (by omega)
      subst this
      rw [List.concat_eq_append, List.nil_append, fmtG_one, part_size]; omega

theorem of6 (R : Nat) (A : Option Addr) (len cap p : Nat) (w : World) (h : Rd w R A len cap p) (hp : p ≤ 1048576) :
    Calls Tryd.prog 35 #[.pointer (some ⟨R, 0, none⟩), .slice (some ⟨w.heap.size, 0, none⟩) 6 6] (w.alloc (.cells #[.string ⟨#[]⟩, .string ⟨#[44]⟩, .string ⟨#[63]⟩, .string ⟨#[62]⟩, .string ⟨#[65]⟩, .string ⟨#[46]⟩] 9)) fun e w' => ∃ s : ByteArray, e = .returned (.string s) ∧ s.size ≤ 1 ∧ Only R w w' ∧ Rd w' R A len cap (p + 1) := by
  refine (of2 R A len cap p [⟨#[]⟩, ⟨#[44]⟩, ⟨#[63]⟩, ⟨#[62]⟩, ⟨#[65]⟩, ⟨#[46]⟩] w h (by decide) (by decide) hp).mono ?_
  rintro e w' ⟨z, rfl, hz, o, r⟩
  refine ⟨z, rfl, ?_, o, r⟩
  revert z; decide

set_option maxRecDepth 100000 in
set_option maxHeartbeats 3200000 in
theorem drawParseGraph_any (A : Option Addr) (len cap : Nat) (w : World) (hb : Bytes w A len) (hlc : len ≤ cap) (hl : cap ≤ 9223372036854775807) :
    Calls Tryd.prog 13 #[.slice A len cap] w fun e w' => ∃ s : ByteArray, e = .returned (.string s) ∧ s.size ≤ 1000 ∧ Below w.heap.size w w' := by
  have HC := Lib.hid (open_any A len cap w hb hlc hl)
  clear hb
  go_enter Tryd.func13, Tryd.ntmps13
  go_wp2_with fail
  refine HC.out.mono ?_
  rintro e w1 ⟨A', len', cap', rfl, hrd, b1⟩
  have HR1 := Lib.hid hrd
  have HB := Lib.hid b1
  have hs1 := b1.size
  clear hrd b1
  go_wp2_with fail
  refine (goodValid_any w.heap.size A' len' cap' 0 w1 HR1.out (by omega)).mono ?_
  rintro e w2 ⟨v, g, q, rfl, hown, hg, ho, r2, hq, hvg⟩
  obtain ⟨A2, cap2, rfl, hc2, hgr⟩ := own_gr hown
  have HB2 := Lib.hid (Only.below HB.out ho)
  have HR2 := Lib.hid r2
  have hgl := (valid_iff.1 hvg).1
  have hp0 := fmtG_pos hgl
  have hle := fmtG_size_le g
  have HF0 := specFormat_any A2 cap2 g w2 hgr (by omega) hc2
  rw [fmtVal_yes hvg] at HF0
  obtain ⟨s, hs⟩ : ∃ s, s = fmtG g := ⟨_, rfl⟩
  rw [← hs] at HF0 hp0 hle
  have HF := Lib.hid HF0
  have hs56 : s.size ≤ 84 := by omega
  clear hown ho r2 hvg hgr HF0 hs hle hgl
  go_wp2_with fail
  refine HF.out.mono ?_
  rintro e w3 ⟨rfl, b3⟩
  have HB3 := Lib.hid (below_trans_self HB2.out b3)
  have HR3 := Lib.hid (HR2.out.below b3)
  clear b3
  go_wp2_with fail
  refine (pick2 w.heap.size A' len' cap' q 2 w3 HR3.out (by omega) (by omega) (by omega)).mono ?_
  rintro e w4 ⟨x, rfl, hx, o4, r4⟩
  have HB4 := Lib.hid (Only.below HB3.out o4)
  have HR4 := Lib.hid r4
  clear o4 r4
  by_cases hx0 : x = 0
  · have g0 : ((x : Int) == 0) = true := by rw [hx0]; rfl
    clear hx0
    go_wp2_with fail
    go_ret
    exact ⟨s, rfl, by omega, HB4.out⟩
  · have g0 : ((x : Int) == 0) = false := by simp; omega
    clear hx0
    have HP := Lib.hid (pick2 w.heap.size A' len' cap' (q + 1) s.size w4 HR4.out (by omega) (by omega) (by omega))
    go_wp2_with fail
    refine HP.out.mono ?_
    rintro e w5 ⟨k, rfl, hk, o5, r5⟩
    have HB5 := Lib.hid (Only.below HB4.out o5)
    have hk1 : k ≤ s.size := by omega
    have hk2 : (k : Int) ≤ s.size := by omega
    have HOF := Lib.hid (of6 w.heap.size A' len' cap' (q + 2) (w5.drewN 1) (r5.drew1 1) (by omega))
    have HB5' : Hid (Below w.heap.size w w5.drew) := HB5.out.trans ((below_drewN w5 1).mono HB5.out.size)
    clear o5 r5
    go_wp2_with fail
    go_region_with (first
      | (go_at_call 35; refine HOF.out.mono ?_; rintro e w6 ⟨u, rfl, hu, o6, r6⟩)
      | (go_at_call 25; refine (pick2 w.heap.size A' len' cap' (q + 2 + 1) 2 _ r6 (by omega) (by omega) (by omega)).mono ?_; rintro e w7 ⟨m, rfl, hm, o7, r7⟩; have hw : IntKind.i64.wrap ((k : Int) + (m : Int)) = ((k + m : Nat) : Int) := by (rw [IntWalk.i64_in _ (by omega)]; omega)))
    all_goals
      have HBF := Lib.hid (Only.below HB5'.out (Only.trans o6 o7))
      clear o6 r6 o7 r7
      go_wp2_with fail
      go_ret
      exact ⟨_, rfl, by (rw [ByteArray.size_append, ByteArray.size_append, ByteArray.size_extract, ByteArray.size_extract]; omega), HBF.out⟩
end Go.Proofs.YteodlcgmncchpacDoor
