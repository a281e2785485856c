/-
  Contracts of the model's drawers for loops.
-/
import Derived.Test.YtdolbmonmkjajaaGreatDraws
import Derived.Test.YtdolbmonmkjajaaGreatLaw
import Derived.Test.YtdolbmonmkjajaaGreatDrawTrace
import Derived.Test.YtdolbmonmkjajaaGreatSpecBack
import Derived.Test.YtdolbmonmkjajaaGreatLoopMath
namespace Go.Proofs.YtdolbmonmkjajaaGreat
open Go.RowKit Go.Sort

set_option maxRecDepth 100000 in
theorem drawOrderOf_any (A : Option Addr) (len cap : Nat) (w : World) (hb : Bytes w A len) (hlc : len ≤ cap) (hl : cap ≤ 9223372036854775807) :
    Calls Tryz.prog 20 #[.slice A len cap] w (DrawPost 40 w) := by
  have HC := Lib.hid (open_any A len cap w hb hlc hl)
  clear hb
  go_enter Tryz.func20, Tryz.ntmps20
  go_wp2_with fail
  refine HC.out.mono ?_
  rintro e w1 ⟨A', len', cap', rfl, hrd, b1⟩
  have HR1 := Lib.hid hrd
  have HB := Lib.hid b1
  have hs1 := b1.size
  clear hrd b1
  go_wp2_with fail
  refine (some_any w.heap.size A' len' cap' 0 w1 HR1.out (by omega)).mono ?_
  rintro e w2 ⟨v, g, q, rfl, hown, hg, ho, _, _⟩
  have HOWN := Lib.hid (ownRow_base hown hs1)
  have HB2 := Lib.hid (Only.below HB.out ho)
  clear hown ho
  go_wp2_with fail
  exact bodyPost_ret (v := v) (by simp [results, Tryz.results20, go_sem]) rfl ⟨v, g, rfl, HOWN.out, hg, HB2.out⟩

set_option maxRecDepth 100000 in
theorem drawIsTame_any (A : Option Addr) (len cap : Nat) (w : World) (hb : Bytes w A len) (hlc : len ≤ cap) (hl : cap ≤ 9223372036854775807) :
    Calls Tryz.prog 34 #[.slice A len cap] w (DrawPost 40 w) := by
  have HC := Lib.hid (open_any A len cap w hb hlc hl)
  clear hb
  go_enter Tryz.func34, Tryz.ntmps34
  go_wp2_with fail
  refine HC.out.mono ?_
  rintro e w1 ⟨A', len', cap', rfl, hrd, b1⟩
  have HR1 := Lib.hid hrd
  have HB := Lib.hid b1
  have hs1 := b1.size
  clear hrd b1
  go_wp2_with fail
  refine (some_any w.heap.size A' len' cap' 0 w1 HR1.out (by omega)).mono ?_
  rintro e w2 ⟨v, g, q, rfl, hown, hg, ho, _, _⟩
  have HOWN := Lib.hid (ownRow_base hown hs1)
  have HB2 := Lib.hid (Only.below HB.out ho)
  clear hown ho
  go_wp2_with fail
  exact bodyPost_ret (v := v) (by simp [results, Tryz.results34, go_sem]) rfl ⟨v, g, rfl, HOWN.out, hg, HB2.out⟩

set_option maxRecDepth 100000 in
theorem drawHeadersOf_any (A : Option Addr) (len cap : Nat) (w : World) (hb : Bytes w A len) (hlc : len ≤ cap) (hl : cap ≤ 9223372036854775807) :
    Calls Tryz.prog 45 #[.slice A len cap] w (DrawPost 40 w) := by
  have HC := Lib.hid (open_any A len cap w hb hlc hl)
  clear hb
  go_enter Tryz.func45, Tryz.ntmps45
  go_wp2_with fail
  refine HC.out.mono ?_
  rintro e w1 ⟨A', len', cap', rfl, hrd, b1⟩
  have HR1 := Lib.hid hrd
  have HB := Lib.hid b1
  have hs1 := b1.size
  clear hrd b1
  go_wp2_with fail
  refine (some_any w.heap.size A' len' cap' 0 w1 HR1.out (by omega)).mono ?_
  rintro e w2 ⟨v, g, q, rfl, hown, hg, ho, _, _⟩
  have HOWN := Lib.hid (ownRow_base hown hs1)
  have HB2 := Lib.hid (Only.below HB.out ho)
  clear hown ho
  go_wp2_with fail
  exact bodyPost_ret (v := v) (by simp [results, Tryz.results45, go_sem]) rfl ⟨v, g, rfl, HOWN.out, hg, HB2.out⟩

set_option maxRecDepth 100000 in
theorem drawBackJumps_any (A : Option Addr) (len cap : Nat) (w : World) (hb : Bytes w A len) (hlc : len ≤ cap) (hl : cap ≤ 9223372036854775807) :
    Calls Tryz.prog 47 #[.slice A len cap] w (DrawPost 40 w) := by
  have HC := Lib.hid (open_any A len cap w hb hlc hl)
  clear hb
  go_enter Tryz.func47, Tryz.ntmps47
  go_wp2_with fail
  refine HC.out.mono ?_
  rintro e w1 ⟨A', len', cap', rfl, hrd, b1⟩
  have HR1 := Lib.hid hrd
  have HB := Lib.hid b1
  have hs1 := b1.size
  clear hrd b1
  go_wp2_with fail
  refine (some_any w.heap.size A' len' cap' 0 w1 HR1.out (by omega)).mono ?_
  rintro e w2 ⟨v, g, q, rfl, hown, hg, ho, _, _⟩
  have HOWN := Lib.hid (ownRow_base hown hs1)
  have HB2 := Lib.hid (Only.below HB.out ho)
  clear hown ho
  go_wp2_with fail
  exact bodyPost_ret (v := v) (by simp [results, Tryz.results47, go_sem]) rfl ⟨v, g, rfl, HOWN.out, hg, HB2.out⟩

set_option maxRecDepth 100000 in
theorem drawDepthIn_any (A : Option Addr) (len cap : Nat) (w : World) (hb : Bytes w A len) (hlc : len ≤ cap) (hl : cap ≤ 9223372036854775807) :
    Calls Tryz.prog 41 #[.slice A len cap] w (DrawPlacePost 40 w) := by
  have HC := Lib.hid (open_any A len cap w hb hlc hl)
  clear hb
  go_enter Tryz.func41, Tryz.ntmps41
  go_wp2_with fail
  refine HC.out.mono ?_
  rintro e w1 ⟨A', len', cap', rfl, hrd, b1⟩
  have HR1 := Lib.hid hrd
  have HB := Lib.hid b1
  have hs1 := b1.size
  clear hrd b1
  go_wp2_with fail
  refine (place_any w.heap.size A' len' cap' 0 w1 HR1.out (by omega)).mono ?_
  rintro e w2 ⟨v, g, s, q, rfl, hown, hg, hs, ho, _, _⟩
  have HOWN := Lib.hid (ownRow_base hown hs1)
  have HB2 := Lib.hid (Only.below HB.out ho)
  clear hown ho
  go_wp2_with fail
  exact bodyPost_ret (v := .tuple #[v, .string s]) (by simp [results, Tryz.results41, go_sem]) rfl ⟨v, g, s, rfl, HOWN.out, hg, hs, HB2.out⟩

set_option maxRecDepth 100000 in
set_option maxHeartbeats 1600000 in
theorem drawLoopOf_any (A : Option Addr) (len cap : Nat) (w : World) (hb : Bytes w A len) (hlc : len ≤ cap) (hl : cap ≤ 9223372036854775807) :
    Calls Tryz.prog 40 #[.slice A len cap] w (DrawPlacePost 40 w) := by
  have HC := Lib.hid (open_any A len cap w hb hlc hl)
  clear hb
  go_enter Tryz.func40, Tryz.ntmps40
  go_wp2_with fail
  refine HC.out.mono ?_
  rintro e w1 ⟨A', len', cap', rfl, hrd, b1⟩
  have HR1 := Lib.hid hrd
  have HB := Lib.hid b1
  have hs1 := b1.size
  have hRlt := hrd.blk.lt
  clear hrd b1
  go_wp2_with fail
  refine (some_any w.heap.size A' len' cap' 0 w1 HR1.out (by omega)).mono ?_
  rintro e w2 ⟨v, g, q, rfl, hown, hg, ho, r2, hq⟩
  obtain ⟨A2, cap2, rfl, hc2, _⟩ := own_gr hown
  have HOWN := Lib.hid hown
  have HO2 := Lib.hid ho
  have HR2 := Lib.hid r2
  obtain ⟨x, hx⟩ : ∃ x, x = headV g := ⟨_, rfl⟩
  obtain ⟨vb, hvb⟩ : ∃ v, v = validB g := ⟨_, rfl⟩
  have HS := Lib.hid ((specHeaders_any A2 cap2 g w2 (own_gr' hown) (by omega) hc2).mono fun e w' h => show e = .returned (.tuple #[.string x, .bool vb]) ∧ Below w2.heap.size w2 w' from hx ▸ hvb ▸ h)
  have HX := Lib.hid hx
  have HVB := Lib.hid hvb
  clear hown ho r2 hx hvb
  go_wp2_with fail
  refine HS.out.mono ?_
  rintro e w4 ⟨rfl, b4⟩
  have HO4 : Hid (Only w.heap.size w2 w4) := Only.of_below b4
  have HR4 := Lib.hid (HR2.out.below' b4)
  clear b4
  cases vb with
  | true =>
    have hv : validB g = true := HVB.out.symm
    have hx26 : x.size ≤ 26 := by
      rw [HX.out]; unfold headV; rw [if_pos hv, namesAt_size hv _ head_lt]; exact head_small hv
    by_cases hx0 : x = ⟨#[]⟩
    · have t1 : x.toList = [] := by rw [hx0, Lib.toList_data]
      clear hv
      go_wp2_with fail
      refine (any_any w.heap.size A' len' cap' q w4 HR4.out (by omega)).mono ?_
      rintro e w5 ⟨s, rfl, hs, o5, r5⟩
      have HF := Lib.hid (ownRow_base (ownRow_only HOWN.out hRlt (HO4.out.trans o5)) hs1)
      have HBF := Lib.hid (Only.below HB.out (HO2.out.trans (HO4.out.trans o5)))
      clear o5 r5
      go_wp2_with fail
      exact bodyPost_ret (v := .tuple #[.slice A2 g.length cap2, .string s]) (by simp [results, Tryz.results40, go_sem]) rfl ⟨.slice A2 g.length cap2, g, s, rfl, HF.out, hg, hs, HBF.out⟩
    · have hxp : 1 ≤ x.size := by
        rcases Nat.eq_zero_or_pos x.size with h | h
        · exact absurd (ba_ext (by have : x.data.toList.length = 0 := by rw [Array.length_toList]; exact h
                                   rw [List.eq_nil_of_length_eq_zero this])) hx0
        · exact h
      have t1 : (x.toList == ([] : List UInt8)) = false := beq_emp (by omega)
      have HP4 := Lib.hid (pick2 w.heap.size A' len' cap' q 4 _ HR4.out (by omega) (by omega) (by omega))
      clear hv
      go_wp2_with fail
      refine HP4.out.mono ?_
      rintro e w5 ⟨m, rfl, hm, o5, r5⟩
      have HO5 := Lib.hid (HO4.out.trans o5)
      have HR5 := Lib.hid r5
      clear o5 r5
      by_cases hm0 : 0 < m
      · have g0 : decide ((0 : Int) < m) = true := by simp; omega
        have HP5 := Lib.hid (pick2 w.heap.size A' len' cap' (q + 1) x.size _ HR5.out (by omega) (by omega) (by omega))
        go_wp2_with fail
        refine HP5.out.mono ?_
        rintro e w6 ⟨z, rfl, hz, o6, r6⟩
        have HO6 := Lib.hid (HO5.out.trans o6)
        clear o6 r6
        have s1 : IntKind.i64.wrap ((z : Int) + 1) = (z : Int) + 1 := IntWalk.i64_in _ (by omega)
        have s3 : ((z : Int) + 1).toNat = z + 1 := by omega
        have s5 : (z : Int) + 1 ≤ x.size := by omega
        have s7 : (0 : Int) ≤ (z : Int) + 1 := by omega
        have s9 : (z : Int) ≤ (z : Int) + 1 := by omega
        go_wp2_with fail
        go_quiet (fail)
        have HO7 := Lib.hid (HO6.out.trans (Only.of_below (below_drewN w6 nq)))
        have HF := Lib.hid (ownRow_base (ownRow_only HOWN.out hRlt HO7.out) hs1)
        have HBF := Lib.hid (Only.below HB.out (HO2.out.trans HO7.out))
        go_wp2_with fail
        exact bodyPost_ret (v := .tuple #[.slice A2 g.length cap2, .string (x.extract z (z + 1))]) (by simp [results, Tryz.results40, go_sem]) rfl ⟨.slice A2 g.length cap2, g, x.extract z (z + 1), rfl, HF.out, hg, by rw [ByteArray.size_extract]; omega, HBF.out⟩
      · have g0 : decide ((0 : Int) < m) = false := by simp; omega
        go_wp2_with fail
        refine (any_any w.heap.size A' len' cap' (q + 1) w5 HR5.out (by omega)).mono ?_
        rintro e w6 ⟨s, rfl, hs, o6, r6⟩
        have HF := Lib.hid (ownRow_base (ownRow_only HOWN.out hRlt (HO5.out.trans o6)) hs1)
        have HBF := Lib.hid (Only.below HB.out (HO2.out.trans (HO5.out.trans o6)))
        clear o6 r6
        go_wp2_with fail
        exact bodyPost_ret (v := .tuple #[.slice A2 g.length cap2, .string s]) (by simp [results, Tryz.results40, go_sem]) rfl ⟨.slice A2 g.length cap2, g, s, rfl, HF.out, hg, hs, HBF.out⟩
  | false =>
    go_wp2_with fail
    refine (any_any w.heap.size A' len' cap' q w4 HR4.out (by omega)).mono ?_
    rintro e w5 ⟨s, rfl, hs, o5, r5⟩
    have HF := Lib.hid (ownRow_base (ownRow_only HOWN.out hRlt (HO4.out.trans o5)) hs1)
    have HBF := Lib.hid (Only.below HB.out (HO2.out.trans (HO4.out.trans o5)))
    clear o5 r5
    go_wp2_with fail
    exact bodyPost_ret (v := .tuple #[.slice A2 g.length cap2, .string s]) (by simp [results, Tryz.results40, go_sem]) rfl ⟨.slice A2 g.length cap2, g, s, rfl, HF.out, hg, hs, HBF.out⟩
end Go.Proofs.YtdolbmonmkjajaaGreat
