import Derived.Test.YtlkfakdghjaoaaaGreatDoorJ9
import Derived.Test.YtlkfakdghjaoaaaGreatDoorSpecBack
set_option maxHeartbeats 3200000
set_option maxRecDepth 100000
namespace Go.Proofs.YtlkfakdghjaoaaaGreatDoor
open Go.RowKit Go.Sort
theorem Gj (R : Nat) (A : Option Addr) (len cap p : Nat) (w : World) (h : Rd w R A len cap p) (hp : p ≤ 1048576) :
  Calls Tryz.prog 92 #[.pointer (some ⟨R, 0, none⟩), .slice (some ⟨w.heap.size, 0, none⟩) 5 5] (w.alloc (.cells #[.int .i64 0, .int .i64 1, .int .i64 5, .int .i64 6, .int .i64 8] 3)) fun e w' => ∃ k : Nat, e = .returned (.int .i64 k) ∧ k < 11 ∧ Only R w w' ∧ Rd w' R A len cap (p + 1) := by
 refine (vU R A len cap p [0, 1, 5, 6, 8] w h (by decide) (by decide) hp).mono ?_
 rintro e w' ⟨z, rfl, hz, o, r⟩
 simp only [List.mem_cons, List.not_mem_nil, or_false] at hz
 exact ⟨z.toNat, bz (by omega), by omega, o, r⟩
theorem y9 (R : Nat) (A : Option Addr) (len cap p : Nat) (w : World) (hr : Rd w R A len cap p) (hp : p ≤ 1000) :
  Calls Tryz.prog 50 #[.pointer (some ⟨R, 0, none⟩)] w (pH 40 105 R A len cap p w) := by
 have hRlt := hr.blk.lt
 have HR := GR hr
 clear hr
 go_enter Tryz.func50, Tryz.ntmps50
 go_wp2_with fail
 refine (uP R A len cap p w HR.out hp).mono ?_
 rintro e w1 ⟨v, g, q, rfl, hown, hg, ho1, r1, hq⟩
 have HOWN := GR hown
 have HO1 := GR ho1
 have HR1 := GR r1
 obtain ⟨A1, c1, rfl, hc1, hgr⟩ := rp hown
 have HG := GR hgr
 clear hown ho1 r1 hgr
 go_wp2_with fail
 refine (iN A1 c1 g w1 HG.out (by omega) hc1).mono ?_
 rintro e w2 ⟨rfl, b2⟩
 have HOWN2 := GR (f8 HOWN.out b2)
 have HO2 := GR (HO1.out.trans (.of_below b2))
 have HR2 := GR (HR1.out.below b2)
 clear b2
 cases ht : dV g with
 | true =>
  clear ht
  go_wp2_with fail
  exact bodyPost_ret (v := .slice A1 g.length c1) (by simp [results, Tryz.results50, go_sem]) rfl ⟨_, g, q, rfl, HOWN2.out, hg, HO2.out, HR2.out, by omega⟩
 | false =>
  clear ht
  go_wp2_with fail
  refine (kK R A len cap q 3 w2 HR2.out (by omega) (by omega) (by omega)).mono ?_
  rintro e w3 ⟨x, rfl, hx, o3, r3⟩
  have HOWN3 := GR (dC HOWN2.out hRlt o3)
  have HO3 := GR (HO2.out.trans o3)
  have HR3 := GR r3
  clear o3 r3
  by_cases h0 : (0 : Int) < (x : Int)
  ·have HN := GR (Gj R A len cap (q + 1) w3 HR3.out (by omega))
   go_wp2_with fail
   refine HN.out.mono ?_
   rintro e w4 ⟨k, rfl, hk, o4, r4⟩
   have HO4 := GR (HO3.out.trans o4)
   have HR4 := GR r4
   clear o4 r4
   go_wp2_with fail
   refine (sG k w4 hk).mono ?_
   rintro e w5 ⟨v5, g5, rfl, hv5, hs5, b5⟩
   have HV := GR (gB hv5 HO4.out.size)
   have HO5 := GR (HO4.out.trans (.of_below b5))
   have HR5 := GR (HR4.out.below b5)
   clear hv5 b5
   go_wp2_with fail
   exact bodyPost_ret (v := v5) (by simp [results, Tryz.results50, go_sem]) rfl ⟨v5, g5, q + 2, rfl, HV.out, by omega, HO5.out, HR5.out, by omega⟩
  ·go_wp2_with fail
   exact bodyPost_ret (v := .slice A1 g.length c1) (by simp [results, Tryz.results50, go_sem]) rfl ⟨_, g, q + 1, rfl, HOWN3.out, hg, HO3.out, HR3.out, by omega⟩
theorem nj (A : Option Addr) (len cap : Nat) (w : World) (hb : Bytes w A len) (hlc : len ≤ cap) (hl : cap ≤ 9223372036854775807) :
  Calls Tryz.prog 24 #[.slice A len cap] w (pG 40 w) := by
 have HC := GR (vT A len cap w hb hlc hl)
 clear hb
 go_enter Tryz.func24, Tryz.ntmps24
 go_wp2_with fail
 refine HC.out.mono ?_
 rintro e w1 ⟨A', len', cap', rfl, hrd, b1⟩
 have HR1 := GR hrd
 have HB := GR b1
 have hs1 := b1.size
 clear hrd b1
 go_wp2_with fail
 refine (y9 w.heap.size A' len' cap' 0 w1 HR1.out (by omega)).mono ?_
 rintro e w2 ⟨v, g, q, rfl, hown, hg, ho, _, _⟩
 have HOWN := GR (gB hown hs1)
 have HB2 := GR (Only.below HB.out ho)
 clear hown ho
 go_wp2_with fail
 exact bodyPost_ret (v := v) (by simp [results, Tryz.results24, go_sem]) rfl ⟨v, g, rfl, HOWN.out, hg, HB2.out⟩
end Go.Proofs.YtlkfakdghjaoaaaGreatDoor
