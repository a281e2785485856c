import Derived.Test.YtlkfakdghjaoaaaGreatDoorOrders
import Derived.Test.YtlkfakdghjaoaaaGreatDoorSpecBack
set_option maxRecDepth 100000
set_option maxHeartbeats 1000000
namespace Go.Proofs.YtlkfakdghjaoaaaGreatDoor
open Go.RowKit
theorem uz (A : Option Addr) (cap : Nat) (g : List Bl) (w : World) (hg : Gr w A g) (hn : g.length + aO g ≤ 1048576) (hcap : g.length ≤ cap) :
  Calls Tryz.prog 140 #[.slice A g.length cap] w fun e w' => e = .returned (.tuple #[.string (i9 g), .bool (aa g)]) ∧ Below w.heap.size w w' := by
 have HC := GR (jw A cap g w hg hn hcap)
 unfold i9
 by_cases hv : aa g = true
 ·rw [hv] at HC
  rw [if_pos hv, hv]
  have h26 := (aj.1 hv).2.1
  have HR := GR (fun w' (h : Gr w' A g) => nd A cap g w' h hn hv)
  obtain ⟨o, ho⟩ : ∃ o, o = ae g (am g) := ⟨_, rfl⟩
  have hrl : ∀ i ∈ am g, i < g.length := fun i hi => ((aU hv).1 hi).lt hv
  have hos : o.size = (am g).length := by rw [ho]; exact ax hv _ hrl
  have hol := bO hv
  rw [← ho] at HR
  have hos2 : o.size ≤ 26 := by omega
  have HRL := GR hrl
  have HOO := GR ho
  have HOS := GR hos
  have HG := GR hg
  have HV := GR hv
  clear ho hg hv hos hrl
  go_enter Tryz.func140, Tryz.ntmps140
  go_wp2_with fail
  refine HC.out.mono ?_
  rintro e w1 ⟨rfl, b1⟩
  have HR1 := GR (HR.out w1 (HG.out.below b1))
  have HB1 := GR b1
  clear b1
  go_wp2_with fail
  refine HR1.out.mono ?_
  rintro e w2 ⟨rfl, b2⟩
  have HB2 := GR (HB1.out.trans (b2.mono HB1.out.size))
  clear b2
  go_wp2_with fail
  go_loopw [4, 14] (fun ov iv wr => ∃ (k : Nat) (out : ByteArray), k ≤ o.size ∧ iv = .int .i64 k ∧ ov = .string out ∧ Hid (out = ae g (((am g).take k).filter fun t => decide (2 ≤ (dg g bD t).length))) ∧ Hid (Below w.heap.size w wr)) (fun _ iv _ => o.size - (intOf iv).toNat)
  case atStart => exact ⟨0, ⟨#[]⟩, Nat.zero_le _, rfl, rfl, rfl, HB2.out⟩
  case round =>
   obtain ⟨k, out, hk, rfl, rfl, HOUT, HB⟩ := hrel
   have hoz : out.size ≤ k := by
    rw [HOUT.out, ax HV.out _ fun i hi => HRL.out i ((List.take_subset _ _) (List.mem_filter.1 hi).1)]
    have := List.length_filter_le (fun t => decide (2 ≤ (dg g bD t).length)) ((am g).take k)
    have := List.length_take_le k (am g)
    omega
   by_cases hlt : k < o.size
   ·have hlt' : k < (am g).length := by rw [← HOS.out]; exact hlt
    obtain ⟨x, hx⟩ : ∃ x, x = (am g)[k] := ⟨_, rfl⟩
    have hxr := (aU HV.out).1 (hx ▸ List.getElem_mem hlt' : x ∈ am g)
    have hxl : x < g.length := hxr.lt HV.out
    obtain ⟨_, hcut⟩ := dD HV.out HRL.out hlt'
    have HEX := GR (show o.extract k (k + 1) = ay g x by rw [HOO.out, hcut, al hxl]; congr 2; exact hx.symm)
    have hk1 : k + 1 ≤ o.size := by omega
    have hxz : (o.extract k (k + 1)).size = 1 := by rw [HEX.out]; exact e8 HV.out hxl
    have hz : out.size + (o.extract k (k + 1)).size ≤ 1048576 := by omega
    have HFT := GR (eO (p := fun t => decide (2 ≤ (dg g bD t).length)) hlt')
    have HX := GR hx
    have HD := GR (uw A cap g (o.extract k (k + 1)) x wr (HG.out.below HB.out) (by omega) HV.out hxr HEX.out)
    obtain ⟨n, hnn⟩ : ∃ n, n = (dg g bD x).length := ⟨_, rfl⟩
    rw [← hnn] at HD
    clear hx hcut hxz hxr
    by_cases hq : 2 ≤ n
    ·have hqI : (1 : Int) < (n : Int) := by omega
     have HO2 := GR (show out ++ o.extract k (k + 1) = ae g (((am g).take (k + 1)).filter fun t => decide (2 ≤ (dg g bD t).length)) by
      rw [HFT.out, ← HX.out, ← hnn, decide_eq_true hq, if_pos rfl, be, bp, HOUT.out, HEX.out])
     clear hnn hq
     go_wp2_with fail
     refine HD.out.mono ?_
     rintro e w4 ⟨rfl, b4⟩
     have HB4 := GR (af HB.out b4)
     clear b4
     go_wp2_with fail
     go_roundw
     case rel => exact ⟨k + 1, _, by omega, by go_num, rfl, HO2.out, HB4.out⟩
     case measure => simp [intOf]; omega
    ·have hqI : ¬ (1 : Int) < (n : Int) := by omega
     have HO2 := GR (show out = ae g (((am g).take (k + 1)).filter fun t => decide (2 ≤ (dg g bD t).length)) by
      rw [HFT.out, ← HX.out, ← hnn, decide_eq_false hq, if_neg (by simp), List.append_nil, HOUT.out])
     clear hnn hq
     go_wp2_with fail
     refine HD.out.mono ?_
     rintro e w4 ⟨rfl, b4⟩
     have HB4 := GR (af HB.out b4)
     clear b4
     go_wp2_with fail
     go_roundw
     case rel => exact ⟨k + 1, _, by omega, by go_num, rfl, HO2.out, HB4.out⟩
     case measure => simp [intOf]; omega
   ·have HE := GR (show out = ae g (ak g) by
     rw [HOUT.out, List.take_of_length_le (by rw [← HOS.out]; omega)]; rfl)
    go_wp2_with fail
    go_ret2
    exact ⟨qU HE.out rfl, HB.out⟩
 ·have hv : aa g = false := by simpa using hv
  rw [hv] at HC
  rw [if_neg (by rw [hv]; simp), hv]
  clear hg hv
  go_enter Tryz.func140, Tryz.ntmps140
  go_wp2_with fail
  refine HC.out.mono ?_
  rintro e w1 ⟨rfl, b1⟩
  have HB1 := GR b1
  clear b1
  go_wp2_with fail
  go_ret2
  exact ⟨rfl, HB1.out⟩
end Go.Proofs.YtlkfakdghjaoaaaGreatDoor
