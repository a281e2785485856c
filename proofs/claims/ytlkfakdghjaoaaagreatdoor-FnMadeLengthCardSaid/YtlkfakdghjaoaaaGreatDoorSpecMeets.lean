import Derived.Test.YtlkfakdghjaoaaaGreatDoorJ12
import Derived.Test.YtlkfakdghjaoaaaGreatDoorSpecBack
import Derived.Test.YtlkfakdghjaoaaaGreatDoorJ5
namespace Go.Proofs.YtlkfakdghjaoaaaGreatDoor
open Go.RowKit
set_option maxRecDepth 100000 in
set_option maxHeartbeats 1000000 in
theorem specMeets_any (A : Option Addr) (cap : Nat) (g : List Bl) (w : World) (hg : Gr w A g) (hn : g.length + tot g ≤ 1048576) (hcap : g.length ≤ cap) :
  Calls Tryz.prog 140 #[.slice A g.length cap] w fun e w' => e = .returned (.tuple #[.string (meetsV g), .bool (validB g)]) ∧ Below w.heap.size w w' := by
 have HC := Lib.hid (specValid_any A cap g w hg hn hcap)
 unfold meetsV
 by_cases hv : validB g = true
 ·rw [hv] at HC
  rw [if_pos hv, hv]
  have h26 := (valid_iff.1 hv).2.1
  have HR := Lib.hid (fun w' (h : Gr w' A g) => l1Reached_any A cap g w' h hn hv)
  obtain ⟨o, ho⟩ : ∃ o, o = namesAt g (reachS g) := ⟨_, rfl⟩
  have hrl : ∀ i ∈ reachS g, i < g.length := fun i hi => ((mem_reachS' hv).1 hi).lt hv
  have hos : o.size = (reachS g).length := by rw [ho]; exact namesAt_size hv _ hrl
  have hol := reachS_small hv
  rw [← ho] at HR
  have hos2 : o.size ≤ 26 := by omega
  have HRL := Lib.hid hrl
  have HOO := Lib.hid ho
  have HOS := Lib.hid hos
  have HG := Lib.hid hg
  have HV := Lib.hid hv
  clear ho hg hv hos hrl
  go_enter Tryz.func140, Tryz.ntmps140
  go_wp2_with fail
  refine HC.out.mono ?_
  rintro e w1 ⟨rfl, b1⟩
  have HR1 := Lib.hid (HR.out w1 (HG.out.below b1))
  have HB1 := Lib.hid b1
  clear b1
  go_wp2_with fail
  refine HR1.out.mono ?_
  rintro e w2 ⟨rfl, b2⟩
  have HB2 := Lib.hid (HB1.out.trans (b2.mono HB1.out.size))
  clear b2
  go_wp2_with fail
  go_loopw [4, 14] (fun ov iv wr => ∃ (k : Nat) (out : ByteArray), k ≤ o.size ∧ iv = .int .i64 k ∧ ov = .string out ∧ Hid (out = namesAt g (((reachS g).take k).filter fun t => decide (2 ≤ (srcL g fwdK t).length))) ∧ Hid (Below w.heap.size w wr)) (fun _ iv _ => o.size - (intOf iv).toNat)
  case atStart => exact ⟨0, ⟨#[]⟩, Nat.zero_le _, rfl, rfl, rfl, HB2.out⟩
  case round =>
   obtain ⟨k, out, hk, rfl, rfl, HOUT, HB⟩ := hrel
   have hoz : out.size ≤ k := by
    rw [HOUT.out, namesAt_size HV.out _ fun i hi => HRL.out i ((List.take_subset _ _) (List.mem_filter.1 hi).1)]
    have := List.length_filter_le (fun t => decide (2 ≤ (srcL g fwdK t).length)) ((reachS g).take k)
    have := List.length_take_le k (reachS g)
    omega
   by_cases hlt : k < o.size
   ·have hlt' : k < (reachS g).length := by rw [← HOS.out]; exact hlt
    obtain ⟨x, hx⟩ : ∃ x, x = (reachS g)[k] := ⟨_, rfl⟩
    have hxr := (mem_reachS' HV.out).1 (hx ▸ List.getElem_mem hlt' : x ∈ reachS g)
    have hxl : x < g.length := hxr.lt HV.out
    obtain ⟨_, hcut⟩ := namesAt_cut HV.out HRL.out hlt'
    have HEX := Lib.hid (show o.extract k (k + 1) = nthName g x by rw [HOO.out, hcut, nthName_at hxl]; congr 2; exact hx.symm)
    have hk1 : k + 1 ≤ o.size := by omega
    have hxz : (o.extract k (k + 1)).size = 1 := by rw [HEX.out]; exact one_size HV.out hxl
    have hz : out.size + (o.extract k (k + 1)).size ≤ 1048576 := by omega
    have HFT := Lib.hid (filter_take (p := fun t => decide (2 ≤ (srcL g fwdK t).length)) hlt')
    have HX := Lib.hid hx
    have HD := Lib.hid (l4Forward_any A cap g (o.extract k (k + 1)) x wr (HG.out.below HB.out) (by omega) HV.out hxr HEX.out)
    obtain ⟨n, hnn⟩ : ∃ n, n = (srcL g fwdK x).length := ⟨_, rfl⟩
    rw [← hnn] at HD
    clear hx hcut hxz hxr
    by_cases hq : 2 ≤ n
    ·have hqI : (1 : Int) < (n : Int) := by omega
     have HO2 := Lib.hid (show out ++ o.extract k (k + 1) = namesAt g (((reachS g).take (k + 1)).filter fun t => decide (2 ≤ (srcL g fwdK t).length)) by
      rw [HFT.out, ← HX.out, ← hnn, decide_eq_true hq, if_pos rfl, namesAt_append, namesAt_one, HOUT.out, HEX.out])
     clear hnn hq
     go_wp2_with fail
     refine HD.out.mono ?_
     rintro e w4 ⟨rfl, b4⟩
     have HB4 := Lib.hid (below_trans_self HB.out b4)
     clear b4
     go_wp2_with fail
     go_roundw
     case rel => exact ⟨k + 1, _, by omega, by go_num, rfl, HO2.out, HB4.out⟩
     case measure => simp [intOf]; omega
    ·have hqI : ¬ (1 : Int) < (n : Int) := by omega
     have HO2 := Lib.hid (show out = namesAt g (((reachS g).take (k + 1)).filter fun t => decide (2 ≤ (srcL g fwdK t).length)) by
      rw [HFT.out, ← HX.out, ← hnn, decide_eq_false hq, if_neg (by simp), List.append_nil, HOUT.out])
     clear hnn hq
     go_wp2_with fail
     refine HD.out.mono ?_
     rintro e w4 ⟨rfl, b4⟩
     have HB4 := Lib.hid (below_trans_self HB.out b4)
     clear b4
     go_wp2_with fail
     go_roundw
     case rel => exact ⟨k + 1, _, by omega, by go_num, rfl, HO2.out, HB4.out⟩
     case measure => simp [intOf]; omega
   ·have HE := Lib.hid (show out = namesAt g (meetsL g) by
     rw [HOUT.out, List.take_of_length_le (by rw [← HOS.out]; omega)]; rfl)
    go_wp2_with fail
    go_ret2
    exact ⟨ret_sb HE.out rfl, HB.out⟩
 ·have hv : validB g = false := by simpa using hv
  rw [hv] at HC
  rw [if_neg (by rw [hv]; simp), hv]
  clear hg hv
  go_enter Tryz.func140, Tryz.ntmps140
  go_wp2_with fail
  refine HC.out.mono ?_
  rintro e w1 ⟨rfl, b1⟩
  have HB1 := Lib.hid b1
  clear b1
  go_wp2_with fail
  go_ret2
  exact ⟨rfl, HB1.out⟩
end Go.Proofs.YtlkfakdghjaoaaaGreatDoor
