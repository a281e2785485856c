import Derived.Test.YtlkfakdghjaoaaaGreatDoorModelMake
import Derived.Test.YtlkfakdghjaoaaaGreatDoorSpecMeets
import Derived.Test.YtlkfakdghjaoaaaGreatDoorJ8
import Derived.Test.YtlkfakdghjaoaaaGreatDoorJ1
set_option maxRecDepth 100000
set_option maxHeartbeats 3200000
namespace Go.Proofs.YtlkfakdghjaoaaaGreatDoor
open Go.RowKit Go.Sort
attribute [local go_sem] Oper.semAt_some
theorem tk (n : Nat) : kj n (fun _ => []) = madeCells #[.string ⟨#[]⟩] n := by
 apply Array.ext_getElem?
 intro j
 by_cases hj : j < n
 ·rw [iH _ hj, Array.getElem?_eq_getElem (by rw [size_madeCells]; exact hj)]
  simp [madeCells, tb, Nat.mod_one]
 ·rw [Array.getElem?_eq_none (by rw [kG]; omega), Array.getElem?_eq_none (by rw [size_madeCells]; omega)]
def Gt (w wx : World) (A : Option Addr) (cap : Nat) (g : List Bl) (s : Value) : Prop :=
 ∃ MB AB PB, s = .pointer (some ⟨MB, 0, none⟩) ∧ Blk wx MB 108 #[.slice A g.length cap, .string (ae g (ac g)), .string (ae g (ak g)), .string (ae g (aL g)), .slice (some ⟨AB, 0, none⟩) g.length g.length, .slice (some ⟨PB, 0, none⟩) g.length g.length] ∧
  Blk wx AB 9 (madeCells #[.string ⟨#[]⟩] g.length) ∧ Blk wx PB 9 (madeCells #[.string ⟨#[]⟩] g.length) ∧ AB ≠ PB ∧ w.heap.size ≤ MB ∧ w.heap.size ≤ AB ∧ w.heap.size ≤ PB ∧ Below w.heap.size w wx
theorem zJ (A : Option Addr) (cap : Nat) (g : List Bl) (w : World) (hg : Gr w A g) (hn : g.length + aO g ≤ 1048576) (hcap : g.length ≤ cap) (hv : aa g = true) :
  Calls Tryz.prog 94 #[.slice A g.length cap] w fun e w' => ∃ MB AB PB, w.heap.size ≤ MB ∧ w.heap.size ≤ AB ∧ w.heap.size ≤ PB ∧ e = .returned (.pointer (some ⟨MB, 0, none⟩)) ∧ Below w.heap.size w w' ∧ Mk w' MB AB PB A cap g (fun _ => []) (fun _ => []) := by
 have HMT := GR (uz A cap g w hg hn hcap)
 have HOR : Hid (∀ W, Gr W A g → Calls Tryz.prog 141 #[.slice A g.length cap] W fun e w' => e = .returned (.string (ae g (ac g))) ∧ Hid (Below W.heap.size W w')) := GR (fun W h => iY A cap g W h (by omega) hv)
 have HHD : Hid (∀ W, Gr W A g → Calls Tryz.prog 142 #[.slice A g.length cap] W fun e w' => e = .returned (.string (ae g (aL g))) ∧ Hid (Below W.heap.size W w')) := GR (fun W h => ux A cap g W h hn hv)
 have hmk := run_make_row' (P := Tryz.prog) 37 9 (.string ⟨#[]⟩) 16 Tryz.underlying37 km rfl .i64 .i64 g.length (by omega) (by omega)
 have HV := GR hv
 have HG := GR hg
 have em : i9 g = ae g (ak g) := by unfold i9; rw [if_pos hv]
 rw [em] at HMT
 clear hv hg em
 go_enter Tryz.func94, Tryz.ntmps94
 go_wp2_with fail
 refine HMT.out.mono ?_
 rintro e w1 ⟨rfl, b1⟩
 have HB1 := GR b1
 have hz1 := b1.size
 have HG1 := GR (HG.out.below b1)
 clear b1 HMT
 obtain ⟨MC, hMC⟩ : ∃ MC, MC = madeCells #[.string ⟨#[]⟩] g.length := ⟨_, rfl⟩
 have HMC := GR hMC
 rw [← hMC] at hmk
 clear hMC
 go_upto_region 2 with fail
 go_cut [2] (fun s2 wx => Gt w wx A cap g s2)
 case first =>
  go_region_law (first
   | (go_simp; go_at_call 141; refine Calls.mono (HOR.out _ ?_) ?_
      · repeat (first | with_reducible exact HG1.out | with_reducible refine Gr.alloc_ ?_ _ | with_reducible refine Gr.drew_ ?_ | with_reducible refine Gr.ext b3 ?_)
      rintro e w2 ⟨rfl, b2⟩
      have z2 := b2.out.size)
   | (go_simp; go_at_call 142; refine Calls.mono (HHD.out _ ?_) ?_
      · repeat (first | with_reducible exact HG1.out | with_reducible refine Gr.alloc_ ?_ _ | with_reducible refine Gr.drew_ ?_ | with_reducible refine Gr.ext b2 ?_)
      rintro e w3 ⟨rfl, b3⟩
      have z3 := b3.out.size)
   | fail)
  all_goals
   go_wp2_with fail
   go_meet
  all_goals
   try simp at z2 z3
   refine ⟨_, _, _, rfl, by with_reducible exact Blk.newAt _ _ (by first | rfl | (simp; done)), ?_, ?_, ?_, ?_, ?_, ?_, ?_⟩
   ·rw [← HMC.out]
    repeat (first | (with_reducible refine Blk.newAt _ _ ?_; (first | rfl | simp); done) | with_reducible refine Blk.alloc ?_ _ | with_reducible refine Blk.drew ?_ | with_reducible refine Blk.ext b3 ?_ | with_reducible refine Blk.ext b2 ?_)
   ·rw [← HMC.out]
    repeat (first | (with_reducible refine Blk.newAt _ _ ?_; (first | rfl | simp); done) | with_reducible refine Blk.alloc ?_ _ | with_reducible refine Blk.drew ?_ | with_reducible refine Blk.ext b3 ?_ | with_reducible refine Blk.ext b2 ?_)
   ·omega
   ·omega
   ·omega
   ·omega
   ·repeat (first | with_reducible exact HB1.out | with_reducible refine Below.drew ?_ | with_reducible refine Below.ext b3 (by first | omega | (simp; omega)) ?_ | with_reducible refine Below.ext b2 (by first | omega | (simp; omega)) ?_ | with_reducible refine Below.alloc ?_ (by first | omega | (simp; omega)) _)
 case rest =>
  obtain ⟨MB, AB, PB, rfl, k0, k1, k2, hne, h0, h1, h2, hb⟩ := hcut
  have HK : Hid (∃ MB' AB PB, w.heap.size ≤ MB' ∧ w.heap.size ≤ AB ∧ w.heap.size ≤ PB ∧ (⟨MB, 0, none⟩ : Addr) = ⟨MB', 0, none⟩ ∧ Below w.heap.size w wc ∧ Mk wc MB' AB PB A cap g (fun _ => []) (fun _ => [])) := GR (by
   refine ⟨MB, AB, PB, h0, h1, h2, rfl, hb, ⟨k0, by rw [tk]; exact k1, by rw [tk]; exact k2, HG.out.below hb, hne, ?_, ?_, fun b off e => ?_⟩⟩
   ·exact En k0 k1 (by decide)
   ·exact En k0 k2 (by decide)
   ·have hb2 : 0 < g.length → b < w.heap.size := fun hp => by
     obtain ⟨b', off', e', hlt, _⟩ := HG.out hp
     rw [e] at e'
     injection e' with e'
     injection e' with e' _
     omega
    have hpos := (aj.1 HV.out).1
    have := hb2 hpos
    omega)
  clear k0 k1 k2 hb hmk HOR HHD
  go_wp2_with fail
  go_ret
  obtain ⟨MB', AB', PB', q0, q1, q2, q3, q4, q5⟩ := HK.out
  injection q3 with q3 _
  subst q3
  exact ⟨_, q0, _, q1, _, q2, rfl, q4, q5⟩
end Go.Proofs.YtlkfakdghjaoaaaGreatDoor
namespace Go.Proofs.YtlkfakdghjaoaaaGreatDoor
open Go.RowKit Go.Sort
attribute [local go_sem] Oper.semAt_some
noncomputable def aD (g : List Bl) : List UInt8 := aw g (ac g).length 0 []
noncomputable def aY (g : List Bl) : Bool := dV g && iq (aD g)
noncomputable def Ef (g : List Bl) : Nat → List UInt8 := fZ (fun _ => []) (qO g (m9 g (ac g).length 0 []))
noncomputable def Eg (g : List Bl) : Nat → List UInt8 := fZ (fun _ => []) (jy g (ac g).length 0 [])
theorem cm {g : List Bl} : dV g = true ↔ aa g = true ∧ (bw g dj).length = 0 := by
 unfold dV
 rw [Bool.and_eq_true, decide_eq_true_iff]
theorem fB {g : List Bl} (h : dV g = true) : (aD g).length ≤ 416 := by
 obtain ⟨hv, hw⟩ := cm.1 h
 exact li hv (lJ hv hw) (.start (by simp)) []
theorem zK (A : Option Addr) (cap : Nat) (g : List Bl) (w : World) (hg : Gr w A g) (hn : g.length + aO g ≤ 1048576) (hcap : g.length ≤ cap) (ht : dV g = true) :
  Calls Tryz.prog 54 #[.slice A g.length cap] w fun e w' => ∃ MB AB PB, e = .returned (.tuple #[.string (tb (aD g)), .pointer (some ⟨MB, 0, none⟩), .bool (iq (aD g))]) ∧ Below w.heap.size w w' ∧ Mk w' MB AB PB A cap g (Ef g) (Eg g) := by
 obtain ⟨hv, hw⟩ := cm.1 ht
 have hT := lJ hv hw
 have hpos := (aj.1 hv).1
 have HIT := GR (iN A cap g w hg hn hcap)
 rw [ht] at HIT
 have HMK := GR (fun W h => zJ A cap g W h hn hcap hv)
 have HTR := GR (fun MB AB PB W (h : Mk W MB AB PB A cap g (fun _ => []) (fun _ => [])) => vH hv hT hn (ac g).length 0 [] (fun _ => []) (fun _ => []) W (.start (by simp)) (by omega) (kh g) (lg g) h)
 have hsm := fB ht
 have hnm : g[0].1 = cy g 0 := by have := eM hv hpos; rw [al hpos] at this; exact this
 have HTV := GR (fun W => sm (tb (aD g)) W (by rw [aB]; omega))
 rw [aI] at HTV
 have HNM := GR hnm
 have HG := GR hg
 have hzt : (tb (aD g)).size ≤ 416 := by rw [aB]; exact hsm
 clear hv hw hT ht hsm hg hnm
 rw [show aw g (ac g).length 0 [] = aD g from rfl, show fZ (fun _ => []) (qO g (m9 g (ac g).length 0 [])) = Ef g from rfl, show fZ (fun _ => []) (jy g (ac g).length 0 []) = Eg g from rfl, show cH g [] = [] from rfl] at HTR
 go_enter Tryz.func54, Tryz.ntmps54
 go_wp2_with fail
 refine HIT.out.mono ?_
 rintro e w1 ⟨rfl, b1⟩
 have HC1 := GR (HMK.out w1 (HG.out.below b1))
 have HB1 := GR b1
 clear b1
 go_wp2_with fail
 refine HC1.out.mono ?_
 rintro e w2 ⟨MB, AB, PB, h0, h1, h2, rfl, b2, hM⟩
 have HC2 := GR (HTR.out MB AB PB w2 hM)
 have HM := GR hM
 have HB2 := GR (HB1.out.trans (b2.mono HB1.out.size))
 have hz := HB1.out.size
 obtain ⟨b, off, rfl, hb, hc⟩ := hM.gr hpos
 have c0 := (hc 0 hpos).1
 rw [HNM.out, Nat.zero_mul, Nat.add_zero] at c0
 clear hM b2 hc
 go_wp2_with fail
 refine HC2.out.mono ?_
 rintro e w3 ⟨rfl, hT3, hM3⟩
 have HB3 := GR (HB2.out.trans (hT3.below (n₀ := w.heap.size) HB2.out.size fun k hk => by rcases hk with rfl | rfl <;> omega))
 have HC3 := GR (HTV.out w3)
 have HM3 := GR hM3
 clear hT3 hM3
 go_wp2_with fail
 refine HC3.out.mono ?_
 rintro e w4 ⟨rfl, b4⟩
 have HB4 := GR (HB3.out.trans (b4.mono HB3.out.size))
 have HM4 := GR (HM3.out.below b4)
 clear b4
 go_wp2_with fail
 exact bodyPost_ret (v := .tuple #[.string (tb (aD g)), .pointer (some ⟨MB, 0, none⟩), .bool (iq (aD g))]) (by simp [results, Tryz.results54, go_sem]) rfl ⟨MB, AB, PB, rfl, HB4.out, HM4.out⟩
theorem Bz (A : Option Addr) (cap : Nat) (g : List Bl) (w : World) (hg : Gr w A g) (hn : g.length + aO g ≤ 1048576) (hcap : g.length ≤ cap) (ht : dV g = false) :
  Calls Tryz.prog 54 #[.slice A g.length cap] w fun e w' => ∃ p, e = .returned (.tuple #[.string ⟨#[]⟩, .pointer (some ⟨p, 0, none⟩), .bool false]) ∧ Below w.heap.size w w' := by
 have HIT := GR (iN A cap g w hg hn hcap)
 rw [ht] at HIT
 clear hg ht
 go_enter Tryz.func54, Tryz.ntmps54
 go_wp2_with fail
 refine HIT.out.mono ?_
 rintro e w1 ⟨rfl, b1⟩
 have HB1 := GR b1
 have hz := b1.size
 clear b1
 go_wp2_with fail
 exact bodyPost_ret (v := .tuple #[.string ⟨#[]⟩, .pointer (some ⟨w1.heap.size, 0, none⟩), .bool false]) (by simp [results, Tryz.results54, go_sem]) rfl ⟨_, rfl, HB1.out.alloc hz _⟩
noncomputable def fh (g : List Bl) : ByteArray := if aY g = true then tb (aD g) else ⟨#[]⟩
theorem kg (A : Option Addr) (cap : Nat) (g : List Bl) (w : World) (hg : Gr w A g) (hn : g.length + aO g ≤ 1048576) (hcap : g.length ≤ cap) :
  Calls Tryz.prog 13 #[.slice A g.length cap] w fun e w' => e = .returned (.tuple #[.string (fh g), .bool (aY g)]) ∧ Below w.heap.size w w' := by
 cases ht : dV g with
 | true =>
  have HC := GR (zK A cap g w hg hn hcap ht)
  cases hb : iq (aD g) with
  | true =>
   have HB : Hid (aY g = true) := GR (by unfold aY; rw [ht, hb]; rfl)
   rw [hb] at HC
   clear hg ht hb
   go_enter Tryz.func13, Tryz.ntmps13
   go_wp2_with fail
   refine HC.out.mono ?_
   rintro e w1 ⟨MB, AB, PB, rfl, b1, hM⟩
   have HB1 := GR b1
   clear b1 hM
   go_wp2_with fail
   go_ret2
   exact ⟨by unfold fh; rw [HB.out]; rfl, HB1.out⟩
  | false =>
   have HB : Hid (aY g = false) := GR (by unfold aY; rw [ht, hb]; rfl)
   rw [hb] at HC
   clear hg ht hb
   go_enter Tryz.func13, Tryz.ntmps13
   go_wp2_with fail
   refine HC.out.mono ?_
   rintro e w1 ⟨MB, AB, PB, rfl, b1, hM⟩
   have HB1 := GR b1
   clear b1 hM
   go_wp2_with fail
   go_ret2
   exact ⟨by unfold fh; rw [HB.out]; rfl, HB1.out⟩
 | false =>
  have HC := GR (Bz A cap g w hg hn hcap ht)
  have HB : Hid (aY g = false) := GR (by unfold aY; rw [ht]; rfl)
  clear hg ht
  go_enter Tryz.func13, Tryz.ntmps13
  go_wp2_with fail
  refine HC.out.mono ?_
  rintro e w1 ⟨p, rfl, b1⟩
  have HB1 := GR b1
  clear b1
  go_wp2_with fail
  go_ret2
  exact ⟨by unfold fh; rw [HB.out]; rfl, HB1.out⟩
end Go.Proofs.YtlkfakdghjaoaaaGreatDoor
