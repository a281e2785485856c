import Derived.Test.YtlkfakdghjaoaaaGreatDoorModelMake
import Derived.Test.YtlkfakdghjaoaaaGreatDoorSpecMeets
import Derived.Test.YtlkfakdghjaoaaaGreatDoorJ8
import Derived.Test.YtlkfakdghjaoaaaGreatDoorJ1
set_option maxRecDepth 100000
set_option maxHeartbeats 3200000
namespace Go.Proofs.YtlkfakdghjaoaaaGreatDoor
open Go.RowKit Go.Sort
attribute [local go_sem] Oper.semAt_some
theorem so (n : Nat) : jF n (fun _ => []) = madeCells #[.string ⟨#[]⟩] n := by
 apply Array.ext_getElem?
 intro j
 by_cases hj : j < n
 ·rw [gX _ hj, Array.getElem?_eq_getElem (by rw [size_madeCells]; exact hj)]
  simp [madeCells, tb, Nat.mod_one]
 ·rw [Array.getElem?_eq_none (by rw [jX]; omega), Array.getElem?_eq_none (by rw [size_madeCells]; omega)]
def FG (w wx : World) (A : Option Addr) (cap : Nat) (g : List Bl) (s : Value) : Prop :=
 ∃ MB AB PB, s = .pointer (some ⟨MB, 0, none⟩) ∧ Blk wx MB 108 #[.slice A g.length cap, .string (ae g (af g)), .string (ae g (aw g)), .string (ae g (aS g)), .slice (some ⟨AB, 0, none⟩) g.length g.length, .slice (some ⟨PB, 0, none⟩) g.length g.length] ∧
  Blk wx AB 9 (madeCells #[.string ⟨#[]⟩] g.length) ∧ Blk wx PB 9 (madeCells #[.string ⟨#[]⟩] g.length) ∧ AB ≠ PB ∧ w.heap.size ≤ MB ∧ w.heap.size ≤ AB ∧ w.heap.size ≤ PB ∧ Below w.heap.size w wx
theorem yJ (A : Option Addr) (cap : Nat) (g : List Bl) (w : World) (hg : Gr w A g) (hn : g.length + aM g ≤ 1048576) (hcap : g.length ≤ cap) (hv : aa g = true) :
  Calls Tryz.prog 94 #[.slice A g.length cap] w fun e w' => ∃ MB AB PB, w.heap.size ≤ MB ∧ w.heap.size ≤ AB ∧ w.heap.size ≤ PB ∧ e = .returned (.pointer (some ⟨MB, 0, none⟩)) ∧ Below w.heap.size w w' ∧ Mk w' MB AB PB A cap g (fun _ => []) (fun _ => []) := by
 have HMT := F7 (tw A cap g w hg hn hcap)
 have HOR : Hid (∀ W, Gr W A g → Calls Tryz.prog 141 #[.slice A g.length cap] W fun e w' => e = .returned (.string (ae g (af g))) ∧ Hid (Below W.heap.size W w')) := F7 (fun W h => ir A cap g W h (by omega) hv)
 have HHD : Hid (∀ W, Gr W A g → Calls Tryz.prog 142 #[.slice A g.length cap] W fun e w' => e = .returned (.string (ae g (aS g))) ∧ Hid (Below W.heap.size W w')) := F7 (fun W h => tu A cap g W h hn hv)
 have hmk := run_make_row' (P := Tryz.prog) 37 9 (.string ⟨#[]⟩) 16 Tryz.underlying37 gY rfl .i64 .i64 g.length (by omega) (by omega)
 have HV := F7 hv
 have HG := F7 hg
 have em : pZ g = ae g (aw g) := by unfold pZ; rw [if_pos hv]
 rw [em] at HMT
 clear hv hg em
 go_enter Tryz.func94, Tryz.ntmps94
 go_wp2_with fail
 refine HMT.out.mono ?_
 rintro e w1 ⟨rfl, b1⟩
 have HB1 := F7 b1
 have hz1 := b1.size
 have HG1 := F7 (HG.out.below b1)
 clear b1 HMT
 obtain ⟨MC, hMC⟩ : ∃ MC, MC = madeCells #[.string ⟨#[]⟩] g.length := ⟨_, rfl⟩
 have HMC := F7 hMC
 rw [← hMC] at hmk
 clear hMC
 go_upto_region 2 with fail
 go_cut [2] (fun s2 wx => FG w wx A cap g s2)
 case first =>
  go_region_law (first
   | (go_simp; go_at_call 141; refine Calls.mono (HOR.out _ ?_) ?_
      · repeat (first | with_reducible exact HG1.out | with_reducible refine Gr.alloc_ ?_ _ | with_reducible refine Gr.drew_ ?_ | with_reducible refine Gr.ext b3 ?_)
      rintro e w2 ⟨rfl, b2⟩
      have z2 := b2.out.size)
   | (go_simp; go_at_call 142; refine Calls.mono (HHD.out _ ?_) ?_
      · repeat (first | with_reducible exact HG1.out | with_reducible refine Gr.alloc_ ?_ _ | with_reducible refine Gr.drew_ ?_ | with_reducible refine Gr.ext b2 ?_)
      rintro e w3 ⟨rfl, b3⟩
      have z3 := b3.out.size)
   | fail)
  all_goals
   go_wp2_with fail
   go_meet
  all_goals
   try simp at z2 z3
   refine ⟨_, _, _, rfl, by with_reducible exact Blk.newAt _ _ (by first | rfl | (simp; done)), ?_, ?_, ?_, ?_, ?_, ?_, ?_⟩
   ·rw [← HMC.out]
    repeat (first | (with_reducible refine Blk.newAt _ _ ?_; (first | rfl | simp); done) | with_reducible refine Blk.alloc ?_ _ | with_reducible refine Blk.drew ?_ | with_reducible refine Blk.ext b3 ?_ | with_reducible refine Blk.ext b2 ?_)
   ·rw [← HMC.out]
    repeat (first | (with_reducible refine Blk.newAt _ _ ?_; (first | rfl | simp); done) | with_reducible refine Blk.alloc ?_ _ | with_reducible refine Blk.drew ?_ | with_reducible refine Blk.ext b3 ?_ | with_reducible refine Blk.ext b2 ?_)
   ·omega
   ·omega
   ·omega
   ·omega
   ·repeat (first | with_reducible exact HB1.out | with_reducible refine Below.drew ?_ | with_reducible refine Below.ext b3 (by first | omega | (simp; omega)) ?_ | with_reducible refine Below.ext b2 (by first | omega | (simp; omega)) ?_ | with_reducible refine Below.alloc ?_ (by first | omega | (simp; omega)) _)
 case rest =>
  obtain ⟨MB, AB, PB, rfl, k0, k1, k2, hne, h0, h1, h2, hb⟩ := hcut
  have HK : Hid (∃ MB' AB PB, w.heap.size ≤ MB' ∧ w.heap.size ≤ AB ∧ w.heap.size ≤ PB ∧ (⟨MB, 0, none⟩ : Addr) = ⟨MB', 0, none⟩ ∧ Below w.heap.size w wc ∧ Mk wc MB' AB PB A cap g (fun _ => []) (fun _ => [])) := F7 (by
   refine ⟨MB, AB, PB, h0, h1, h2, rfl, hb, ⟨k0, by rw [so]; exact k1, by rw [so]; exact k2, HG.out.below hb, hne, ?_, ?_, fun b off e => ?_⟩⟩
   ·exact Di k0 k1 (by decide)
   ·exact Di k0 k2 (by decide)
   ·have hb2 : 0 < g.length → b < w.heap.size := fun hp => by
     obtain ⟨b', off', e', hlt, _⟩ := HG.out hp
     rw [e] at e'
     injection e' with e'
     injection e' with e' _
     omega
    have hpos := (ak.1 HV.out).1
    have := hb2 hpos
    omega)
  clear k0 k1 k2 hb hmk HOR HHD
  go_wp2_with fail
  go_ret
  obtain ⟨MB', AB', PB', q0, q1, q2, q3, q4, q5⟩ := HK.out
  injection q3 with q3 _
  subst q3
  exact ⟨_, q0, _, q1, _, q2, rfl, q4, q5⟩
end Go.Proofs.YtlkfakdghjaoaaaGreatDoor
namespace Go.Proofs.YtlkfakdghjaoaaaGreatDoor
open Go.RowKit Go.Sort
attribute [local go_sem] Oper.semAt_some
noncomputable def aT (g : List Bl) : List UInt8 := av g (af g).length 0 []
noncomputable def aU (g : List Bl) : Bool := df g && dw (aT g)
noncomputable def Da (g : List Bl) : Nat → List UInt8 := fA (fun _ => []) (qm g (mE g (af g).length 0 []))
noncomputable def Db (g : List Bl) : Nat → List UInt8 := fA (fun _ => []) (iX g (af g).length 0 [])
theorem cH {g : List Bl} : df g = true ↔ aa g = true ∧ (bD g c6).length = 0 := by
 unfold df
 rw [Bool.and_eq_true, decide_eq_true_iff]
theorem fe {g : List Bl} (h : df g = true) : (aT g).length ≤ 416 := by
 obtain ⟨hv, hw⟩ := cH.1 h
 exact kw hv (kY hv hw) (.start (by simp)) []
theorem yK (A : Option Addr) (cap : Nat) (g : List Bl) (w : World) (hg : Gr w A g) (hn : g.length + aM g ≤ 1048576) (hcap : g.length ≤ cap) (ht : df g = true) :
  Calls Tryz.prog 54 #[.slice A g.length cap] w fun e w' => ∃ MB AB PB, e = .returned (.tuple #[.string (tb (aT g)), .pointer (some ⟨MB, 0, none⟩), .bool (dw (aT g))]) ∧ Below w.heap.size w w' ∧ Mk w' MB AB PB A cap g (Da g) (Db g) := by
 obtain ⟨hv, hw⟩ := cH.1 ht
 have hT := kY hv hw
 have hpos := (ak.1 hv).1
 have HIT := F7 (g9 A cap g w hg hn hcap)
 rw [ht] at HIT
 have HMK := F7 (fun W h => yJ A cap g W h hn hcap hv)
 have HTR := F7 (fun MB AB PB W (h : Mk W MB AB PB A cap g (fun _ => []) (fun _ => [])) => uI hv hT hn (af g).length 0 [] (fun _ => []) (fun _ => []) W (.start (by simp)) (by omega) (jD g) (kt g) h)
 have hsm := fe ht
 have hnm : g[0].1 = ce g 0 := by have := ez hv hpos; rw [am hpos] at this; exact this
 have HTV := F7 (fun W => rJ (tb (aT g)) W (by rw [ay]; omega))
 rw [aA] at HTV
 have HNM := F7 hnm
 have HG := F7 hg
 have hzt : (tb (aT g)).size ≤ 416 := by rw [ay]; exact hsm
 clear hv hw hT ht hsm hg hnm
 rw [show av g (af g).length 0 [] = aT g from rfl, show fA (fun _ => []) (qm g (mE g (af g).length 0 [])) = Da g from rfl, show fA (fun _ => []) (iX g (af g).length 0 []) = Db g from rfl, show cm g [] = [] from rfl] at HTR
 go_enter Tryz.func54, Tryz.ntmps54
 go_wp2_with fail
 refine HIT.out.mono ?_
 rintro e w1 ⟨rfl, b1⟩
 have HC1 := F7 (HMK.out w1 (HG.out.below b1))
 have HB1 := F7 b1
 clear b1
 go_wp2_with fail
 refine HC1.out.mono ?_
 rintro e w2 ⟨MB, AB, PB, h0, h1, h2, rfl, b2, hM⟩
 have HC2 := F7 (HTR.out MB AB PB w2 hM)
 have HM := F7 hM
 have HB2 := F7 (HB1.out.trans (b2.mono HB1.out.size))
 have hz := HB1.out.size
 obtain ⟨b, off, rfl, hb, hc⟩ := hM.gr hpos
 have c0 := (hc 0 hpos).1
 rw [HNM.out, Nat.zero_mul, Nat.add_zero] at c0
 clear hM b2 hc
 go_wp2_with fail
 refine HC2.out.mono ?_
 rintro e w3 ⟨rfl, hT3, hM3⟩
 have HB3 := F7 (HB2.out.trans (hT3.below (n₀ := w.heap.size) HB2.out.size fun k hk => by rcases hk with rfl | rfl <;> omega))
 have HC3 := F7 (HTV.out w3)
 have HM3 := F7 hM3
 clear hT3 hM3
 go_wp2_with fail
 refine HC3.out.mono ?_
 rintro e w4 ⟨rfl, b4⟩
 have HB4 := F7 (HB3.out.trans (b4.mono HB3.out.size))
 have HM4 := F7 (HM3.out.below b4)
 clear b4
 go_wp2_with fail
 exact bodyPost_ret (v := .tuple #[.string (tb (aT g)), .pointer (some ⟨MB, 0, none⟩), .bool (dw (aT g))]) (by simp [results, Tryz.results54, go_sem]) rfl ⟨MB, AB, PB, rfl, HB4.out, HM4.out⟩
theorem As (A : Option Addr) (cap : Nat) (g : List Bl) (w : World) (hg : Gr w A g) (hn : g.length + aM g ≤ 1048576) (hcap : g.length ≤ cap) (ht : df g = false) :
  Calls Tryz.prog 54 #[.slice A g.length cap] w fun e w' => ∃ p, e = .returned (.tuple #[.string ⟨#[]⟩, .pointer (some ⟨p, 0, none⟩), .bool false]) ∧ Below w.heap.size w w' := by
 have HIT := F7 (g9 A cap g w hg hn hcap)
 rw [ht] at HIT
 clear hg ht
 go_enter Tryz.func54, Tryz.ntmps54
 go_wp2_with fail
 refine HIT.out.mono ?_
 rintro e w1 ⟨rfl, b1⟩
 have HB1 := F7 b1
 have hz := b1.size
 clear b1
 go_wp2_with fail
 exact bodyPost_ret (v := .tuple #[.string ⟨#[]⟩, .pointer (some ⟨w1.heap.size, 0, none⟩), .bool false]) (by simp [results, Tryz.results54, go_sem]) rfl ⟨_, rfl, HB1.out.alloc hz _⟩
noncomputable def fH (g : List Bl) : ByteArray := if aU g = true then tb (aT g) else ⟨#[]⟩
theorem kr (g : List Bl) : (fH g).size ≤ 416 := by
 unfold fH
 split
 ·rename_i h
  unfold aU at h
  rw [Bool.and_eq_true] at h
  rw [ay]
  exact fe h.1
 ·exact Nat.zero_le _
theorem jC (A : Option Addr) (cap : Nat) (g : List Bl) (w : World) (hg : Gr w A g) (hn : g.length + aM g ≤ 1048576) (hcap : g.length ≤ cap) :
  Calls Tryz.prog 13 #[.slice A g.length cap] w fun e w' => e = .returned (.tuple #[.string (fH g), .bool (aU g)]) ∧ Below w.heap.size w w' := by
 cases ht : df g with
 | true =>
  have HC := F7 (yK A cap g w hg hn hcap ht)
  cases hb : dw (aT g) with
  | true =>
   have HB : Hid (aU g = true) := F7 (by unfold aU; rw [ht, hb]; rfl)
   rw [hb] at HC
   clear hg ht hb
   go_enter Tryz.func13, Tryz.ntmps13
   go_wp2_with fail
   refine HC.out.mono ?_
   rintro e w1 ⟨MB, AB, PB, rfl, b1, hM⟩
   have HB1 := F7 b1
   clear b1 hM
   go_wp2_with fail
   go_ret2
   exact ⟨by unfold fH; rw [HB.out]; rfl, HB1.out⟩
  | false =>
   have HB : Hid (aU g = false) := F7 (by unfold aU; rw [ht, hb]; rfl)
   rw [hb] at HC
   clear hg ht hb
   go_enter Tryz.func13, Tryz.ntmps13
   go_wp2_with fail
   refine HC.out.mono ?_
   rintro e w1 ⟨MB, AB, PB, rfl, b1, hM⟩
   have HB1 := F7 b1
   clear b1 hM
   go_wp2_with fail
   go_ret2
   exact ⟨by unfold fH; rw [HB.out]; rfl, HB1.out⟩
 | false =>
  have HC := F7 (As A cap g w hg hn hcap ht)
  have HB : Hid (aU g = false) := F7 (by unfold aU; rw [ht]; rfl)
  clear hg ht
  go_enter Tryz.func13, Tryz.ntmps13
  go_wp2_with fail
  refine HC.out.mono ?_
  rintro e w1 ⟨p, rfl, b1⟩
  have HB1 := F7 b1
  clear b1
  go_wp2_with fail
  go_ret2
  exact ⟨by unfold fH; rw [HB.out]; rfl, HB1.out⟩
noncomputable def ja (g : List Bl) : Int := if aU g = true then ((fH g).size : Int) else -1
theorem nr (A : Option Addr) (cap : Nat) (g : List Bl) (w : World) (hg : Gr w A g) (hn : g.length + aM g ≤ 1048576) (hcap : g.length ≤ cap) :
  Calls Tryz.prog 16 #[.slice A g.length cap] w fun e w' => e = .returned (.int .i64 (ja g)) ∧ Below w.heap.size w w' := by
 have HC := F7 (jC A cap g w hg hn hcap)
 have hz := kr g
 clear hg
 cases hb : aU g with
 | true =>
  have HB := F7 hb
  rw [hb] at HC
  clear hb
  go_enter Tryz.func16, Tryz.ntmps16
  go_wp2_with fail
  refine HC.out.mono ?_
  rintro e w1 ⟨rfl, b1⟩
  have HB1 := F7 b1
  clear b1
  go_wp2_with fail
  go_ret
  exact ⟨by unfold ja; rw [HB.out]; rfl, HB1.out⟩
 | false =>
  have HB := F7 hb
  rw [hb] at HC
  clear hb
  go_enter Tryz.func16, Tryz.ntmps16
  go_wp2_with fail
  refine HC.out.mono ?_
  rintro e w1 ⟨rfl, b1⟩
  have HB1 := F7 b1
  clear b1
  go_wp2_with fail
  go_ret
  exact ⟨by unfold ja; rw [HB.out]; rfl, HB1.out⟩
end Go.Proofs.YtlkfakdghjaoaaaGreatDoor
