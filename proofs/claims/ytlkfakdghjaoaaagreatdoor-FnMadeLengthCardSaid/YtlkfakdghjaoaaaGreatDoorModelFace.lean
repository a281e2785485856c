import Derived.Test.YtlkfakdghjaoaaaGreatDoorModelMake
import Derived.Test.YtlkfakdghjaoaaaGreatDoorSpecMeets
import Derived.Test.YtlkfakdghjaoaaaGreatDoorJ12
import Derived.Test.YtlkfakdghjaoaaaGreatDoorJ6
import Derived.Test.YtlkfakdghjaoaaaGreatDoorJ1
namespace Go.Proofs.YtlkfakdghjaoaaaGreatDoor
open Go.RowKit Go.Sort
attribute [local go_sem] Oper.semAt_some
theorem rowC_zero (n : Nat) : rowC n (fun _ => []) = madeCells #[.string ⟨#[]⟩] n := by
 apply Array.ext_getElem?
 intro j
 by_cases hj : j < n
 ·rw [rowC_get _ hj, Array.getElem?_eq_getElem (by rw [size_madeCells]; exact hj)]
  simp [madeCells, tb, Nat.mod_one]
 ·rw [Array.getElem?_eq_none (by rw [rowC_size]; omega), Array.getElem?_eq_none (by rw [size_madeCells]; omega)]
def NewMk (w wx : World) (A : Option Addr) (cap : Nat) (g : List Bl) (s : Value) : Prop :=
 ∃ MB AB PB, s = .pointer (some ⟨MB, 0, none⟩) ∧ Blk wx MB 108 #[.slice A g.length cap, .string (namesAt g (wayOrd g)), .string (namesAt g (meetsL g)), .string (namesAt g (headL g)), .slice (some ⟨AB, 0, none⟩) g.length g.length, .slice (some ⟨PB, 0, none⟩) g.length g.length] ∧
  Blk wx AB 9 (madeCells #[.string ⟨#[]⟩] g.length) ∧ Blk wx PB 9 (madeCells #[.string ⟨#[]⟩] g.length) ∧ AB ≠ PB ∧ w.heap.size ≤ MB ∧ w.heap.size ≤ AB ∧ w.heap.size ≤ PB ∧ Below w.heap.size w wx
set_option maxRecDepth 100000 in
set_option maxHeartbeats 3200000 in
theorem l7Make_any (A : Option Addr) (cap : Nat) (g : List Bl) (w : World) (hg : Gr w A g) (hn : g.length + tot g ≤ 1048576) (hcap : g.length ≤ cap) (hv : validB g = true) :
  Calls Tryz.prog 94 #[.slice A g.length cap] w fun e w' => ∃ MB AB PB, w.heap.size ≤ MB ∧ w.heap.size ≤ AB ∧ w.heap.size ≤ PB ∧ e = .returned (.pointer (some ⟨MB, 0, none⟩)) ∧ Below w.heap.size w w' ∧ Mk w' MB AB PB A cap g (fun _ => []) (fun _ => []) := by
 have HMT := Lib.hid (specMeets_any A cap g w hg hn hcap)
 have HOR : Hid (∀ W, Gr W A g → Calls Tryz.prog 141 #[.slice A g.length cap] W fun e w' => e = .returned (.string (namesAt g (wayOrd g))) ∧ Hid (Below W.heap.size W w')) := Lib.hid (fun W h => l4Order_any A cap g W h (by omega) hv)
 have HHD : Hid (∀ W, Gr W A g → Calls Tryz.prog 142 #[.slice A g.length cap] W fun e w' => e = .returned (.string (namesAt g (headL g))) ∧ Hid (Below W.heap.size W w')) := Lib.hid (fun W h => l4Headers_any A cap g W h hn hv)
 have hmk := run_make_row' (P := Tryz.prog) 37 9 (.string ⟨#[]⟩) 16 Tryz.underlying37 info_str rfl .i64 .i64 g.length (by omega) (by omega)
 have HV := Lib.hid hv
 have HG := Lib.hid hg
 have em : meetsV g = namesAt g (meetsL g) := by unfold meetsV; rw [if_pos hv]
 rw [em] at HMT
 clear hv hg em
 go_enter Tryz.func94, Tryz.ntmps94
 go_wp2_with fail
 refine HMT.out.mono ?_
 rintro e w1 ⟨rfl, b1⟩
 have HB1 := Lib.hid b1
 have hz1 := b1.size
 have HG1 := Lib.hid (HG.out.below b1)
 clear b1 HMT
 obtain ⟨MC, hMC⟩ : ∃ MC, MC = madeCells #[.string ⟨#[]⟩] g.length := ⟨_, rfl⟩
 have HMC := Lib.hid hMC
 rw [← hMC] at hmk
 clear hMC
 go_upto_region 2 with fail
 go_cut [2] (fun s2 wx => NewMk w wx A cap g s2)
 case first =>
  go_region_law (first
   | (go_simp; go_at_call 141; refine Calls.mono (HOR.out _ ?_) ?_
      · repeat (first | with_reducible exact HG1.out | with_reducible refine Gr.alloc_ ?_ _ | with_reducible refine Gr.drew_ ?_ | with_reducible refine Gr.ext b3 ?_)
      rintro e w2 ⟨rfl, b2⟩
      have z2 := b2.out.size)
   | (go_simp; go_at_call 142; refine Calls.mono (HHD.out _ ?_) ?_
      · repeat (first | with_reducible exact HG1.out | with_reducible refine Gr.alloc_ ?_ _ | with_reducible refine Gr.drew_ ?_ | with_reducible refine Gr.ext b2 ?_)
      rintro e w3 ⟨rfl, b3⟩
      have z3 := b3.out.size)
   | fail)
  all_goals
   go_wp2_with fail
   go_meet
  all_goals
   try simp at z2 z3
   refine ⟨_, _, _, rfl, by with_reducible exact Blk.newAt _ _ (by first | rfl | (simp; done)), ?_, ?_, ?_, ?_, ?_, ?_, ?_⟩
   ·rw [← HMC.out]
    repeat (first | (with_reducible refine Blk.newAt _ _ ?_; (first | rfl | simp); done) | with_reducible refine Blk.alloc ?_ _ | with_reducible refine Blk.drew ?_ | with_reducible refine Blk.ext b3 ?_ | with_reducible refine Blk.ext b2 ?_)
   ·rw [← HMC.out]
    repeat (first | (with_reducible refine Blk.newAt _ _ ?_; (first | rfl | simp); done) | with_reducible refine Blk.alloc ?_ _ | with_reducible refine Blk.drew ?_ | with_reducible refine Blk.ext b3 ?_ | with_reducible refine Blk.ext b2 ?_)
   ·omega
   ·omega
   ·omega
   ·omega
   ·repeat (first | with_reducible exact HB1.out | with_reducible refine Below.drew ?_ | with_reducible refine Below.ext b3 (by first | omega | (simp; omega)) ?_ | with_reducible refine Below.ext b2 (by first | omega | (simp; omega)) ?_ | with_reducible refine Below.alloc ?_ (by first | omega | (simp; omega)) _)
 case rest =>
  obtain ⟨MB, AB, PB, rfl, k0, k1, k2, hne, h0, h1, h2, hb⟩ := hcut
  have HK : Hid (∃ MB' AB PB, w.heap.size ≤ MB' ∧ w.heap.size ≤ AB ∧ w.heap.size ≤ PB ∧ (⟨MB, 0, none⟩ : Addr) = ⟨MB', 0, none⟩ ∧ Below w.heap.size w wc ∧ Mk wc MB' AB PB A cap g (fun _ => []) (fun _ => [])) := Lib.hid (by
   refine ⟨MB, AB, PB, h0, h1, h2, rfl, hb, ⟨k0, by rw [rowC_zero]; exact k1, by rw [rowC_zero]; exact k2, HG.out.below hb, hne, ?_, ?_, fun b off e => ?_⟩⟩
   ·exact mk_ne k0 k1 (by decide)
   ·exact mk_ne k0 k2 (by decide)
   ·have hb2 : 0 < g.length → b < w.heap.size := fun hp => by
     obtain ⟨b', off', e', hlt, _⟩ := HG.out hp
     rw [e] at e'
     injection e' with e'
     injection e' with e' _
     omega
    have hpos := (valid_iff.1 HV.out).1
    have := hb2 hpos
    omega)
  clear k0 k1 k2 hb hmk HOR HHD
  go_wp2_with fail
  go_ret
  obtain ⟨MB', AB', PB', q0, q1, q2, q3, q4, q5⟩ := HK.out
  injection q3 with q3 _
  subst q3
  exact ⟨_, q0, _, q1, _, q2, rfl, q4, q5⟩
end Go.Proofs.YtlkfakdghjaoaaaGreatDoor
namespace Go.Proofs.YtlkfakdghjaoaaaGreatDoor
open Go.RowKit Go.Sort
attribute [local go_sem] Oper.semAt_some
noncomputable def madeT (g : List Bl) : List UInt8 := treeW g (wayOrd g).length 0 []
noncomputable def madeB (g : List Bl) : Bool := tameB g && textB (madeT g)
noncomputable def madeA (g : List Bl) : Nat → List UInt8 := updL (fun _ => []) (trF g (wrA g (wayOrd g).length 0 []))
noncomputable def madeP (g : List Bl) : Nat → List UInt8 := updL (fun _ => []) (wrT g (wayOrd g).length 0 [])
theorem tameB_iff {g : List Bl} : tameB g = true ↔ validB g = true ∧ (jumpL g wildK).length = 0 := by
 unfold tameB
 rw [Bool.and_eq_true, decide_eq_true_iff]
theorem madeT_small {g : List Bl} (h : tameB g = true) : (madeT g).length ≤ 416 := by
 obtain ⟨hv, hw⟩ := tameB_iff.1 h
 exact treeW_small hv (tame_of hv hw) (.start (by simp)) []
set_option maxRecDepth 100000 in
theorem l7Text_yes (A : Option Addr) (cap : Nat) (g : List Bl) (w : World) (hg : Gr w A g) (hn : g.length + tot g ≤ 1048576) (hcap : g.length ≤ cap) (ht : tameB g = true) :
  Calls Tryz.prog 54 #[.slice A g.length cap] w fun e w' => ∃ MB AB PB, e = .returned (.tuple #[.string (tb (madeT g)), .pointer (some ⟨MB, 0, none⟩), .bool (textB (madeT g))]) ∧ Below w.heap.size w w' ∧ Mk w' MB AB PB A cap g (madeA g) (madeP g) := by
 obtain ⟨hv, hw⟩ := tameB_iff.1 ht
 have hT := tame_of hv hw
 have hpos := (valid_iff.1 hv).1
 have HIT := Lib.hid (specIsTame_any A cap g w hg hn hcap)
 rw [ht] at HIT
 have HMK := Lib.hid (fun W h => l7Make_any A cap g W h hn hcap hv)
 have HTR := Lib.hid (fun MB AB PB W (h : Mk W MB AB PB A cap g (fun _ => []) (fun _ => [])) => tree_all hv hT hn (wayOrd g).length 0 [] (fun _ => []) (fun _ => []) W (.start (by simp)) (by omega) (invOut_start g) (okOut_start g) h)
 have hsm := madeT_small ht
 have hnm : g[0].1 = nmS g 0 := by have := nmS_name hv hpos; rw [nthName_at hpos] at this; exact this
 have HTV := Lib.hid (fun W => specValid_text (tb (madeT g)) W (by rw [tb_size]; omega))
 rw [tb_data] at HTV
 have HNM := Lib.hid hnm
 have HG := Lib.hid hg
 have hzt : (tb (madeT g)).size ≤ 416 := by rw [tb_size]; exact hsm
 clear hv hw hT ht hsm hg hnm
 rw [show treeW g (wayOrd g).length 0 [] = madeT g from rfl, show updL (fun _ => []) (trF g (wrA g (wayOrd g).length 0 [])) = madeA g from rfl, show updL (fun _ => []) (wrT g (wayOrd g).length 0 []) = madeP g from rfl, show frS g [] = [] from rfl] at HTR
 go_enter Tryz.func54, Tryz.ntmps54
 go_wp2_with fail
 refine HIT.out.mono ?_
 rintro e w1 ⟨rfl, b1⟩
 have HC1 := Lib.hid (HMK.out w1 (HG.out.below b1))
 have HB1 := Lib.hid b1
 clear b1
 go_wp2_with fail
 refine HC1.out.mono ?_
 rintro e w2 ⟨MB, AB, PB, h0, h1, h2, rfl, b2, hM⟩
 have HC2 := Lib.hid (HTR.out MB AB PB w2 hM)
 have HM := Lib.hid hM
 have HB2 := Lib.hid (HB1.out.trans (b2.mono HB1.out.size))
 have hz := HB1.out.size
 obtain ⟨b, off, rfl, hb, hc⟩ := hM.gr hpos
 have c0 := (hc 0 hpos).1
 rw [HNM.out, Nat.zero_mul, Nat.add_zero] at c0
 clear hM b2 hc
 go_wp2_with fail
 refine HC2.out.mono ?_
 rintro e w3 ⟨rfl, hT3, hM3⟩
 have HB3 := Lib.hid (HB2.out.trans (hT3.below (n₀ := w.heap.size) HB2.out.size fun k hk => by rcases hk with rfl | rfl <;> omega))
 have HC3 := Lib.hid (HTV.out w3)
 have HM3 := Lib.hid hM3
 clear hT3 hM3
 go_wp2_with fail
 refine HC3.out.mono ?_
 rintro e w4 ⟨rfl, b4⟩
 have HB4 := Lib.hid (HB3.out.trans (b4.mono HB3.out.size))
 have HM4 := Lib.hid (HM3.out.below b4)
 clear b4
 go_wp2_with fail
 exact bodyPost_ret (v := .tuple #[.string (tb (madeT g)), .pointer (some ⟨MB, 0, none⟩), .bool (textB (madeT g))]) (by simp [results, Tryz.results54, go_sem]) rfl ⟨MB, AB, PB, rfl, HB4.out, HM4.out⟩
set_option maxRecDepth 100000 in
theorem l7Text_no (A : Option Addr) (cap : Nat) (g : List Bl) (w : World) (hg : Gr w A g) (hn : g.length + tot g ≤ 1048576) (hcap : g.length ≤ cap) (ht : tameB g = false) :
  Calls Tryz.prog 54 #[.slice A g.length cap] w fun e w' => ∃ p, e = .returned (.tuple #[.string ⟨#[]⟩, .pointer (some ⟨p, 0, none⟩), .bool false]) ∧ Below w.heap.size w w' := by
 have HIT := Lib.hid (specIsTame_any A cap g w hg hn hcap)
 rw [ht] at HIT
 clear hg ht
 go_enter Tryz.func54, Tryz.ntmps54
 go_wp2_with fail
 refine HIT.out.mono ?_
 rintro e w1 ⟨rfl, b1⟩
 have HB1 := Lib.hid b1
 have hz := b1.size
 clear b1
 go_wp2_with fail
 exact bodyPost_ret (v := .tuple #[.string ⟨#[]⟩, .pointer (some ⟨w1.heap.size, 0, none⟩), .bool false]) (by simp [results, Tryz.results54, go_sem]) rfl ⟨_, rfl, HB1.out.alloc hz _⟩
noncomputable def madeV (g : List Bl) : ByteArray := if madeB g = true then tb (madeT g) else ⟨#[]⟩
theorem madeV_small (g : List Bl) : (madeV g).size ≤ 416 := by
 unfold madeV
 split
 ·rename_i h
  unfold madeB at h
  rw [Bool.and_eq_true] at h
  rw [tb_size]
  exact madeT_small h.1
 ·exact Nat.zero_le _
set_option maxRecDepth 100000 in
theorem specMakeText_any (A : Option Addr) (cap : Nat) (g : List Bl) (w : World) (hg : Gr w A g) (hn : g.length + tot g ≤ 1048576) (hcap : g.length ≤ cap) :
  Calls Tryz.prog 13 #[.slice A g.length cap] w fun e w' => e = .returned (.tuple #[.string (madeV g), .bool (madeB g)]) ∧ Below w.heap.size w w' := by
 cases ht : tameB g with
 | true =>
  have HC := Lib.hid (l7Text_yes A cap g w hg hn hcap ht)
  cases hb : textB (madeT g) with
  | true =>
   have HB : Hid (madeB g = true) := Lib.hid (by unfold madeB; rw [ht, hb]; rfl)
   rw [hb] at HC
   clear hg ht hb
   go_enter Tryz.func13, Tryz.ntmps13
   go_wp2_with fail
   refine HC.out.mono ?_
   rintro e w1 ⟨MB, AB, PB, rfl, b1, hM⟩
   have HB1 := Lib.hid b1
   clear b1 hM
   go_wp2_with fail
   go_ret2
   exact ⟨by unfold madeV; rw [HB.out]; rfl, HB1.out⟩
  | false =>
   have HB : Hid (madeB g = false) := Lib.hid (by unfold madeB; rw [ht, hb]; rfl)
   rw [hb] at HC
   clear hg ht hb
   go_enter Tryz.func13, Tryz.ntmps13
   go_wp2_with fail
   refine HC.out.mono ?_
   rintro e w1 ⟨MB, AB, PB, rfl, b1, hM⟩
   have HB1 := Lib.hid b1
   clear b1 hM
   go_wp2_with fail
   go_ret2
   exact ⟨by unfold madeV; rw [HB.out]; rfl, HB1.out⟩
 | false =>
  have HC := Lib.hid (l7Text_no A cap g w hg hn hcap ht)
  have HB : Hid (madeB g = false) := Lib.hid (by unfold madeB; rw [ht]; rfl)
  clear hg ht
  go_enter Tryz.func13, Tryz.ntmps13
  go_wp2_with fail
  refine HC.out.mono ?_
  rintro e w1 ⟨p, rfl, b1⟩
  have HB1 := Lib.hid b1
  clear b1
  go_wp2_with fail
  go_ret2
  exact ⟨by unfold madeV; rw [HB.out]; rfl, HB1.out⟩
noncomputable def madeN (g : List Bl) : Int := if madeB g = true then ((madeV g).size : Int) else -1
set_option maxRecDepth 100000 in
theorem specMakeLength_any (A : Option Addr) (cap : Nat) (g : List Bl) (w : World) (hg : Gr w A g) (hn : g.length + tot g ≤ 1048576) (hcap : g.length ≤ cap) :
  Calls Tryz.prog 16 #[.slice A g.length cap] w fun e w' => e = .returned (.int .i64 (madeN g)) ∧ Below w.heap.size w w' := by
 have HC := Lib.hid (specMakeText_any A cap g w hg hn hcap)
 have hz := madeV_small g
 clear hg
 cases hb : madeB g with
 | true =>
  have HB := Lib.hid hb
  rw [hb] at HC
  clear hb
  go_enter Tryz.func16, Tryz.ntmps16
  go_wp2_with fail
  refine HC.out.mono ?_
  rintro e w1 ⟨rfl, b1⟩
  have HB1 := Lib.hid b1
  clear b1
  go_wp2_with fail
  go_ret
  exact ⟨by unfold madeN; rw [HB.out]; rfl, HB1.out⟩
 | false =>
  have HB := Lib.hid hb
  rw [hb] at HC
  clear hb
  go_enter Tryz.func16, Tryz.ntmps16
  go_wp2_with fail
  refine HC.out.mono ?_
  rintro e w1 ⟨rfl, b1⟩
  have HB1 := Lib.hid b1
  clear b1
  go_wp2_with fail
  go_ret
  exact ⟨by unfold madeN; rw [HB.out]; rfl, HB1.out⟩
end Go.Proofs.YtlkfakdghjaoaaaGreatDoor
