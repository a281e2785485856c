import Derived.Test.YtlkfakdghjaoaaaGreatDoorMakeBlock
import Derived.Test.YtlkfakdghjaoaaaGreatDoorModelFace
set_option maxRecDepth 100000
set_option maxHeartbeats 1600000
namespace Go.Proofs.YtlkfakdghjaoaaaGreatDoor
open Go.RowKit Go.Sort Go.Shelf
theorem th {x : Fix} (hx : FixOk x) : ∀ m, iF x m
 | 0 => fun n fr fv out P c v w hn hL _ _ _ _ _ _ => by
  have := j7 hx.valid hn
  omega
 | m + 1 => zG hx (th hx m)
theorem MT.low {x : Fix} {w w' : World} {v v' : Value} {out : List UInt8} {P : bm} {c n : Nat} (hx : FixOk x) (hM : Mkr x w v out P c) (hT : MT x w v w' v') (hn : n ≤ x.w1.heap.size) : Below n w w' :=
 hT.1.below (Nat.le_trans hn hM.low.size) fun k hk => by
  rcases hk with hk | hk | hk
  ·rw [hk]; exact Nat.le_trans hn hx.ml
  ·rw [hk]; exact Nat.le_trans hn hx.pl
  ·exact Nat.le_trans hn (hM.own k hk).1
noncomputable def Ee (g : List Bl) : bm := jp g (fun _ => none) (dw g (ac g).length 0 [])
def pR (g : List Bl) (w : World) (e : Ending) (w' : World) : Prop :=
 ((aY g = true ∧ ∃ x v c, x.g = g ∧ w.heap.size ≤ x.w1.heap.size ∧ FixOk x ∧ e = .returned (.tuple #[.pointer (some ⟨x.M, 0, none⟩), .bool true]) ∧ Mkr x w' v (aD g) (Ee g) c) ∨ (aY g = false ∧ e = .returned (.tuple #[.pointer none, .bool false]))) ∧ Below w.heap.size w w'
theorem xF (A : Option Addr) (cap : Nat) (g : List Bl) (w : World) (hg : Gr w A g) (hn : g.length + aO g ≤ 1048576) (ht : dV g = false) :
  Calls Tryz.prog 52 #[.slice A g.length cap] w (pR g w) := by
 have HB : Hid (aY g = false) := GR (by unfold aY; rw [ht]; rfl)
 by_cases hv : aa g = true
 ·have HC := GR (ef A cap g w hg hn hv)
  have HT := GR ht
  have HV := GR hv
  clear hg hv ht
  go_enter Tryz.func52, Tryz.ntmps52
  go_wp2_with fail
  refine HC.out.mono ?_
  rintro e w1 ⟨WB, tb, NB, MB, A2, cap2, B, off, tcap, S, _, rfl, hO, hM, b1⟩
  have HTM := GR (fun k => vN WB tb NB MB cap2 A2 g B off tcap S (w1.drewN k) HV.out (hO.below (ab w1 k)) (hM.keep ((ab w1 k).block MB hM.lt)))
  have hz : decide ((bw g dj).length = 0) = false := by
   have := HT.out
   unfold dV at this
   rw [HV.out] at this
   simpa using this
  rw [hz] at HTM
  have HB1 := GR b1
  clear hO hM b1 hz
  go_wp2_with fail
  refine (HTM.out 0).mono ?_
  rintro e w2 ⟨rfl, b2⟩
  have HB2 := GR (HB1.out.trans (b2.mono HB1.out.size))
  clear b2 HTM
  go_wp2_with fail
  go_ret2
  exact ⟨.inr ⟨HB.out, rfl⟩, HB2.out⟩
 ·have hv : aa g = false := by simpa using hv
  have HC := GR (fu A cap g w hg hn hv)
  clear hg hv ht
  go_enter Tryz.func52, Tryz.ntmps52
  go_wp2_with fail
  refine HC.out.mono ?_
  rintro e w1 ⟨WB, tb, mv, rfl, _, _, b1⟩
  have HB1 := GR b1
  clear b1
  go_wp2_with fail
  go_ret2
  exact ⟨.inr ⟨HB.out, rfl⟩, HB1.out⟩
theorem xG (A : Option Addr) (cap : Nat) (g : List Bl) (w : World) (hg : Gr w A g) (hn : g.length + aO g ≤ 1048576) (ht : dV g = true) :
  Calls Tryz.prog 52 #[.slice A g.length cap] w (pR g w) := by
 obtain ⟨hv, hw⟩ := cm.1 ht
 have hT := lJ hv hw
 have HC := GR (ef A cap g w hg hn hv)
 have HT := GR hT
 have HTB := GR ht
 have HV := GR hv
 have hpos := (aj.1 hv).1
 have hz : decide ((bw g dj).length = 0) = true := decide_eq_true hw
 have HZ := GR hz
 clear hg hv ht hw hT hz
 go_enter Tryz.func52, Tryz.ntmps52
 go_wp2_with fail
 refine HC.out.mono ?_
 rintro e w1 ⟨WB, tr, NB, MB, A2, cap2, B, off, tcap, S, hWl, rfl, hO, hM, b1⟩
 have HTM := GR (vN WB tr NB MB cap2 A2 g B off tcap S w1 HV.out hO hM)
 rw [HZ.out] at HTM
 have HO := GR hO
 have HM := GR hM
 have HB1 := GR b1
 clear hO hM b1
 go_wp2_with fail
 refine HTM.out.mono ?_
 rintro e w2 ⟨rfl, b2⟩
 have HB2 := GR (HB1.out.trans (b2.mono HB1.out.size))
 have HO2 := GR (HO.out.below b2)
 have HM2 := GR (HM.out.keep (b2.block MB HM.out.lt))
 have hz2 := HB2.out.size
 clear b2 HTM HO HM HB1
 have hmm := @run_makeMap Tryz.prog
 have HHD := GR (o7 WB tr NB MB cap2 A2 g B off tcap S w2 HV.out HO2.out HM2.out)
 go_wp2_with fail
 refine HHD.out.mono ?_
 rintro e w3 ⟨v3, rfl, hown3, b3⟩
 obtain ⟨hA, hc, rfl, hp3, -⟩ := jN hown3
 have hl3 : ∀ b o, hA = some ⟨b, o, none⟩ → b < w3.heap.size := fun b o e => (hown3.lt b (by rw [e]; rfl)).2
 have HMT := GR (tB WB tr NB MB cap2 A2 g B off tcap S w3 HV.out (HO2.out.below b3) (HM2.out.keep (b3.block MB HM2.out.lt)))
 have HP3 := GR hp3
 have HL3 := GR hl3
 have HB3 := GR b3
 clear hown3 hp3 hl3 b3 HHD
 go_wp2_with fail
 refine HMT.out.mono ?_
 rintro e w4 ⟨v4, rfl, hown4, b4⟩
 obtain ⟨mA, mc, rfl, hp4, -⟩ := jN hown4
 have hl4 : ∀ b o, mA = some ⟨b, o, none⟩ → b < w4.heap.size := fun b o e => (hown4.lt b (by rw [e]; rfl)).2
 have hz3 := HB3.out.size
 have hz4 := b4.size
 obtain ⟨W6, hW6⟩ : ∃ W6, W6 = (w4.alloc (.map #[] 0)).alloc (.cells #[.pointer (some ⟨WB, 0, none⟩), .slice hA (aL g).length hc, .slice mA (ak g).length mc, .pointer none, .slice none 0 0, .map (some w4.heap.size)] 64) := ⟨_, rfl⟩
 have hs5 : (w4.alloc (.map #[] 0)).heap.size = w4.heap.size + 1 := by simp
 have b46 : Below w4.heap.size w4 W6 := by rw [hW6]; exact ((Below.refl _ _).alloc (Nat.le_refl _) _).alloc (by rw [hs5]; omega) _
 obtain ⟨x, hx0⟩ : ∃ x : Fix, x = { M := w4.heap.size + 1, PB := w4.heap.size, WB := WB, tb := tr, NB := NB, KB := MB, A := A2, cap := cap2, g := g, B := B, off := off, tcap := tcap, S := S, hA := hA, mA := mA, hc := hc, mc := mc, w1 := w2 } := ⟨_, rfl⟩
 have hx : FixOk x := by
  subst hx0
  refine ⟨HV.out, HT.out, HO2.out, HM2.out, ?_, ?_, ?_, fun b o e => ?_, fun b o e => ?_⟩
  ·show w4.heap.size + 1 ≠ w4.heap.size; omega
  ·show w2.heap.size ≤ w4.heap.size + 1; omega
  ·show w2.heap.size ≤ w4.heap.size; omega
  ·have := HL3.out b o e; show b ≠ w4.heap.size + 1 ∧ b ≠ w4.heap.size; omega
  ·have := hl4 b o e; show b ≠ w4.heap.size + 1 ∧ b ≠ w4.heap.size; omega
 have hmb := Er (w4.alloc (.map #[] 0)) (.pointer (some ⟨WB, 0, none⟩)) (.slice hA (aL g).length hc) (.slice mA (ak g).length mc) (.map (some w4.heap.size))
 rw [← hW6, hs5] at hmb
 have hm0 : Mkr x W6 (.slice none 0 0) [] (fun _ => none) 0 := by
  subst hx0
  refine ⟨hmb, ?_, HB3.out.trans ((b4.trans (b46.mono hz4)).mono hz3), fun k e => ?_, ?_, ?_, fun _ b o _ e => ?_, fun _ b o _ e => ?_⟩
  ·refine (zH w4).keep ?_
   rw [hW6]
   exact Below.heap_alloc _ _ _ (by rw [hs5]; show w4.heap.size < _; omega)
  ·cases e
  ·exact (HP3.out.turn (O := fun _ => False) (.of_below b4) fun _ _ _ _ => id).turn (O := fun _ => False) (.of_below b46) fun _ _ _ _ => id
  ·exact hp4.turn (O := fun _ => False) (.of_below b46) fun _ _ _ _ => id
  ·cases e
  ·cases e
 have hxg : x.g = g := by rw [hx0]
 have hxM : x.M = w4.heap.size + 1 := by rw [hx0]
 have hxN : x.NB = NB := by rw [hx0]
 have hxW : x.w1 = w2 := by rw [hx0]
 have ho6 : OrdAt W6 WB tr NB MB A2 cap2 g B off tcap S := HO2.out.below (HB3.out.trans ((b4.trans (b46.mono hz4)).mono hz3))
 have hwp : 0 < (ac g).length := List.length_pos_of_mem ((aA HV.out).2 (Rch.start (by simp) : Rch g [] 0))
 have hw0 : (ac g)[0] = 0 := by
  have h1 := fx ((aA HV.out).2 (Rch.start (by simp) : Rch g [] 0))
  have h2 : bJ (ac g) 0 = 0 := iQ HV.out
  simp only [h2] at h1
  exact h1
 obtain ⟨rb, ro, rfl, hr0⟩ := ho6.at_ hwp
 rw [hw0, Nat.add_zero] at hr0
 have d1 : W6.cell? ⟨WB, 1, none⟩ = some (.slice (some ⟨rb, ro, none⟩) (ac g).length cap2) := ho6.store.cell 1
 have HBK := GR (th hx (ac x.g).length 0 [] (.slice none 0 0) [] (fun _ => none) 0 (.slice none 0 0) W6 (.start (by simp)) (by omega) (kh _) (lg _) hm0 (C2 _ _ _)
  (by rw [hxg]; have := fB HTB.out; unfold aD at this; show 0 + _ ≤ _; omega)
  (by
   rw [hxg]
   have h1 := fB HTB.out
   unfold aD at h1
   have h3 := yx HV.out (ac g).length 0 []
   omega))
 rw [hxM, hxN] at HBK
 have HM0 := GR hm0
 have HX := GR hx
 have HW6 := GR hW6
 have HB6 := GR (HB2.out.trans ((HB3.out.trans ((b4.trans (b46.mono hz4)).mono hz3)).mono hz2))
 have HXG := GR hxg
 have HXM := GR hxM
 have hwI : (0 : Int) < ((ac g).length : Int) := by omega
 clear hown4 hp4 hl4 b4 b46 hmb hm0 hx hW6 hx0 HMT HO2 HM2 ho6 hxg hxM hxN hw0
 go_upto_region 5 with fail
 rw [← HW6.out]
 go_wp2_with fail
 refine HBK.out.mono ?_
 rintro e w7 ⟨rfl, v7, hM7, hT7⟩
 have hM7' : Mkr x w7 v7 (aD g) (Ee g) (0 + (dw x.g (ac x.g).length 0 []).length) := by
  have h := hM7
  rw [List.nil_append, HXG.out] at h
  rw [HXG.out]
  exact h
 have hxl : w.heap.size ≤ x.w1.heap.size := by rw [hxW]; exact hz2
 have hT7' : Below w.heap.size w w7 := HB6.out.trans (hT7.low HX.out HM0.out hxl)
 have hne : aD g ≠ [] := by
  have h1 := mr g
  unfold aD
  obtain ⟨k, hk⟩ : ∃ k, (ac g).length = k + 1 := ⟨(ac g).length - 1, by omega⟩
  rw [hk, aw]
  split
  ·simp
  ·exact h1 _ _ _ _
 have hsm := fB HTB.out
 have HST := GR (fun k => mx HX.out (hM7'.below (ab w7 k)) hne (by omega))
 rw [HXM.out] at HST
 have HTV := GR (fun W => sn (tb (aD g)) W)
 rw [aI] at HTV
 have HB7 := GR hT7'
 obtain ⟨OT, hOT⟩ : ∃ OT, OT = tb (aD g) := ⟨_, rfl⟩
 rw [← hOT] at HST HTV
 clear hM7 hT7 hT7' HBK hOT
 have HM7 := GR hM7'
 clear hM7'
 have HXL := GR hxl
 go_wp2_with fail
 refine (HST.out 0).mono ?_
 rintro e w8 ⟨rfl, hM8, hT8⟩
 have HB8 := GR (HB7.out.trans (hT8.low HX.out HM7.out HXL.out))
 have HM8 := GR hM8
 have HTV8 := GR (HTV.out w8)
 clear hM8 hT8 HST HTV
 cases htb : iq (aD g) with
 | true =>
  rw [htb] at HTV8
  have HMB : Hid (aY g = true) := GR (by unfold aY; rw [HTB.out, htb]; rfl)
  clear htb
  go_wp2_with fail
  refine HTV8.out.mono ?_
  rintro e w9 ⟨rfl, b9⟩
  have HB9 := GR (HB8.out.trans (b9.mono HB8.out.size))
  have HM9 := GR (HM8.out.below b9)
  clear b9
  go_wp2_with fail
  go_ret2
  exact ⟨.inl ⟨HMB.out, x, v7, _, HXG.out, HXL.out, HX.out, by rw [HXM.out]; rfl, HM9.out⟩, HB9.out⟩
 | false =>
  rw [htb] at HTV8
  have HMB : Hid (aY g = false) := GR (by unfold aY; rw [HTB.out, htb]; rfl)
  clear htb
  go_wp2_with fail
  refine HTV8.out.mono ?_
  rintro e w9 ⟨rfl, b9⟩
  have HB9 := GR (HB8.out.trans (b9.mono HB8.out.size))
  clear b9
  go_wp2_with fail
  go_ret2
  exact ⟨.inr ⟨HMB.out, rfl⟩, HB9.out⟩
end Go.Proofs.YtlkfakdghjaoaaaGreatDoor
namespace Go.Proofs.YtlkfakdghjaoaaaGreatDoor
open Go.RowKit Go.Sort Go.Shelf
theorem qH (A : Option Addr) (cap : Nat) (g : List Bl) (w : World) (hg : Gr w A g) (hn : g.length + aO g ≤ 1048576) :
  Calls Tryz.prog 52 #[.slice A g.length cap] w (pR g w) := by
 cases ht : dV g with
 | true => exact xG A cap g w hg hn ht
 | false => exact xF A cap g w hg hn ht
theorem Dr {g : List Bl} (ht : dV g = true) : aD g ≠ [] := by
 obtain ⟨hv, _⟩ := cm.1 ht
 have hwp : 0 < (ac g).length := List.length_pos_of_mem ((aA hv).2 (Rch.start (by simp) : Rch g [] 0))
 unfold aD
 obtain ⟨k, hk⟩ : ∃ k, (ac g).length = k + 1 := ⟨(ac g).length - 1, by omega⟩
 rw [hk, aw]
 split
 ·simp
 ·exact mr _ _ _ _ _
theorem c6 {g : List Bl} (h : aY g = true) : dV g = true := by
 unfold aY at h
 exact (Bool.and_eq_true_iff.1 h).1
theorem ke (A : Option Addr) (cap : Nat) (g : List Bl) (w : World) (hg : Gr w A g) (hn : g.length + aO g ≤ 1048576) :
  Calls Tryz.prog 12 #[.slice A g.length cap] w fun e w' => e = .returned (.tuple #[.string (fh g), .bool (aY g)]) ∧ Below w.heap.size w w' := by
 have HC := GR (qH A cap g w hg hn)
 clear hg
 go_enter Tryz.func12, Tryz.ntmps12
 go_wp2_with fail
 refine HC.out.mono ?_
 rintro e w1 ⟨⟨hb, x, v, c, hxg, hxl, hx, rfl, hM⟩ | ⟨hb, rfl⟩, b1⟩
 ·have hne := Dr (c6 hb)
  have hsm := fB (c6 hb)
  have HST := GR (mx hx hM hne (by omega))
  have HLOW := GR (fun w' (hT : MT x w1 v w' v) => b1.trans (hT.low hx hM hxl))
  have HB1 := GR b1
  have HBB := GR hb
  clear b1 hM hne hb hsm
  go_wp2_with fail
  refine HST.out.mono ?_
  rintro e w2 ⟨rfl, _, hT⟩
  have HB2 := GR (HLOW.out w2 hT)
  clear hT HLOW
  go_wp2_with fail
  go_ret2
  exact ⟨by unfold fh; rw [HBB.out]; rfl, HB2.out⟩
 ·have HB1 := GR b1
  have HBB := GR hb
  clear b1 hb
  go_wp2_with fail
  go_ret2
  exact ⟨by unfold fh; rw [HBB.out]; rfl, HB1.out⟩
theorem qI (A : Option Addr) (cap : Nat) (g : List Bl) (w : World) (hg : Gr w A g) (hn : g.length + aO g ≤ 1048576) :
  Calls Tryz.prog 14 #[.slice A g.length cap] w fun e w' => e = .returned (.bool (aY g)) ∧ Below w.heap.size w w' := by
 have HC := GR (qH A cap g w hg hn)
 clear hg
 go_enter Tryz.func14, Tryz.ntmps14
 go_wp2_with fail
 refine HC.out.mono ?_
 rintro e w1 ⟨⟨hb, x, v, c, hxg, hxl, hx, rfl, hM⟩ | ⟨hb, rfl⟩, b1⟩
 ·have HB1 := GR b1
  have HBB := GR hb
  clear b1 hM hb hx
  go_wp2_with fail
  go_ret
  exact ⟨jE (by rw [HBB.out]), HB1.out⟩
 ·have HB1 := GR b1
  have HBB := GR hb
  clear b1 hb
  go_wp2_with fail
  go_ret
  exact ⟨jE (by rw [HBB.out]), HB1.out⟩
end Go.Proofs.YtlkfakdghjaoaaaGreatDoor
