import Derived.Test.YtlkfakdghjaoaaaGreatDoorDrawMade
import Derived.Test.YtlkfakdghjaoaaaGreatDoorMadeFacts
import Derived.Test.YtlkfakdghjaoaaaGreatDoorSjTexts
import Derived.Test.YtlkfakdghjaoaaaGreatDoorJ15
set_option maxRecDepth 100000
set_option maxHeartbeats 6400000
namespace Go.Proofs.YtlkfakdghjaoaaaGreatDoor
open Go.RowKit Go.Sort
def f5 (g : List Bl) (l : List Nat) : Nat := (l.map fun y => (dg g bD y).length).sum
theorem tn {g : List Bl} {l : List Nat} {k : Nat} (h : k < l.length) : f5 g (l.take (k + 1)) = f5 g (l.take k) + (dg g bD l[k]).length := by
 unfold f5
 rw [List.take_succ_eq_append_getElem h, List.map_append, List.sum_append]; simp
theorem BF {g : List Bl} (hv : aa g = true) {x : Nat} (hx : x < g.length) : gt g (ay g x) = ae g (dN g x g.length) := by
 rw [n3 hv (pN hv hx), al hx, BR hv hx]
theorem qR (g : List Bl) (x : Nat) : (dN g x g.length).length ≤ g.length := by
 unfold dN
 have := List.length_filter_le (fun j => decide (x ∈ ai g j)) (List.range g.length)
 rw [List.length_range] at this
 exact this
theorem ik {w : World} {base : Nat} {v : Value} {xs : List Int} (h : IntsV w base v xs) : ∃ A cap, v = .slice A xs.length cap ∧ ∀ k (hk : k < xs.length), ∃ B, A = some ⟨B, 0, none⟩ ∧ B < w.heap.size ∧ w.cell? ⟨B, k, none⟩ = some (.int .i64 xs[k]) := by
 rcases h with ⟨rfl, h⟩ | ⟨B, cap, t, cs, e, _, hk, hs, hc⟩
 ·exact ⟨none, 0, by rw [h], fun k hk => by omega⟩
 ·exact ⟨_, _, e, fun k hk' => ⟨B, rfl, hk.lt, by rw [hk.cell]; exact hc k hk'⟩⟩
theorem xI (A : Option Addr) (la ca : Nat) (w : World) (hA : Bytes w A la) (h1 : la ≤ ca) (h3 : ca ≤ 9223372036854775807) :
  Calls Tryz.prog 4 #[.slice A la ca] w fun e w' => e = .returned (.bool true) ∧ Below w.heap.size w w' := by
 by_cases g1 : (1048576 : Int) < la
 ·clear hA
  go_enter Tryz.func4, Tryz.ntmps4
  go_wp2_with fail
  go_ret
  exact ⟨rfl, Below.refl _ _⟩
 have HA := GR (nj A la ca w hA h1 h3)
 clear hA
 go_enter Tryz.func4, Tryz.ntmps4
 go_wp2_with fail
 refine HA.out.mono ?_
 intro e w1 hd1
 obtain ⟨A1, c1, g, rfl, hc1, gg, hn1, b1⟩ := Dg hd1
 have HB1 := GR b1
 have HG1 := GR gg
 clear hd1 b1 gg
 obtain ⟨mb, hmb⟩ : ∃ x, x = aY g := ⟨_, rfl⟩
 obtain ⟨L, hL⟩ : ∃ x, x = fi g := ⟨_, rfl⟩
 have HNI := GR (fun W (h : Gr W A1 g) => (hL ▸ hmb ▸ nk A1 c1 g W h (by omega) : Calls Tryz.prog 25 #[.slice A1 g.length c1] W fun e w' => (∃ v, e = .returned (.tuple #[v, .bool mb]) ∧ IntsV w' W.heap.size v L) ∧ Below W.heap.size W w'))
 have HNS := GR (fun W (h : Gr W A1 g) => (hL ▸ hmb ▸ nl A1 c1 g W h (by omega) hc1 : Calls Tryz.prog 26 #[.slice A1 g.length c1] W fun e w' => (∃ v, e = .returned (.tuple #[v, .bool mb]) ∧ IntsV w' W.heap.size v L) ∧ Below W.heap.size W w'))
 have HCI := GR (fun W (h : Gr W A1 g) => (hmb ▸ qI A1 c1 g W h (by omega) : Calls Tryz.prog 14 #[.slice A1 g.length c1] W fun e w' => e = .returned (.bool mb) ∧ Below W.heap.size W w'))
 have hL3 : L.length ≤ 3 := by rw [hL]; unfold fi; split <;> simp
 have q1 : (mb == mb) = true := by simp
 have q2 : (mb != mb) = false := by simp
 have q3 : ((L.length : Int) != (L.length : Int)) = false := by simp
 have HMB := GR hmb
 have HL := GR hL
 clear hmb hL
 go_wp2_with fail
 refine (HNI.out w1 HG1.out).mono ?_
 rintro e w2 ⟨⟨v, rfl, hv2⟩, b2⟩
 obtain ⟨A2, cap2, rfl, _⟩ := ik hv2
 have HG2 := GR (HG1.out.below b2)
 have HB2 := GR (af HB1.out b2)
 have HV2 := GR hv2
 clear b2 hv2
 go_wp2_with fail
 refine (HNS.out w2 HG2.out).mono ?_
 rintro e w3 ⟨⟨v, rfl, hv3⟩, b3⟩
 obtain ⟨A3, cap3, rfl, _⟩ := ik hv3
 have HG3 := GR (HG2.out.below b3)
 have HB3 := GR (af HB2.out b3)
 have HV3 := GR (HV2.out.below b3)
 have HU3 := GR hv3
 clear b3 hv3
 go_wp2_with fail
 refine (HCI.out w3 HG3.out).mono ?_
 rintro e w4 ⟨rfl, b4⟩
 have HG4 := GR (HG3.out.below b4)
 have HB4 := GR (af HB3.out b4)
 have HV4 := GR (HV3.out.below b4)
 have HU4 := GR (HU3.out.below b4)
 clear b4
 go_wp2_with fail
 go_loopw [56] (fun iv wr => ∃ i : Nat, i ≤ L.length ∧ iv = .int .i64 i ∧ Hid (Below w4.heap.size w4 wr)) (fun iv _ => L.length - (intOf iv).toNat)
 case atStart => exact ⟨0, Nat.zero_le _, rfl, Below.refl _ _⟩
 case round =>
  obtain ⟨i, hi, rfl, HBR⟩ := hrel
  by_cases hlt : i < L.length
  ·obtain ⟨_, _, e1, k1⟩ := ik (HV4.out.below HBR.out)
   obtain ⟨_, _, e2, k2⟩ := ik (HU4.out.below HBR.out)
   injection e1 with e1 _ e1c
   injection e2 with e2 _ e2c
   subst e1; subst e2; subst e1c; subst e2c
   obtain ⟨B, rfl, _, x0⟩ := k1 i hlt
   obtain ⟨B', rfl, _, x1⟩ := k2 i hlt
   obtain ⟨z, hz⟩ : ∃ z, z = L[i] := ⟨_, rfl⟩
   rw [← hz] at x0 x1
   have y1 : (z != z) = false := by simp
   clear k1 k2 hz
   go_wp2_with fail
   go_quiet (fail)
   have HBS := GR (af HBR.out (ab wr nq))
   generalize wr.drewN nq = wb at HBS ⊢
   clear x0 x1
   go_wp2_with fail
   go_roundw
   case rel => exact ⟨i + 1, by omega, by go_num, HBS.out⟩
   case measure => simp [intOf]; omega
  ·have HG5 := GR (HG4.out.below HBR.out)
   have HB5 := GR (af HB4.out HBR.out)
   have HV5 := GR (HV4.out.below HBR.out)
   cases mb with
   | false =>
    have hL0 : L.length = 0 := by rw [HL.out]; unfold fi; rw [if_neg (by rw [← HMB.out]; simp)]; rfl
    have y1 : ((L.length : Int) == 0) = true := by rw [hL0]; rfl
    have y2 : decide ((L.length : Int) = 0) = true := by rw [hL0]; rfl
    have HY := GR hL0
    clear hL0
    go_wp2_with fail
    go_ret
    exact ⟨rfl, HB5.out⟩
   | true =>
    have hb : aY g = true := HMB.out.symm
    have hv := (cm.1 (c6 hb)).1
    have h26 := (aj.1 hv).2.1
    obtain ⟨ms, hms⟩ : ∃ x, x = i9 g := ⟨_, rfl⟩
    obtain ⟨hs, hhs⟩ : ∃ x, x = mf g := ⟨_, rfl⟩
    obtain ⟨o, ho⟩ : ∃ x, x = qV g := ⟨_, rfl⟩
    have hme : ms = ae g (ak g) := by rw [hms]; unfold i9; rw [if_pos hv]
    have hml : ∀ i ∈ ak g, i < g.length := dP 2 bD
    have hmz : ms.size = (ak g).length := by rw [hme]; exact ax hv _ hml
    have hm26 : ms.size ≤ 26 := by rw [hmz]; exact Nat.le_trans (eX 2 bD) (bO hv)
    have hhe : hs = ae g (aL g) := by rw [hhs]; exact sU hv
    have hhz : hs.size = (aL g).length := by rw [hhe]; exact ax hv _ yp
    have hh26 : hs.size ≤ 26 := by rw [hhs]; exact (xw hv).2
    have hoe : o = ae g (ac g) := by rw [ho]; unfold qV; rw [if_pos hv]
    have hwl := bK hv
    obtain ⟨K, hK⟩ : ∃ K, K = (bw g aS).length := ⟨_, rfl⟩
    have hK52 : K ≤ 52 := by rw [hK]; exact oa hv aS
    have hLe : L = [(ms.size : Int), (hs.size : Int), ((K + f5 g (ak g) : Nat) : Int)] := by
     rw [HL.out, Gq hb, hmz, hhz, xA hb, hK]; rfl
    have HMI := GR (fun W (h : Gr W A1 g) => (hms ▸ ur A1 c1 g W h (by omega) : Calls Tryz.prog 27 #[.slice A1 g.length c1] W fun e w' => e = .returned (.tuple #[.string ms, .bool (aa g)]) ∧ Below W.heap.size W w'))
    have HHI := GR (fun W (h : Gr W A1 g) => (hhs ▸ qX A1 c1 g W h (by omega) : Calls Tryz.prog 28 #[.slice A1 g.length c1] W fun e w' => e = .returned (.tuple #[.string hs, .bool (aa g)]) ∧ Below W.heap.size W w'))
    have HOI := GR (fun W (h : Gr W A1 g) => (ho ▸ uq A1 c1 g W h (by omega) : Calls Tryz.prog 30 #[.slice A1 g.length c1] W fun e w' => e = .returned (.tuple #[.string o, .bool (aa g)]) ∧ Below W.heap.size W w'))
    have HBI := GR (fun W (h : Gr W A1 g) => ((vM A1 c1 g W h (by omega)).mono fun e w' ⟨u, e1, e2, e3⟩ => by
     rw [if_pos hv] at e2
     obtain ⟨A9, c9, e9, _⟩ := gO e2
     rw [List.length_map, ← hK] at e9
     subst e9
     exact ⟨A9, c9, e1, e3⟩ : Calls Tryz.prog 29 #[.slice A1 g.length c1] W fun e w' => ∃ A9 c9, e = .returned (.tuple #[.slice A9 K c9, .bool (aa g)]) ∧ Below W.heap.size W w'))
    have HPI := GR (fun W (k : Gr W A1 g) s => vS A1 c1 g s W k (by omega))
    have HS0 := GR (fun i (hi : i ≤ ms.size) => show f5 g ((ak g).take i) ≤ 26 * i from by
     clear hK52 hLe
     induction i with
     | zero => simp [f5]
     | succ i ih =>
      have hi' : i < (ak g).length := by omega
      rw [tn hi']
      have := ih (by omega)
      have h2 := yA hv (ak g)[i]
      have h3 := List.countP_le_length (p := iJ g (ak g)[i]) (l := dN g (ak g)[i] g.length)
      have h4 := qR g (ak g)[i]
      omega)
    have HSE := GR (show f5 g ((ak g).take ms.size) = f5 g (ak g) by rw [List.take_of_length_le (by omega)])
    have HMX := GR (fun i (hi : i < ms.size) => show ∃ y, y < g.length ∧ Rch g [] y ∧ ms.extract i (i + 1) = ay g y ∧ f5 g ((ak g).take (i + 1)) = f5 g ((ak g).take i) + (dN g y g.length).countP (iJ g y) from by
     have hi' : i < (ak g).length := by omega
     have hm := List.getElem_mem hi'
     exact ⟨(ak g)[i], hml _ hm, jG hv hm, by rw [hme]; exact mh hv hml hi', by rw [tn hi', yA hv]⟩)
    have HVV := GR hv
    have HOE := GR hoe
    have HLE := GR hLe
    clear hb hv hms hhs ho hme hml hmz hhe hhz hoe hK hLe
    go_wp2_with fail
    refine (HMI.out wr HG5.out).mono ?_
    rintro e w6 ⟨rfl, b6⟩
    have HG6 := GR (HG5.out.below b6)
    have HB6 := GR (af HB5.out b6)
    have HV6 := GR (HV5.out.below b6)
    clear b6
    go_wp2_with fail
    refine (HHI.out w6 HG6.out).mono ?_
    rintro e w7 ⟨rfl, b7⟩
    have HG7 := GR (HG6.out.below b7)
    have HB7 := GR (af HB6.out b7)
    have HV7 := GR (HV6.out.below b7)
    clear b7
    go_wp2_with fail
    refine (HBI.out w7 HG7.out).mono ?_
    rintro e w8 ⟨A9, c9, rfl, b8⟩
    have HG8 := GR (HG7.out.below b8)
    have HB8 := GR (af HB7.out b8)
    have HV8 := GR (HV7.out.below b8)
    clear b8
    go_wp2_with fail
    refine (HOI.out w8 HG8.out).mono ?_
    rintro e w9 ⟨rfl, b9⟩
    have HG9 := GR (HG8.out.below b9)
    have HB9 := GR (af HB8.out b9)
    have HV9 := GR (HV8.out.below b9)
    clear b9
    go_wp2_with fail
    go_loopw [17, 98] (fun nv iv wr => ∃ (n i : Nat), i ≤ ms.size ∧ iv = .int .i64 i ∧ nv = .int .i64 ((K : Int) + (n : Int)) ∧ Hid (n = f5 g ((ak g).take i)) ∧ Hid (Gr wr A1 g) ∧ Hid (Below w9.heap.size w9 wr)) (fun _ iv _ => ms.size - (intOf iv).toNat)
    case atStart => exact ⟨0, 0, Nat.zero_le _, rfl, by congr 1 <;> omega, (by simp [f5] : 0 = f5 g ((ak g).take 0)), HG9.out, Below.refl _ _⟩
    case round =>
     obtain ⟨n, i, hi, rfl, rfl, HN, HG, HB⟩ := hrel
     have hn676 : n ≤ 676 := by rw [HN.out]; have := HS0.out i hi; omega
     by_cases hlt : i < ms.size
     ·obtain ⟨y, hyl, hyr, hot, hst⟩ := HMX.out i hlt
      have hi1 : i + 1 ≤ ms.size := by omega
      obtain ⟨ps, hps⟩ : ∃ ps, ps = gt g (ms.extract i (i + 1)) := ⟨_, rfl⟩
      have HPQ := GR (HPI.out wr HG.out (ms.extract i (i + 1)))
      rw [← hps] at HPQ
      obtain ⟨Q, hQ⟩ : ∃ Q, Q = dN g y g.length := ⟨_, rfl⟩
      have hQl : ∀ p ∈ Q, p < g.length := by rw [hQ]; exact DC (Nat.le_refl _)
      have hpe : ps = ae g Q := by rw [hps, hot, hQ]; exact BF HVV.out hyl
      have hpz : ps.size = Q.length := by rw [hpe]; exact ax HVV.out _ hQl
      have hp26 : ps.size ≤ 26 := by rw [hpz, hQ]; have := qR g y; omega
      have HQX := GR (fun m (hm : m < ps.size) => show ∃ p, p < g.length ∧ ps.extract m (m + 1) = ay g p ∧ ∀ q : Nat → Bool, (Q.take (m + 1)).countP q = (Q.take m).countP q + (if q p = true then 1 else 0) from by
       have hm' : m < Q.length := by omega
       have h9 := List.getElem_mem hm'
       exact ⟨Q[m], hQl _ h9, by rw [hpe]; exact mh HVV.out hQl hm', fun q => Di hm' q⟩)
      have HQE := GR (show Q.take ps.size = Q from List.take_of_length_le (by omega))
      have HST := GR (show f5 g ((ak g).take (i + 1)) = n + Q.countP (iJ g y) by rw [hst, ← HN.out, hQ])
      obtain ⟨P, hP⟩ : ∃ P, P = ah g y := ⟨_, rfl⟩
      have hP26 : P < 26 := by rw [hP]; have := j7 HVV.out hyr; omega
      have TM := GR (fun W => (by have := po g (ac g) y W HVV.out (aX HVV.out) hyl (by omega); rw [wt HVV.out hyr, ← hP, ← HOE.out, ← hot] at this; exact this : Calls Tryz.prog 32 #[.string o, .string (ms.extract i (i + 1))] W fun e w' => e = .returned (.int .i64 P) ∧ W = w'))
      have HP := GR hP
      clear hps hpe hQ hP hot hst hyl hyr
      go_wp2_with fail
      refine HPQ.out.mono ?_
      rintro e v1 ⟨rfl, d1⟩
      have HGa := GR (HG.out.below d1)
      have HBa := GR (af HB.out d1)
      clear d1 HPQ
      go_wp2_with fail
      go_loop [17, 113] (fun nv mv => ∃ (m f : Nat), m ≤ ps.size ∧ f ≤ m ∧ mv = .int .i64 m ∧ nv = .int .i64 ((K : Int) + (n : Int) + (f : Int)) ∧ Hid (f = (Q.take m).countP (iJ g y))) (fun _ mv => ps.size - (intOf mv).toNat)
      case atStart => exact ⟨0, 0, Nat.zero_le _, Nat.le_refl _, rfl, by congr 1 <;> omega, (by simp : 0 = (Q.take 0).countP (iJ g y))⟩
      case round =>
       obtain ⟨m, f, hm, hfm, rfl, rfl, HF⟩ := hrel
       by_cases hmlt : m < ps.size
       ·obtain ⟨p, hpl, ep, hcount⟩ := HQX.out m hmlt
        have hm1 : m + 1 ≤ ps.size := by omega
        have TA := GR (by have := po g (ac g) p v1 HVV.out (aX HVV.out) hpl (by omega); rw [← HOE.out, ← ep] at this; exact this : Calls Tryz.prog 32 #[.string o, .string (ps.extract m (m + 1))] v1 fun e w' => e = .returned (.int .i64 (fT (ac g) p)) ∧ v1 = w')
        by_cases hpr : p ∈ ac g
        ·have hpr' : Rch g [] p := (aA HVV.out).1 hpr
         rw [wt HVV.out hpr'] at TA
         obtain ⟨R, hR⟩ : ∃ R, R = ah g p := ⟨_, rfl⟩
         rw [← hR] at TA
         have z0 : (0 : Int) ≤ (R : Int) := by omega
         by_cases hRi : R < P
         ·have HF2 := GR (show f + 1 = (Q.take (m + 1)).countP (iJ g y) by
           rw [hcount, ← HF.out, if_pos (by unfold iJ; rw [decide_eq_true hpr, ← HP.out, ← hR, decide_eq_true hRi]; rfl)])
          have q4 : (R : Int) < (P : Int) := by omega
          have s1 : IntKind.i64.wrap ((K : Int) + (n : Int) + (f : Int) + 1) = (K : Int) + (n : Int) + (f : Int) + 1 := IntWalk.i64_in _ (by omega)
          clear hcount hR hpr hpr' ep hRi
          go_wp2_with fail
          refine TA.out.mono ?_
          rintro e w' ⟨rfl, rfl⟩
          go_wp2_with fail
          refine (TM.out _).mono ?_
          rintro e w' ⟨rfl, rfl⟩
          go_wp2_with fail
          go_round
          case rel => exact ⟨m + 1, f + 1, by omega, by omega, by go_num, by congr 1 <;> omega, HF2.out⟩
          case measure => simp [intOf]; omega
         ·have HF2 := GR (show f = (Q.take (m + 1)).countP (iJ g y) by
           rw [hcount, ← HF.out, if_neg (by unfold iJ; rw [decide_eq_true hpr, ← HP.out, ← hR, decide_eq_false hRi]; simp)]; rfl)
          have q4 : ¬ (R : Int) < (P : Int) := by omega
          clear hcount hR hpr hpr' ep hRi
          go_wp2_with fail
          refine TA.out.mono ?_
          rintro e w' ⟨rfl, rfl⟩
          go_wp2_with fail
          refine (TM.out _).mono ?_
          rintro e w' ⟨rfl, rfl⟩
          go_wp2_with fail
          go_round
          case rel => exact ⟨m + 1, f, by omega, by omega, by go_num, rfl, HF2.out⟩
          case measure => simp [intOf]; omega
        ·have hidx : fT (ac g) p = -1 := by unfold fT; rw [if_neg hpr]
         rw [hidx] at TA
         have HF2 := GR (show f = (Q.take (m + 1)).countP (iJ g y) by
          rw [hcount, ← HF.out, if_neg (by unfold iJ; rw [decide_eq_false hpr]; simp)]; rfl)
         clear hcount hpr ep hidx
         go_wp2_with fail
         refine TA.out.mono ?_
         rintro e w' ⟨rfl, rfl⟩
         go_wp2_with fail
         go_round
         case rel => exact ⟨m + 1, f, by omega, by omega, by go_num, rfl, HF2.out⟩
         case measure => simp [intOf]; omega
       ·have hme : m = ps.size := by omega
        have HNN := GR (show n + f = f5 g ((ak g).take (i + 1)) by rw [HST.out, HF.out, hme, HQE.out])
        clear hme
        go_wp2_with fail
        go_roundw
        case rel => exact ⟨n + f, i + 1, by omega, by go_num, by congr 1 <;> omega, HNN.out, HGa.out, HBa.out⟩
        case measure => simp [intOf]; omega
     ·have hie : i = ms.size := by omega
      have hne : n = f5 g (ak g) := by rw [HN.out, hie, HSE.out]
      obtain ⟨AA, cc, e1, k1⟩ := ik (HV9.out.below HB.out)
      injection e1 with e1 _ e1c
      subst e1; subst e1c
      have hl3 : L.length = 3 := by rw [HLE.out]; rfl
      obtain ⟨B, rfl, _, m0⟩ := k1 0 (by omega)
      obtain ⟨B2, hB2, _, m1⟩ := k1 1 (by omega)
      obtain ⟨B3, hB3, _, m2⟩ := k1 2 (by omega)
      injection hB2 with hB2
      injection hB2 with hB2 _ _
      injection hB3 with hB3
      injection hB3 with hB3 _ _
      subst hB2; subst hB3
      have x0 : wr.cell? ⟨B, 0, none⟩ = some (.int .i64 (ms.size : Int)) := by rw [m0]; simp only [HLE.out]; rfl
      have x1 : wr.cell? ⟨B, 1, none⟩ = some (.int .i64 (hs.size : Int)) := by rw [m1]; simp only [HLE.out]; rfl
      have x2 : wr.cell? ⟨B, 2, none⟩ = some (.int .i64 ((K : Int) + (n : Int))) := by
       rw [m2]; simp only [HLE.out]
       show some (Value.int .i64 ((K + f5 g (ak g) : Nat) : Int)) = _
       rw [← hne]
       congr 2 <;> omega
      have y1 : ((ms.size : Int) == (ms.size : Int)) = true := by simp
      have y2 : ((hs.size : Int) == (hs.size : Int)) = true := by simp
      have y3 : (((K : Int) + (n : Int)) == ((K : Int) + (n : Int))) = true := by simp
      have HBB := GR (af HB9.out HB.out)
      clear m0 m1 m2 k1 hie hne
      go_wp2_with fail
      go_ret
      exact ⟨rfl, HBB.out⟩
end Go.Proofs.YtlkfakdghjaoaaaGreatDoor
