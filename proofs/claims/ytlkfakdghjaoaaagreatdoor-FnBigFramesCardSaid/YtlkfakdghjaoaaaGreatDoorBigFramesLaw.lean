import Derived.Test.YtlkfakdghjaoaaaGreatDoorJ8
import Derived.Test.YtlkfakdghjaoaaaGreatDoorJ3
import Derived.Test.YtlkfakdghjaoaaaGreatDoorJ12
import Derived.Test.YtlkfakdghjaoaaaGreatDoorMadeFacts
import Derived.Test.YtlkfakdghjaoaaaGreatDoorMadeAt
import Derived.Test.YtlkfakdghjaoaaaGreatDoorKids
import Derived.Test.YtlkfakdghjaoaaaGreatDoorParentOf
import Derived.Test.YtlkfakdghjaoaaaGreatDoorSjTexts
import Derived.Test.YtlkfakdghjaoaaaGreatDoorJ11
namespace Go.Proofs.YtlkfakdghjaoaaaGreatDoor
open Go.RowKit Go.Sort
set_option maxRecDepth 100000 in
set_option maxHeartbeats 6400000 in
theorem bigFrames_walk (A : Option Addr) (la ca : Nat) (w : World) (hA : Bytes w A la) (h1 : la ≤ ca) (h3 : ca ≤ 9223372036854775807) :
  Calls Tryz.prog 8 #[.slice A la ca] w fun e w' => e = .returned (.bool true) ∧ Below w.heap.size w w' := by
 by_cases g1 : (1048576 : Int) < la
 ·clear hA
  go_enter Tryz.func8, Tryz.ntmps8
  go_wp2_with fail
  go_ret
  exact ⟨rfl, Below.refl _ _⟩
 have HA := Lib.hid (drawFramesAt_any A la ca w hA h1 h3)
 clear hA
 go_enter Tryz.func8, Tryz.ntmps8
 go_wp2_with fail
 refine HA.out.mono ?_
 intro e w1 hd1
 obtain ⟨A1, c1, g, s, rfl, hc1, gg, hn1, hs2, b1⟩ := drawnPlace_of hd1
 have HB1 := Lib.hid b1
 have HG1 := Lib.hid gg
 clear hd1 b1 gg
 obtain ⟨pb, hpb⟩ : ∃ x, x = partB g s := ⟨_, rfl⟩
 obtain ⟨F, hF⟩ : ∃ x, x = framesV g s := ⟨_, rfl⟩
 obtain ⟨o, ho⟩ : ∃ x, x = orderV g := ⟨_, rfl⟩
 obtain ⟨ms, hms⟩ : ∃ x, x = meetsV g := ⟨_, rfl⟩
 have HFI := Lib.hid (fun W (h : Gr W A1 g) => (hF ▸ hpb ▸ implFramesAt_any A1 c1 g s W h (by omega) (by omega) : Calls Tryz.prog 36 #[.slice A1 g.length c1, .string s] W fun e w' => e = .returned (.tuple #[.string F, .bool pb]) ∧ Below W.heap.size W w'))
 have HFS := Lib.hid (fun W (h : Gr W A1 g) => (hF ▸ hpb ▸ specFramesAt_any A1 c1 g s W h (by omega) hc1 : Calls Tryz.prog 37 #[.slice A1 g.length c1, .string s] W fun e w' => e = .returned (.tuple #[.string F, .bool pb]) ∧ Below W.heap.size W w'))
 have HOI := Lib.hid (fun W (h : Gr W A1 g) => (ho ▸ implOrder_any A1 c1 g W h (by omega) : Calls Tryz.prog 30 #[.slice A1 g.length c1] W fun e w' => e = .returned (.tuple #[.string o, .bool (validB g)]) ∧ Below W.heap.size W w'))
 have HMI := Lib.hid (fun W (h : Gr W A1 g) => (hms ▸ implMeets_any A1 c1 g W h (by omega) : Calls Tryz.prog 27 #[.slice A1 g.length c1] W fun e w' => e = .returned (.tuple #[.string ms, .bool (validB g)]) ∧ Below W.heap.size W w'))
 have q1 : (pb == pb) = true := by simp
 have q2 : (pb != pb) = false := by simp
 have q3 : (F.toList == F.toList) = true := by simp
 have q4 : (F.toList != F.toList) = false := by simp
 have HPB := Lib.hid hpb
 have HFV := Lib.hid hF
 have HOV := Lib.hid ho
 have HMV := Lib.hid hms
 clear hpb hF ho hms
 go_wp2_with fail
 refine (HFI.out w1 HG1.out).mono ?_
 rintro e w2 ⟨rfl, b2⟩
 have HG2 := Lib.hid (HG1.out.below b2)
 have HB2 := Lib.hid (below_trans_self HB1.out b2)
 clear b2
 go_wp2_with fail
 refine (HFS.out w2 HG2.out).mono ?_
 rintro e w3 ⟨rfl, b3⟩
 have HG3 := Lib.hid (HG2.out.below b3)
 have HB3 := Lib.hid (below_trans_self HB2.out b3)
 clear b3
 cases pb with
 | false =>
  go_wp2_with fail
  go_ret
  exact ⟨rfl, HB3.out⟩
 | true =>
  obtain ⟨n, fr, hb, hr, hsn, hFe, _, _, k1, k2, k3⟩ := part_yes HPB.out.symm
  have hv := (tameB_iff.1 (madeB_tame hb)).1
  have hnl := hr.lt hv
  have hsz : s = nthName g n := by rw [hsn, nmS_name hv hnl]
  have hlive : liveOf g s = some n := by rw [hsz]; exact liveOf_some hv (pos_name hv hnl) ((mem_reach hv).2 hr)
  have hoe : o = namesAt g (wayOrd g) := by rw [HOV.out]; unfold orderV; rw [if_pos hv]
  have hme : ms = namesAt g (meetsL g) := by rw [HMV.out]; unfold meetsV; rw [if_pos hv]
  have hml : ∀ i ∈ meetsL g, i < g.length := goalL_lt 2 fwdK
  have hmz : ms.size ≤ 26 := by
   rw [hme, namesAt_size hv _ hml]
   exact Nat.le_trans (goalL_len 2 fwdK) (reachS_small hv)
  have hfl : ∀ e ∈ fr, e.1 < g.length := fun e he => (k2.2 e he).1
  have hFF : F = tb (frS g fr) := by rw [HFV.out, hFe]
  have hFz : F.size = fr.length := by rw [hFF, tb_size]; unfold frS; rw [List.length_map]
  have hF52 : F.size ≤ 52 := by rw [hFz]; exact k2.len hv
  have hwl := wayOrd_len hv
  have h26 := (valid_iff.1 hv).2.1
  have HFX := Lib.hid (fun i (hi : i < F.size) => show (¬ ((F[i]'hi).toNat : Int) ≤ 90) ∨ (65 ≤ (F[i]'hi).toNat ∧ (F[i]'hi).toNat ≤ 90 ∧ ∃ X P : ByteArray, ∃ a b : Nat, F.extract i (i + 1) = X ∧ parV g X = P ∧ parO g X = true ∧ hasB ms X = true ∧ domB g X s = false ∧ domB g P s = true ∧ b < a ∧ a < 100 ∧
    (∀ W, Calls Tryz.prog 32 #[.string o, .string X] W fun e w' => e = .returned (.int .i64 a) ∧ W = w') ∧ (∀ W, Calls Tryz.prog 32 #[.string o, .string P] W fun e w' => e = .returned (.int .i64 b) ∧ W = w')) from by
   have hi' : i < fr.length := by omega
   obtain ⟨c, e1, e2, e3⟩ := fr_byte hv hfl hi'
   have e0 : (F[i]'hi) = c := by rw [← e1]; simp only [hFF]
   have hm := List.getElem_mem hi'
   have hxl := hfl _ hm
   cases hp : fr[i].2 with
   | true => exact .inl (by have := (e2 hp).2.1; rw [e0]; omega)
   | false =>
    obtain ⟨u1, u2, u3⟩ := e3 hp
    obtain ⟨m1, m2⟩ := (k3 _ hm).2 hp
    obtain ⟨p, p1, p2, p3⟩ := (k2.2 _ hm).2.2 hp
    have hyr := meets_live hv m1
    have hpr := p1.2.1
    have hpl := hpr.lt hv
    have hex : F.extract i (i + 1) = nthName g fr[i].1 := by
     rw [nmS_name hv hxl]
     apply ba_ext
     have hd : F.data.toList = frS g fr := by rw [hFF, tb_data]
     rw [← Lib.toList_data, Lib.extract_toList, hd]
     unfold frS nmS
     have hz : i < (fr.map (frC g)).length := by rw [List.length_map]; exact hi'
     rw [List.drop_eq_getElem_cons hz]
     simp [frC, hp]
    refine .inr ⟨by rw [e0]; exact u2, by rw [e0]; exact u3, nthName g fr[i].1, nthName g p, placeN g fr[i].1, placeN g p, hex, ?_, ?_, ?_, ?_, ?_, par_place hv hyr p1, by have := place_lt hv hyr; omega, ?_, ?_⟩
    ·have hl : liveOf g (nthName g fr[i].1) = some fr[i].1 := liveOf_some hv (pos_name hv hxl) ((mem_reach hv).2 hyr)
     unfold parV
     rw [hl]
     exact parS_some ((parL_iff hv hyr).2 p1)
    ·have hl : liveOf g (nthName g fr[i].1) = some fr[i].1 := liveOf_some hv (pos_name hv hxl) ((mem_reach hv).2 hyr)
     unfold parO
     rw [hl]
     show (parL g fr[i].1).isSome = true
     rw [(parL_iff hv hyr).2 p1]; rfl
    ·rw [hme, hasN hv hml hxl]; exact decide_eq_true m1
    ·rw [domB_some (liveOf_some hv (pos_name hv hxl) ((mem_reach hv).2 hyr)) hlive, Bool.eq_false_iff]
     intro h
     exact m2 ((dmB_iff hv).1 h)
    ·rw [domB_some (liveOf_some hv (pos_name hv hpl) ((mem_reach hv).2 hpr)) hlive]
     exact (dmB_iff hv).2 p2
    ·intro W
     have := sjIndex_any g (wayOrd g) fr[i].1 W hv (wayOrd_lt hv) hxl (by omega)
     rw [idxN_way hv hyr, ← hoe] at this
     exact this
    ·intro W
     have := sjIndex_any g (wayOrd g) p W hv (wayOrd_lt hv) hpl (by omega)
     rw [idxN_way hv hpr, ← hoe] at this
     exact this)
  have HPA := Lib.hid (fun W (h : Gr W A1 g) X => implParent_any A1 c1 g X W h (by omega))
  have HDM := Lib.hid (fun W (h : Gr W A1 g) X => implDominates_any A1 c1 g X s W h (by omega))
  clear hb hr hsn hFe k1 k2 k3 hv hsz hlive hoe hme hml hfl hFF hFz hwl hnl
  go_wp2_with fail
  refine (HOI.out w3 HG3.out).mono ?_
  rintro e w4 ⟨rfl, b4⟩
  have HG4 := Lib.hid (HG3.out.below b4)
  have HB4 := Lib.hid (below_trans_self HB3.out b4)
  clear b4
  go_wp2_with fail
  refine (HMI.out w4 HG4.out).mono ?_
  rintro e w5 ⟨rfl, b5⟩
  have HG5 := Lib.hid (HG4.out.below b5)
  have HB5 := Lib.hid (below_trans_self HB4.out b5)
  clear b5
  go_wp2_with fail
  go_loopw [69] (fun iv wr => ∃ i : Nat, i ≤ F.size ∧ iv = .int .i64 i ∧ Hid (Gr wr A1 g) ∧ Hid (Below w.heap.size w wr)) (fun iv _ => F.size - (intOf iv).toNat)
  case atStart => exact ⟨0, Nat.zero_le _, rfl, HG5.out, HB5.out⟩
  case round =>
   obtain ⟨i, hi, rfl, HG, HB⟩ := hrel
   by_cases hlt : i < F.size
   ·have hi1 : i + 1 ≤ F.size := by omega
    rcases HFX.out i hlt with z1 | ⟨z1, z2, X, P, a, b, e1, e2, e3, e4, e5, e6, e7, e8, e9, e10⟩
    ·have z2 : (90 : Int) < ((F[i]'hlt).toNat : Int) := by omega
     have z3 : ¬ ((F[i]'hlt).toNat : Int) < 65 := by omega
     go_wp2_with fail
     go_roundw
     case rel => exact ⟨i + 1, by omega, by go_num, HG, HB⟩
     case measure => simp [intOf]; omega
    ·have z3 : ¬ (90 : Int) < ((F[i]'hlt).toNat : Int) := by omega
     have z4 : ¬ ((F[i]'hlt).toNat : Int) < 65 := by omega
     have HPQ := Lib.hid (by have := HPA.out wr HG.out X; rw [e2, e3] at this; exact this : Calls Tryz.prog 43 #[.slice A1 g.length c1, .string X] wr fun e w' => e = .returned (.tuple #[.string P, .bool true]) ∧ Below wr.heap.size wr w')
     have HD1 := Lib.hid (fun W (h : Gr W A1 g) => (by have := HDM.out W h X; rw [e5] at this; exact this : Calls Tryz.prog 42 #[.slice A1 g.length c1, .string X, .string s] W fun e w' => e = .returned (.bool false) ∧ Below W.heap.size W w'))
     have HD2 := Lib.hid (fun W (h : Gr W A1 g) => (by have := HDM.out W h P; rw [e6] at this; exact this : Calls Tryz.prog 42 #[.slice A1 g.length c1, .string P, .string s] W fun e w' => e = .returned (.bool true) ∧ Below W.heap.size W w'))
     have tB := Lib.hid (fun W => (by have := sjHas_any ms X W (by omega); rw [e4] at this; exact this : Calls Tryz.prog 19 #[.string ms, .string X] W fun e w' => e = .returned (.bool true) ∧ W = w'))
     have hsl : ∀ W, (Instr.slice 9 (.string F) (some (.int .i64 i)) (some (.int .i64 ((i : Int) + 1))) none).run Tryz.prog W = .ok (.string X) W := fun W => by
      have := run_slice_string (P := Tryz.prog) W 9 F .i64 .i64 (i : Int) (i + 1 : Int) Tryz.underlying9 (by omega) (by omega) (by omega)
      rw [this]
      have d1 : ((i : Int)).toNat = i := by omega
      have d2 : ((i : Int) + 1).toNat = i + 1 := by omega
      rw [d1, d2, e1]
     have TA := Lib.hid e9
     have TB := Lib.hid e10
     have y1 : ¬ ((a : Int) ≤ (b : Int)) := by omega
     clear e1 e2 e3 e4 e5 e6 e9 e10
     go_wp2_with fail
     refine HPQ.out.mono ?_
     rintro e v1 ⟨rfl, d1⟩
     have HGa := Lib.hid (HG.out.below d1)
     have HBa := Lib.hid (below_trans_self HB.out d1)
     clear d1
     go_wp2_with fail
     refine (tB.out _).mono ?_
     rintro e w' ⟨rfl, rfl⟩
     go_wp2_with fail
     refine (HD1.out _ HGa.out).mono ?_
     rintro e v2 ⟨rfl, d2⟩
     have HGb := Lib.hid (HGa.out.below d2)
     have HBb := Lib.hid (below_trans_self HBa.out d2)
     clear d2
     go_wp2_with fail
     refine (HD2.out _ HGb.out).mono ?_
     rintro e v3 ⟨rfl, d3⟩
     have HGc := Lib.hid (HGb.out.below d3)
     have HBc := Lib.hid (below_trans_self HBb.out d3)
     clear d3
     go_wp2_with fail
     refine (TA.out _).mono ?_
     rintro e w' ⟨rfl, rfl⟩
     go_wp2_with fail
     refine (TB.out _).mono ?_
     rintro e w' ⟨rfl, rfl⟩
     go_wp2_with fail
     go_roundw
     case rel => exact ⟨i + 1, by omega, by go_num, HGc.out, HBc.out⟩
     case measure => simp [intOf]; omega
   ·go_wp2_with fail
    go_ret
    exact ⟨rfl, HB.out⟩
end Go.Proofs.YtlkfakdghjaoaaaGreatDoor
