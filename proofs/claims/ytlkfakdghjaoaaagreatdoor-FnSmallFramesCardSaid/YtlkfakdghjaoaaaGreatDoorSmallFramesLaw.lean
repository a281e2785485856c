import Derived.Test.YtlkfakdghjaoaaaGreatDoorJ8
import Derived.Test.YtlkfakdghjaoaaaGreatDoorJ3
import Derived.Test.YtlkfakdghjaoaaaGreatDoorJ12
import Derived.Test.YtlkfakdghjaoaaaGreatDoorMadeFacts
import Derived.Test.YtlkfakdghjaoaaaGreatDoorMadeAt
import Derived.Test.YtlkfakdghjaoaaaGreatDoorDominatorsOf
import Derived.Test.YtlkfakdghjaoaaaGreatDoorJ11
namespace Go.Proofs.YtlkfakdghjaoaaaGreatDoor
open Go.RowKit Go.Sort
set_option maxRecDepth 100000 in
set_option maxHeartbeats 6400000 in
theorem smallFrames_walk (A : Option Addr) (la ca : Nat) (w : World) (hA : Bytes w A la) (h1 : la ≤ ca) (h3 : ca ≤ 9223372036854775807) :
  Calls Tryz.prog 7 #[.slice A la ca] w fun e w' => e = .returned (.bool true) ∧ Below w.heap.size w w' := by
 by_cases g1 : (1048576 : Int) < la
 ·clear hA
  go_enter Tryz.func7, Tryz.ntmps7
  go_wp2_with fail
  go_ret
  exact ⟨rfl, Below.refl _ _⟩
 have HA := Lib.hid (drawFramesAt_any A la ca w hA h1 h3)
 clear hA
 go_enter Tryz.func7, Tryz.ntmps7
 go_wp2_with fail
 refine HA.out.mono ?_
 intro e w1 hd1
 obtain ⟨A1, c1, g, s, rfl, hc1, gg, hn1, hs2, b1⟩ := drawnPlace_of hd1
 have HB1 := Lib.hid b1
 have HG1 := Lib.hid gg
 clear hd1 b1 gg
 obtain ⟨pb, hpb⟩ : ∃ x, x = partB g s := ⟨_, rfl⟩
 obtain ⟨F, hF⟩ : ∃ x, x = framesV g s := ⟨_, rfl⟩
 obtain ⟨D, hD⟩ : ∃ x, x = domV g s := ⟨_, rfl⟩
 obtain ⟨hs, hhs⟩ : ∃ x, x = headV g := ⟨_, rfl⟩
 have HFI := Lib.hid (fun W (h : Gr W A1 g) => (hF ▸ hpb ▸ implFramesAt_any A1 c1 g s W h (by omega) (by omega) : Calls Tryz.prog 36 #[.slice A1 g.length c1, .string s] W fun e w' => e = .returned (.tuple #[.string F, .bool pb]) ∧ Below W.heap.size W w'))
 have HFS := Lib.hid (fun W (h : Gr W A1 g) => (hF ▸ hpb ▸ specFramesAt_any A1 c1 g s W h (by omega) hc1 : Calls Tryz.prog 37 #[.slice A1 g.length c1, .string s] W fun e w' => e = .returned (.tuple #[.string F, .bool pb]) ∧ Below W.heap.size W w'))
 have HDI := Lib.hid (fun W (h : Gr W A1 g) => (hD ▸ implDominators_any A1 c1 g s W h (by omega) : Calls Tryz.prog 41 #[.slice A1 g.length c1, .string s] W fun e w' => e = .returned (.tuple #[.string D, .bool (liveB g s)]) ∧ Below W.heap.size W w'))
 have HHI := Lib.hid (fun W (h : Gr W A1 g) => (hhs ▸ implHeaders_any A1 c1 g W h (by omega) : Calls Tryz.prog 28 #[.slice A1 g.length c1] W fun e w' => e = .returned (.tuple #[.string hs, .bool (validB g)]) ∧ Below W.heap.size W w'))
 have q1 : (pb == pb) = true := by simp
 have q2 : (pb != pb) = false := by simp
 have HPB := Lib.hid hpb
 have HFV := Lib.hid hF
 have HDV := Lib.hid hD
 have HHV := Lib.hid hhs
 clear hpb hF hD hhs
 go_wp2_with fail
 refine (HFI.out w1 HG1.out).mono ?_
 rintro e w2 ⟨rfl, b2⟩
 have HG2 := Lib.hid (HG1.out.below b2)
 have HB2 := Lib.hid (below_trans_self HB1.out b2)
 clear b2
 go_wp2_with fail
 refine (HFS.out w2 HG2.out).mono ?_
 rintro e w3 ⟨rfl, b3⟩
 have HG3 := Lib.hid (HG2.out.below b3)
 have HB3 := Lib.hid (below_trans_self HB2.out b3)
 clear b3
 cases pb with
 | false =>
  have q0 : F.toList = [] := by rw [HFV.out, (part_no HPB.out.symm).1, Lib.toList_data]
  go_wp2_with fail
  go_ret
  exact ⟨rfl, HB3.out⟩
 | true =>
  obtain ⟨n, fr, hb, hr, hsn, hFe, _, _, k1, k2, k3⟩ := part_yes HPB.out.symm
  have hv := (tameB_iff.1 (madeB_tame hb)).1
  have hnl := hr.lt hv
  have hsz : s = nthName g n := by rw [hsn, nmS_name hv hnl]
  have hlive : liveOf g s = some n := by rw [hsz]; exact liveOf_some hv (pos_name hv hnl) ((mem_reach hv).2 hr)
  have hDe : D = namesAt g (domL g n) := by rw [HDV.out, domV_some hlive]
  have hDl : ∀ i ∈ domL g n, i < g.length := domL_lt2 hv hr
  have hDz : D.size = (domL g n).length := by rw [hDe]; exact namesAt_size hv _ hDl
  have hD26 : D.size ≤ 26 := by rw [hDz]; have := domL_len hv n; have := (valid_iff.1 hv).2.1; omega
  have hhe : hs = namesAt g (headL g) := by rw [HHV.out]; exact headV_yes hv
  have hhz : hs.size ≤ 26 := by rw [HHV.out]; exact (headV_small hv).2
  have hfl : ∀ e ∈ fr, e.1 < g.length := fun e he => (k2.2 e he).1
  have hFF : F = tb (frS g fr) := by rw [HFV.out, hFe]
  have hFz : F.size = fr.length := by rw [hFF, tb_size]; unfold frS; rw [List.length_map]
  have hF52 : F.size ≤ 52 := by rw [hFz]; exact k2.len hv
  have HCNT := Lib.hid (small_count hv hr k1 k2 k3)
  have HDX := Lib.hid (fun i (hi : i < D.size) => show ∃ d, ((D.extract i (i + 1)).toList == s.toList) = decide (d = n) ∧ hasB hs (D.extract i (i + 1)) = decide (d ∈ headL g) ∧ (domL g n).take (i + 1) = (domL g n).take i ++ [d] from by
   have hi' : i < (domL g n).length := by omega
   have hd := hDl _ (List.getElem_mem hi')
   refine ⟨(domL g n)[i], ?_, ?_, List.take_succ_eq_append_getElem hi'⟩
   ·rw [hDe, names_at hv hDl hi', hsz, nthName_at hd, nthName_at hnl]
    by_cases e : (domL g n)[i] = n
    ·rw [decide_eq_true e]
     simp only [e]
     simp
    ·rw [decide_eq_false e, Bool.eq_false_iff]
     intro h
     exact e (name_inj hv hd hnl (beq_toList.1 h))
   ·rw [hDe, names_at hv hDl hi', hhe, hasN hv head_lt hd])
  have HFX := Lib.hid (fun i (hi : i < F.size) => show ∃ x : Nat × Bool, fr.take (i + 1) = fr.take i ++ [x] ∧ (x.2 = false → ((F[i]'hi).toNat : Int) < 97) ∧ (x.2 = true → 97 ≤ (F[i]'hi).toNat ∧ (F[i]'hi).toNat ≤ 122 ∧ (⟨#[(F[i]'hi) - 32]⟩ : ByteArray) = nthName g x.1 ∧ x.1 ≠ n ∧ x.1 < g.length ∧ domB g (nthName g x.1) s = true ∧ hasB hs (nthName g x.1) = true) from by
   have hi' : i < fr.length := by omega
   obtain ⟨c, e1, e2, e3⟩ := fr_byte hv hfl hi'
   have e0 : (F[i]'hi) = c := by rw [← e1]; simp only [hFF]
   have hm := List.getElem_mem hi'
   refine ⟨fr[i], List.take_succ_eq_append_getElem hi', fun h => ?_, fun h => ?_⟩
   ·have := (e3 h).2.2
    rw [e0]; omega
   ·obtain ⟨u1, u2, u3⟩ := e2 h
    have hxl := hfl _ hm
    obtain ⟨d1, d2⟩ := (k2.2 _ hm).2.1 h
    rw [e0]
    refine ⟨u2, u3, ?_, d2, hxl, ?_, ?_⟩
    ·rw [nmS_name hv hxl]
     unfold nmS
     congr 2
     rw [u1]
     rw [UInt8.add_sub_cancel]
    ·have hxr : Rch g [] fr[i].1 := d1.live hr
     rw [domB_some (a := fr[i].1) (b := n) (liveOf_some hv (pos_name hv hxl) ((mem_reach hv).2 hxr)) hlive]
     exact (dmB_iff hv).2 d1
    ·rw [hhe, hasN hv head_lt hxl]
     exact decide_eq_true ((k3 _ hm).1 h))
  have HDE := Lib.hid (show (domL g n).take D.size = domL g n from List.take_of_length_le (by omega))
  have HFE := Lib.hid (show fr.take F.size = fr from List.take_of_length_le (by omega))
  have HNM := Lib.hid (fun x (hx : x < g.length) (hne : x ≠ n) => show ((nthName g x).toList == s.toList) = false from by
   rw [hsz, nthName_at hx, nthName_at hnl, Bool.eq_false_iff]
   intro h
   exact hne (name_inj hv hx hnl (beq_toList.1 h)))
  have HDM := Lib.hid (fun W (h : Gr W A1 g) x (hx : domB g (nthName g x) s = true) => (by have := implDominates_any A1 c1 g (nthName g x) s W h (by omega); rw [hx] at this; exact this : Calls Tryz.prog 42 #[.slice A1 g.length c1, .string (nthName g x), .string s] W fun e w' => e = .returned (.bool true) ∧ Below W.heap.size W w'))
  clear hb hr hsn hFe k1 k2 k3 hv hsz hlive hDe hDl hDz hhe hfl hFF hFz
  go_wp2_with fail
  refine (HDI.out w3 HG3.out).mono ?_
  rintro e w4 ⟨rfl, b4⟩
  have HG4 := Lib.hid (HG3.out.below b4)
  have HB4 := Lib.hid (below_trans_self HB3.out b4)
  clear b4
  go_wp2_with fail
  refine (HHI.out w4 HG4.out).mono ?_
  rintro e w5 ⟨rfl, b5⟩
  have HG5 := Lib.hid (HG4.out.below b5)
  have HB5 := Lib.hid (below_trans_self HB4.out b5)
  clear b5
  go_wp2_with fail
  go_loop [13, 58] (fun nv iv => ∃ (x i : Nat), i ≤ D.size ∧ x ≤ i ∧ iv = .int .i64 i ∧ nv = .int .i64 x ∧ Hid (x = ((domL g n).take i).countP (hdP g n))) (fun _ iv => D.size - (intOf iv).toNat)
  case atStart => exact ⟨0, 0, Nat.zero_le _, Nat.le_refl _, rfl, rfl, (by simp : 0 = ((domL g n).take 0).countP (hdP g n))⟩
  case round =>
   obtain ⟨x, i, hi, hxi, rfl, rfl, HX⟩ := hrel
   by_cases hlt : i < D.size
   ·obtain ⟨d, e1, e2, e3⟩ := HDX.out i hlt
    have hi1 : i + 1 ≤ D.size := by omega
    have HNX := Lib.hid (show ((domL g n).take (i + 1)).countP (hdP g n) = x + (if hdP g n d = true then 1 else 0) by rw [e3, List.countP_append, List.countP_singleton, ← HX.out])
    have tB := Lib.hid (by have := sjHas_any hs (D.extract i (i + 1)) w5 (by omega); rw [e2] at this; exact this : Calls Tryz.prog 19 #[.string hs, .string (D.extract i (i + 1))] w5 fun e w' => e = .returned (.bool (decide (d ∈ headL g))) ∧ w5 = w')
    by_cases hd : d = n
    ·have q3 : ((D.extract i (i + 1)).toList == s.toList) = true := by rw [e1]; exact decide_eq_true hd
     have q4 : ((D.extract i (i + 1)).toList != s.toList) = false := by
      show (!((D.extract i (i + 1)).toList == s.toList)) = false
      rw [q3]; rfl
     have HN := Lib.hid (show x = ((domL g n).take (i + 1)).countP (hdP g n) by
      rw [HNX.out, if_neg (by unfold hdP; rw [decide_eq_false (by simpa using hd)]; simp)]; rfl)
     clear e1 e2 e3 hd
     go_wp2_with fail
     go_round
     case rel => exact ⟨x, i + 1, by omega, by omega, by go_num, rfl, HN.out⟩
     case measure => simp [intOf]; omega
    ·have q3 : ((D.extract i (i + 1)).toList == s.toList) = false := by rw [e1]; exact decide_eq_false hd
     have q4 : ((D.extract i (i + 1)).toList != s.toList) = true := by
      show (!((D.extract i (i + 1)).toList == s.toList)) = true
      rw [q3]; rfl
     by_cases hh : d ∈ headL g
     ·have HN := Lib.hid (show x + 1 = ((domL g n).take (i + 1)).countP (hdP g n) by
       rw [HNX.out, if_pos (by unfold hdP; rw [decide_eq_true (p := d ≠ n) hd, decide_eq_true hh]; rfl)])
      rw [decide_eq_true hh] at tB
      clear e1 e2 e3 hd hh
      go_wp2_with fail
      refine tB.out.mono ?_
      rintro e w' ⟨rfl, rfl⟩
      go_wp2_with fail
      go_round
      case rel => exact ⟨x + 1, i + 1, by omega, by omega, by go_num, by go_num, HN.out⟩
      case measure => simp [intOf]; omega
     ·have HN := Lib.hid (show x = ((domL g n).take (i + 1)).countP (hdP g n) by
       rw [HNX.out, if_neg (by unfold hdP; rw [decide_eq_false hh]; simp)]; rfl)
      rw [decide_eq_false hh] at tB
      clear e1 e2 e3 hd hh
      go_wp2_with fail
      refine tB.out.mono ?_
      rintro e w' ⟨rfl, rfl⟩
      go_wp2_with fail
      go_round
      case rel => exact ⟨x, i + 1, by omega, by omega, by go_num, rfl, HN.out⟩
      case measure => simp [intOf]; omega
   ·have HXE := Lib.hid (show x = fr.countP (fun e => e.2) by
     have : i = D.size := by omega
     rw [HX.out, this, HDE.out, HCNT.out])
    clear HX
    have hx26 : x ≤ 26 := by omega
    go_wp2_with fail
    go_loopw [14, 82] (fun nv iv wr => ∃ (y j : Nat), j ≤ F.size ∧ y ≤ j ∧ iv = .int .i64 j ∧ nv = .int .i64 y ∧ Hid (y = (fr.take j).countP (fun e => e.2)) ∧ Hid (Gr wr A1 g) ∧ Hid (Below w.heap.size w wr)) (fun _ iv _ => F.size - (intOf iv).toNat)
    case atStart => exact ⟨0, 0, Nat.zero_le _, Nat.le_refl _, rfl, rfl, (by simp : 0 = (fr.take 0).countP (fun e => e.2)), HG5.out, HB5.out⟩
    case round =>
     obtain ⟨y, j, hj, hyj, rfl, rfl, HY, HG, HB⟩ := hrel
     by_cases hjl : j < F.size
     ·obtain ⟨p, e3, e4, e5⟩ := HFX.out j hjl
      have hj1 : j + 1 ≤ F.size := by omega
      have HNY := Lib.hid (show (fr.take (j + 1)).countP (fun e => e.2) = y + (if p.2 = true then 1 else 0) by rw [e3, List.countP_append, List.countP_singleton, ← HY.out])
      cases hp : p.2 with
      | false =>
       have HN := Lib.hid (show y = (fr.take (j + 1)).countP (fun e => e.2) by rw [HNY.out, hp]; rfl)
       have z1 := e4 hp
       have z2 : ¬ (97 : Int) ≤ ((F[j]'hjl).toNat : Int) := by omega
       have z3 : decide ((97 : Int) ≤ ((F[j]'hjl).toNat : Int)) = false := decide_eq_false z2
       clear e3 e4 e5 hp
       go_wp2_with fail
       go_roundw
       case rel => exact ⟨y, j + 1, by omega, by omega, by go_num, rfl, HN.out, HG, HB⟩
       case measure => simp [intOf]; omega
      | true =>
       have HN := Lib.hid (show y + 1 = (fr.take (j + 1)).countP (fun e => e.2) by rw [HNY.out, hp]; rfl)
       obtain ⟨u1, u2, u3, u4, u5, u6, u7⟩ := e5 hp
       have z2 : (97 : Int) ≤ ((F[j]'hjl).toNat : Int) := by omega
       have z3 : ((F[j]'hjl).toNat : Int) ≤ 122 := by omega
       have s1 : (((F[j]'hjl).toNat : Int) - 32) % 256 = ((F[j]'hjl).toNat : Int) - 32 := by omega
       have s2 : IntKind.u8.wrap (((F[j]'hjl).toNat : Int) - 32) = ((F[j]'hjl).toNat : Int) - 32 := by
        show (((F[j]'hjl).toNat : Int) - 32) % 256 = _
        exact s1
       have s3 : (((F[j]'hjl) - 32).toNat : Int) = ((F[j]'hjl).toNat : Int) - 32 := by
        rw [UInt8.toNat_sub]
        have : (32 : UInt8).toNat = 32 := rfl
        omega
       obtain ⟨X, hX⟩ : ∃ X, X = nthName g p.1 := ⟨_, rfl⟩
       have hcv : (convert 22 9 (.slice (some ⟨wr.heap.size, 0, none⟩) 1 1)).run Tryz.prog (wr.alloc (.cells #[.int .u8 (((F[j]'hjl).toNat : Int) - 32)] 5)) = .ok (.string X) (wr.alloc (.cells #[.int .u8 (((F[j]'hjl).toNat : Int) - 32)] 5)) := by
        rw [hX, ← u3]
        exact run_convert_bytes_back (P := Tryz.prog) (wr.alloc (.cells #[.int .u8 (((F[j]'hjl).toNat : Int) - 32)] 5)) 22 9 5 ⟨wr.heap.size, 0, none⟩ 1 [(F[j]'hjl) - 32] Tryz.underlying22 Tryz.underlying5 Tryz.underlying9 (fun k hk => by
         have hk0 : k = 0 := by simpa using hk
         subst hk0
         have := (Blk.new wr 5 #[.int .u8 (((F[j]'hjl).toNat : Int) - 32)]).cell 0
         rw [List.getElem_cons_zero, s3]
         exact this)
       have ba := (Below.refl wr.heap.size wr).alloc (Nat.le_refl _) (.cells #[.int .u8 (((F[j]'hjl).toNat : Int) - 32)] 5)
       have HG2' := Lib.hid (HG.out.below ba)
       have HB2' := Lib.hid (below_trans_self HB.out ba)
       have q3 : (X.toList == s.toList) = false := by rw [hX]; exact HNM.out _ u5 u4
       have HDQ := Lib.hid (fun W (h : Gr W A1 g) => (by have := HDM.out W h p.1 u6; rw [← hX] at this; exact this : Calls Tryz.prog 42 #[.slice A1 g.length c1, .string X, .string s] W fun e w' => e = .returned (.bool true) ∧ Below W.heap.size W w'))
       have tB := Lib.hid (fun W => (by have := sjHas_any hs X W (by omega); rw [hX, u7, ← hX] at this; exact this : Calls Tryz.prog 19 #[.string hs, .string X] W fun e w' => e = .returned (.bool true) ∧ W = w'))
       clear e3 e4 e5 hp u3 u4 u5 u6 u7 s3 ba hX u1 u2
       go_wp2_with fail
       refine (HDQ.out _ HG2'.out).mono ?_
       rintro e v1 ⟨rfl, d1⟩
       have HGa := Lib.hid (HG2'.out.below d1)
       have HBa := Lib.hid (below_trans_self HB2'.out d1)
       clear d1
       go_wp2_with fail
       refine (tB.out v1).mono ?_
       rintro e w' ⟨rfl, rfl⟩
       go_wp2_with fail
       go_roundw
       case rel => exact ⟨y + 1, j + 1, by omega, by omega, by go_num, by go_num, HN.out, HGa.out, HBa.out⟩
       case measure => simp [intOf]; omega
     ·have hyx : y = x := by
       have : j = F.size := by omega
       rw [HY.out, this, HFE.out, ← HXE.out]
      have z1 : ((y : Int) == (x : Int)) = true := by rw [hyx]; simp
      have z2 : decide ((y : Int) = (x : Int)) = true := by rw [hyx]; simp
      go_wp2_with fail
      go_ret
      exact ⟨rfl, HB.out⟩
end Go.Proofs.YtlkfakdghjaoaaaGreatDoor
