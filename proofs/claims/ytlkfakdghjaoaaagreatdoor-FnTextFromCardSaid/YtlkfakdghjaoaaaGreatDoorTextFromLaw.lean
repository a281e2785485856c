import Derived.Test.YtlkfakdghjaoaaaGreatDoorJ8
import Derived.Test.YtlkfakdghjaoaaaGreatDoorJ3
import Derived.Test.YtlkfakdghjaoaaaGreatDoorJ12
import Derived.Test.YtlkfakdghjaoaaaGreatDoorMadeFacts
import Derived.Test.YtlkfakdghjaoaaaGreatDoorMadeFrom
import Derived.Test.YtlkfakdghjaoaaaGreatDoorMadeAt
import Derived.Test.YtlkfakdghjaoaaaGreatDoorJ11
namespace Go.Proofs.YtlkfakdghjaoaaaGreatDoor
open Go.RowKit Go.Sort
theorem occ_at {s p : List UInt8} {d : Int} (h : Occ s p d) : ∃ i, i + p.length ≤ s.length ∧ (tb s).extract i (i + p.length) = tb p ∧ dz (s.take i) = d := by
 obtain ⟨a, b, rfl, hd⟩ := h
 refine ⟨a.length, by simp, ?_, by rw [List.take_left]; exact hd⟩
 apply ba_ext
 rw [← Lib.toList_data, Lib.extract_toList, tb_data, tb_data]
 simp
theorem dz_next {s : List UInt8} {k : Nat} (h : k < s.length) : dz (s.take (k + 1)) = dz (s.take k) + brZ s[k] := by
 rw [List.take_succ_eq_append_getElem h, dz_app]
 show _ + (brZ s[k] + 0) = _
 omega
theorem dz_small {s : List UInt8} (k : Nat) : -(k : Int) ≤ dz (s.take k) ∧ dz (s.take k) ≤ k := by
 have h := dz_most (s.take k)
 have h2 := List.length_take_le k s
 omega
theorem byte_get {s : List UInt8} {k : Nat} (h : k < (tb s).size) : ∃ h2 : k < s.length, (tb s)[k] = s[k] := by
 have h2 : k < s.length := by rw [tb_size] at h; exact h
 refine ⟨h2, ?_⟩
 have := byte_at (tb s) k h
 rw [tb_data, List.getElem?_eq_getElem h2] at this
 exact (Option.some.inj this).symm
theorem has_letter {S : List UInt8} {c : UInt8} (h : c ∈ S) : hasB (tb S) (⟨#[c]⟩ : ByteArray) = true := by
 obtain ⟨i, hi, e⟩ := List.getElem_of_mem h
 refine hasB_yes (i := i) (by rw [tb_size]; exact hi) ?_
 apply ba_ext
 simp [tb]
 rw [List.drop_eq_getElem_cons hi, e]
 rfl
set_option maxRecDepth 100000 in
set_option maxHeartbeats 6400000 in
theorem textFrom_walk (A : Option Addr) (la ca : Nat) (w : World) (hA : Bytes w A la) (h1 : la ≤ ca) (h3 : ca ≤ 9223372036854775807) :
  Calls Tryz.prog 5 #[.slice A la ca] w fun e w' => e = .returned (.bool true) ∧ Below w.heap.size w w' := by
 by_cases g1 : (1048576 : Int) < la
 ·clear hA
  go_enter Tryz.func5, Tryz.ntmps5
  go_wp2_with fail
  go_ret
  exact ⟨rfl, Below.refl _ _⟩
 have HA := Lib.hid (drawTextFrom_any A la ca w hA h1 h3)
 clear hA
 go_enter Tryz.func5, Tryz.ntmps5
 go_wp2_with fail
 refine HA.out.mono ?_
 intro e w1 hd1
 obtain ⟨A1, c1, g, s, rfl, hc1, gg, hn1, hs2, b1⟩ := drawnPlace_of hd1
 have HB1 := Lib.hid b1
 have HG1 := Lib.hid gg
 clear hd1 b1 gg
 obtain ⟨pb, hpb⟩ : ∃ x, x = partB g s := ⟨_, rfl⟩
 obtain ⟨F, hF⟩ : ∃ x, x = framesV g s := ⟨_, rfl⟩
 obtain ⟨T, hT⟩ : ∃ x, x = fromV g s := ⟨_, rfl⟩
 obtain ⟨mv, hmv⟩ : ∃ x, x = madeV g := ⟨_, rfl⟩
 have HFI := Lib.hid (fun W (h : Gr W A1 g) => (hF ▸ hpb ▸ implFramesAt_any A1 c1 g s W h (by omega) (by omega) : Calls Tryz.prog 36 #[.slice A1 g.length c1, .string s] W fun e w' => e = .returned (.tuple #[.string F, .bool pb]) ∧ Below W.heap.size W w'))
 have HFS := Lib.hid (fun W (h : Gr W A1 g) => (hF ▸ hpb ▸ specFramesAt_any A1 c1 g s W h (by omega) hc1 : Calls Tryz.prog 37 #[.slice A1 g.length c1, .string s] W fun e w' => e = .returned (.tuple #[.string F, .bool pb]) ∧ Below W.heap.size W w'))
 have HTI := Lib.hid (fun W (h : Gr W A1 g) => (hT ▸ hpb ▸ implTextFrom_any A1 c1 g s W h (by omega) (by omega) : Calls Tryz.prog 34 #[.slice A1 g.length c1, .string s] W fun e w' => e = .returned (.tuple #[.string T, .bool pb]) ∧ Below W.heap.size W w'))
 have HTS := Lib.hid (fun W (h : Gr W A1 g) => (hT ▸ hpb ▸ specTextFrom_any A1 c1 g s W h (by omega) hc1 : Calls Tryz.prog 35 #[.slice A1 g.length c1, .string s] W fun e w' => e = .returned (.tuple #[.string T, .bool pb]) ∧ Below W.heap.size W w'))
 have HMI := Lib.hid (fun W (h : Gr W A1 g) => (hmv ▸ implMakeText_any A1 c1 g W h (by omega) : Calls Tryz.prog 12 #[.slice A1 g.length c1] W fun e w' => e = .returned (.tuple #[.string mv, .bool (madeB g)]) ∧ Below W.heap.size W w'))
 have q1 : (pb == pb) = true := by simp
 have q2 : (pb != pb) = false := by simp
 have q3 : (F.toList == F.toList) = true := by simp
 have q4 : (F.toList != F.toList) = false := by simp
 have q5 : (T.toList == T.toList) = true := by simp
 have q6 : (T.toList != T.toList) = false := by simp
 have HPB := Lib.hid hpb
 have HFV := Lib.hid hF
 have HTV := Lib.hid hT
 have HMV := Lib.hid hmv
 clear hpb hF hT hmv
 go_wp2_with fail
 refine (HTI.out w1 HG1.out).mono ?_
 rintro e w2 ⟨rfl, b2⟩
 have HG2 := Lib.hid (HG1.out.below b2)
 have HB2 := Lib.hid (below_trans_self HB1.out b2)
 clear b2
 go_wp2_with fail
 refine (HTS.out w2 HG2.out).mono ?_
 rintro e w3 ⟨rfl, b3⟩
 have HG3 := Lib.hid (HG2.out.below b3)
 have HB3 := Lib.hid (below_trans_self HB2.out b3)
 clear b3
 go_wp2_with fail
 refine (HFI.out w3 HG3.out).mono ?_
 rintro e w4 ⟨rfl, b4⟩
 have HG4 := Lib.hid (HG3.out.below b4)
 have HB4 := Lib.hid (below_trans_self HB3.out b4)
 clear b4
 go_wp2_with fail
 refine (HFS.out w4 HG4.out).mono ?_
 rintro e w5 ⟨rfl, b5⟩
 have HG5 := Lib.hid (HG4.out.below b5)
 have HB5 := Lib.hid (below_trans_self HB4.out b5)
 clear b5
 cases pb with
 | false =>
  go_wp2_with fail
  go_ret
  exact ⟨rfl, HB5.out⟩
 | true =>
  obtain ⟨n, fr, hb, hr, hsn, hFe, hTe, hAe, _, _, _⟩ := part_yes HPB.out.symm
  have ht := madeB_tame hb
  have hv := (tameB_iff.1 ht).1
  have hnl := hr.lt hv
  obtain ⟨hocc, hlet⟩ := made_lies hb hr
  obtain ⟨i0, hi0, hx0, hd0⟩ := occ_at hocc
  obtain ⟨L, hL⟩ : ∃ L, L = madeT g := ⟨_, rfl⟩
  rw [← hL] at hi0 hx0 hd0
  have hmt : mv = tb L := by rw [HMV.out, hL]; unfold madeV; rw [if_pos hb]
  have hsm : mv.size ≤ 416 := by rw [HMV.out]; exact madeV_small g
  have hmz : mv.size = L.length := by rw [hmt, tb_size]
  have hTz : T.size = (madeP g n).length := by rw [HTV.out, hTe, tb_size]
  have hFz : F.size = (madeA g n).length := by rw [HFV.out, hFe, hAe, tb_size]
  have hTT : T.size ≤ mv.size := by omega
  have hF52 : F.size ≤ 416 := by
   have := dz_small (s := L) i0
   have h5 : ((madeA g n).length : Int) ≤ i0 := by rw [← hd0]; exact this.2
   omega
  have HI0 := Lib.hid (show i0 + T.size ≤ mv.size by rw [hTz, hmz]; exact hi0)
  have HX0 := Lib.hid (show mv.extract i0 (i0 + T.size) = T by rw [hmt, hTz, hx0, HTV.out, hTe])
  have HD0 := Lib.hid (show dz (L.take i0) = (F.size : Int) by rw [hFz]; exact hd0)
  have HHAS := Lib.hid (show hasB T s = true by rw [HTV.out, hTe, hsn]; exact has_letter hlet)
  have HMT := Lib.hid hmt
  have hpos := (valid_iff.1 hv).1
  obtain ⟨nm, hnm⟩ : ∃ nm, nm = nthName g 0 := ⟨_, rfl⟩
  have HE0 := Lib.hid (show (s.toList == nm.toList) = true → (T.toList == mv.toList) = true ∧ F.toList = [] from fun h => by
   have h2 := beq_toList.1 h
   rw [hnm, hsn, nmS_name hv hpos] at h2
   have h3 : n = 0 := by
    unfold nmS at h2
    injection h2 with h2
    have h4 : letC g n = letC g 0 := by simpa using h2
    exact letC_inj hv hnl hpos h4
   subst h3
   obtain ⟨k1, k2⟩ := made_entry ht
   refine ⟨beq_toList.2 ?_, ?_⟩
   ·rw [HTV.out, hTe, k1, hmt, hL]
   ·rw [HFV.out, hFe, ← hAe, k2, Lib.toList_data, tb_data])
  have HNM := Lib.hid (show ∀ W, Gr W A1 g → ∃ b off, A1 = some ⟨b, off, none⟩ ∧ b < W.heap.size ∧ W.cell? ⟨b, off, none⟩ = some (.string nm) ∧ ∃ t, W.cell? ⟨b, off + 1, none⟩ = some (.string t) from fun W h => by
   obtain ⟨b, off, e, hb', hc⟩ := h (by omega)
   have := hc 0 (by omega)
   rw [Nat.zero_mul, Nat.add_zero] at this
   exact ⟨b, off, e, hb', by rw [hnm, nthName_at hpos]; exact this.1, _, this.2⟩)
  clear hb hr hsn hFe hTe hAe ht hv hnl hocc hlet hi0 hx0 hd0 hL hmt hTz hFz hnm
  go_wp2_with fail
  refine (HMI.out w5 HG5.out).mono ?_
  rintro e w6 ⟨rfl, b6⟩
  have HG6 := Lib.hid (HG5.out.below b6)
  have HB6 := Lib.hid (below_trans_self HB5.out b6)
  clear b6
  have HBY := Lib.hid (show ∀ k (hk : k < mv.size), dz (L.take (k + 1)) = dz (L.take k) + brZ (mv[k]'hk) from fun k hk => by
   have hm := HMT.out
   subst hm
   obtain ⟨h2, e⟩ := byte_get hk
   rw [dz_next h2]
   exact congrArg (fun x => dz (L.take k) + brZ x) e.symm)
  have tB := Lib.hid (by have := sjHas_any T s w6 (by omega); rw [HHAS.out] at this; exact this : Calls Tryz.prog 19 #[.string T, .string s] w6 fun e w' => e = .returned (.bool true) ∧ w6 = w')
  go_wp2_with fail
  go_loop [15, 16] (fun bv iv => ∃ (i : Nat) (b : Bool), i ≤ mv.size + 1 ∧ iv = .int .i64 i ∧ bv = .bool b ∧ Hid (i0 < i → b = true)) (fun _ iv => mv.size + 1 - (intOf iv).toNat)
  case atStart => exact ⟨0, false, Nat.zero_le _, rfl, rfl, fun h => absurd h (by omega)⟩
  case round =>
   obtain ⟨i, b, hi, rfl, rfl, HBK⟩ := hrel
   have s0 : IntKind.i64.wrap ((i : Int) + T.size) = (i : Int) + T.size := IntWalk.i64_in _ (by omega)
   by_cases hlt : i + T.size ≤ mv.size
   ·have hltI : (i : Int) + T.size ≤ mv.size := by omega
    have hi0 : (i : Int) ≤ (i : Int) + T.size := by omega
    have d1 : ((i : Int) + T.size).toNat = i + T.size := by omega
    by_cases hm : ((mv.extract i (i + T.size)).toList == T.toList) = true
    ·clear d1
     have d1 : ((i : Int) + T.size).toNat = i + T.size := by omega
     go_wp2_with fail
     refine tB.out.mono ?_
     rintro e w' ⟨rfl, rfl⟩
     clear hm
     go_wp2_with fail
     go_loop [17, 131] (fun ov kv => ∃ (k : Nat) (z : Int), k ≤ i ∧ -(k : Int) ≤ z ∧ z ≤ k ∧ kv = .int .i64 k ∧ ov = .int .i64 z ∧ Hid (z = dz (L.take k))) (fun _ kv => i - (intOf kv).toNat)
     case atStart => exact ⟨0, 0, Nat.zero_le _, by omega, by omega, rfl, rfl, (rfl : (0 : Int) = dz (L.take 0))⟩
     case round =>
      obtain ⟨k, z, hk, hz1, hz2, rfl, rfl, HZ⟩ := hrel
      by_cases hki : k < i
      ·have hkm : k < mv.size := by omega
       have HC := Lib.hid (HBY.out k hkm)
       obtain ⟨c, hcd⟩ : ∃ c, c = (mv[k]'hkm) := ⟨_, rfl⟩
       rw [← hcd] at HC
       have hk1 : k + 1 ≤ i := by omega
       by_cases c1 : c = 40 ∨ c = 123
       ·have HN := Lib.hid (show z + 1 = dz (L.take (k + 1)) by rw [HC.out, ← HZ.out]; unfold brZ; rw [if_pos c1])
        have s1 : IntKind.i64.wrap (z + 1) = z + 1 := IntWalk.i64_in _ (by omega)
        rcases c1 with c1 | c1
        ·have y1 : (((mv[k]'hkm).toNat : Int) == 40) = true := by rw [← hcd, c1]; rfl
         clear hcd c1
         go_wp2_with fail
         go_round
         case rel => exact ⟨k + 1, z + 1, by omega, by omega, by omega, by go_num, rfl, HN.out⟩
         case measure => simp [intOf]; omega
        ·have y1 : (((mv[k]'hkm).toNat : Int) == 40) = false := by rw [← hcd, c1]; rfl
         have y2 : (((mv[k]'hkm).toNat : Int) == 123) = true := by rw [← hcd, c1]; rfl
         clear hcd c1
         go_wp2_with fail
         go_round
         case rel => exact ⟨k + 1, z + 1, by omega, by omega, by omega, by go_num, rfl, HN.out⟩
         case measure => simp [intOf]; omega
       ·have c1' := c1
        rw [not_or] at c1
        have y1 : (((mv[k]'hkm).toNat : Int) == 40) = false := by rw [← hcd]; exact byte_ne (b := 40) c1.1
        have y2 : (((mv[k]'hkm).toNat : Int) == 123) = false := by rw [← hcd]; exact byte_ne (b := 123) c1.2
        by_cases c2 : c = 41 ∨ c = 125
        ·have HN := Lib.hid (show z - 1 = dz (L.take (k + 1)) by rw [HC.out, ← HZ.out]; unfold brZ; rw [if_neg c1', if_pos c2]; omega)
         have s1 : IntKind.i64.wrap (z - 1) = z - 1 := IntWalk.i64_in _ (by omega)
         rcases c2 with c2 | c2
         ·have y3 : (((mv[k]'hkm).toNat : Int) == 41) = true := by rw [← hcd, c2]; rfl
          clear hcd c1 c1' c2
          go_wp2_with fail
          go_round
          case rel => exact ⟨k + 1, z - 1, by omega, by omega, by omega, by go_num, rfl, HN.out⟩
          case measure => simp [intOf]; omega
         ·have y3 : (((mv[k]'hkm).toNat : Int) == 41) = false := by rw [← hcd, c2]; rfl
          have y4 : (((mv[k]'hkm).toNat : Int) == 125) = true := by rw [← hcd, c2]; rfl
          clear hcd c1 c1' c2
          go_wp2_with fail
          go_round
          case rel => exact ⟨k + 1, z - 1, by omega, by omega, by omega, by go_num, rfl, HN.out⟩
          case measure => simp [intOf]; omega
        ·have HN := Lib.hid (show z = dz (L.take (k + 1)) by rw [HC.out, ← HZ.out]; unfold brZ; rw [if_neg c1', if_neg c2]; omega)
         rw [not_or] at c2
         have y3 : (((mv[k]'hkm).toNat : Int) == 41) = false := by rw [← hcd]; exact byte_ne (b := 41) c2.1
         have y4 : (((mv[k]'hkm).toNat : Int) == 125) = false := by rw [← hcd]; exact byte_ne (b := 125) c2.2
         clear hcd c1 c1' c2
         go_wp2_with fail
         go_round
         case rel => exact ⟨k + 1, z, by omega, by omega, by omega, by go_num, rfl, HN.out⟩
         case measure => simp [intOf]; omega
      ·have hke : k = i := by omega
       subst hke
       cases b with
       | true =>
        go_wp2_with fail
        go_round
        case rel => exact ⟨k + 1, true, by omega, by go_num, rfl, fun _ => rfl⟩
        case measure => simp [intOf]; omega
       | false =>
        by_cases hzF : z = (F.size : Int)
        ·have y1 : (z == (F.size : Int)) = true := by rw [hzF]; simp
         have y2 : decide (z = (F.size : Int)) = true := decide_eq_true hzF
         clear hzF
         go_wp2_with fail
         go_round
         case rel => exact ⟨k + 1, true, by omega, by go_num, rfl, fun _ => rfl⟩
         case measure => simp [intOf]; omega
        ·have y1 : (z == (F.size : Int)) = false := beq_eq_false_iff_ne.2 hzF
         have y2 : decide (z = (F.size : Int)) = false := decide_eq_false hzF
         have HK := Lib.hid (show ¬ i0 < k + 1 from fun h => by
          rcases Nat.lt_succ_iff_lt_or_eq.1 h with h | h
          ·have h2 : false = true := HBK.out h
           cases h2
          ·subst h
           exact hzF (by rw [HZ.out, HD0.out]))
         clear hzF
         go_wp2_with fail
         go_round
         case rel => exact ⟨k + 1, false, by omega, by go_num, rfl, fun h => absurd h HK.out⟩
         case measure => simp [intOf]; omega
    ·have hm : ((mv.extract i (i + T.size)).toList == T.toList) = false := by simpa using hm
     have HK := Lib.hid (show i0 < i + 1 → b = true from fun h => by
      rcases Nat.lt_succ_iff_lt_or_eq.1 h with h | h
      ·exact HBK.out h
      ·subst h
       rw [HX0.out] at hm
       simp at hm)
     go_wp2_with fail
     go_round
     case rel => exact ⟨i + 1, b, by omega, by go_num, rfl, HK.out⟩
     case measure => simp [intOf]; omega
   ·have hltI : ¬ (i : Int) + T.size ≤ mv.size := by omega
    obtain rfl : b = true := HBK.out (by have := HI0.out; omega)
    obtain ⟨ab, off, rfl, hab, c0, t0, c1⟩ := HNM.out w6 HG6.out
    by_cases hs : (s.toList == nm.toList) = true
    ·obtain ⟨y1, y2⟩ := HE0.out hs
     have y3 : (s.toList != nm.toList) = false := by
      show (!(s.toList == nm.toList)) = false
      rw [hs]; rfl
     go_wp2_with fail
     go_ret
     exact ⟨rfl, HB6.out⟩
    ·have hs : (s.toList == nm.toList) = false := by simpa using hs
     have y3 : (s.toList != nm.toList) = true := by
      show (!(s.toList == nm.toList)) = true
      rw [hs]; rfl
     go_wp2_with fail
     go_ret
     exact ⟨rfl, HB6.out⟩
end Go.Proofs.YtlkfakdghjaoaaaGreatDoor
