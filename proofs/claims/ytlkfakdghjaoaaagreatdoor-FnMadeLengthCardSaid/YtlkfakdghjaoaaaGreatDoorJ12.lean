import Derived.Test.YtlkfakdghjaoaaaGreatDoorDraws
import Derived.Test.YtlkfakdghjaoaaaGreatDoorSpecBack
import Derived.Test.YtlkfakdghjaoaaaGreatDoorJ11
import Derived.Test.YtlkfakdghjaoaaaGreatDoorJ9
import Derived.Test.YtlkfakdghjaoaaaGreatDoorJ2
import Derived.Laws.BytesArg
namespace Go.Proofs.YtlkfakdghjaoaaaGreatDoor
open Go.RowKit Go.Sort
theorem num5b (R : Nat) (A : Option Addr) (len cap p : Nat) (w : World) (h : Rd w R A len cap p) (hp : p ≤ 1048576) :
  Calls Tryz.prog 92 #[.pointer (some ⟨R, 0, none⟩), .slice (some ⟨w.heap.size, 0, none⟩) 5 5] (w.alloc (.cells #[.int .i64 0, .int .i64 1, .int .i64 5, .int .i64 6, .int .i64 8] 3)) fun e w' => ∃ k : Nat, e = .returned (.int .i64 k) ∧ k < 11 ∧ Only R w w' ∧ Rd w' R A len cap (p + 1) := by
 refine (num2 R A len cap p [0, 1, 5, 6, 8] w h (by decide) (by decide) hp).mono ?_
 rintro e w' ⟨z, rfl, hz, o, r⟩
 simp only [List.mem_cons, List.not_mem_nil, or_false] at hz
 exact ⟨z.toNat, ret_int (by omega), by omega, o, r⟩
set_option maxHeartbeats 3200000 in
set_option maxRecDepth 100000 in
theorem l7Good_any (R : Nat) (A : Option Addr) (len cap p : Nat) (w : World) (hr : Rd w R A len cap p) (hp : p ≤ 1000) :
  Calls Tryz.prog 50 #[.pointer (some ⟨R, 0, none⟩)] w (GoodPost 40 105 R A len cap p w) := by
 have hRlt := hr.blk.lt
 have HR := Lib.hid hr
 clear hr
 go_enter Tryz.func50, Tryz.ntmps50
 go_wp2_with fail
 refine (some_any R A len cap p w HR.out hp).mono ?_
 rintro e w1 ⟨v, g, q, rfl, hown, hg, ho1, r1, hq⟩
 have HOWN := Lib.hid hown
 have HO1 := Lib.hid ho1
 have HR1 := Lib.hid r1
 obtain ⟨A1, c1, rfl, hc1, hgr⟩ := own_gr hown
 have HG := Lib.hid hgr
 clear hown ho1 r1 hgr
 go_wp2_with fail
 refine (specIsTame_any A1 c1 g w1 HG.out (by omega) hc1).mono ?_
 rintro e w2 ⟨rfl, b2⟩
 have HOWN2 := Lib.hid (ownRow_below HOWN.out b2)
 have HO2 := Lib.hid (HO1.out.trans (.of_below b2))
 have HR2 := Lib.hid (HR1.out.below b2)
 clear b2
 cases ht : tameB g with
 | true =>
  clear ht
  go_wp2_with fail
  exact bodyPost_ret (v := .slice A1 g.length c1) (by simp [results, Tryz.results50, go_sem]) rfl ⟨_, g, q, rfl, HOWN2.out, hg, HO2.out, HR2.out, by omega⟩
 | false =>
  clear ht
  go_wp2_with fail
  refine (pick2 R A len cap q 3 w2 HR2.out (by omega) (by omega) (by omega)).mono ?_
  rintro e w3 ⟨x, rfl, hx, o3, r3⟩
  have HOWN3 := Lib.hid (ownRow_only HOWN2.out hRlt o3)
  have HO3 := Lib.hid (HO2.out.trans o3)
  have HR3 := Lib.hid r3
  clear o3 r3
  by_cases h0 : (0 : Int) < (x : Int)
  ·have HN := Lib.hid (num5b R A len cap (q + 1) w3 HR3.out (by omega))
   go_wp2_with fail
   refine HN.out.mono ?_
   rintro e w4 ⟨k, rfl, hk, o4, r4⟩
   have HO4 := Lib.hid (HO3.out.trans o4)
   have HR4 := Lib.hid r4
   clear o4 r4
   go_wp2_with fail
   refine (known_any k w4 hk).mono ?_
   rintro e w5 ⟨v5, g5, rfl, hv5, hs5, b5⟩
   have HV := Lib.hid (ownRow_base hv5 HO4.out.size)
   have HO5 := Lib.hid (HO4.out.trans (.of_below b5))
   have HR5 := Lib.hid (HR4.out.below b5)
   clear hv5 b5
   go_wp2_with fail
   exact bodyPost_ret (v := v5) (by simp [results, Tryz.results50, go_sem]) rfl ⟨v5, g5, q + 2, rfl, HV.out, by omega, HO5.out, HR5.out, by omega⟩
  ·go_wp2_with fail
   exact bodyPost_ret (v := .slice A1 g.length c1) (by simp [results, Tryz.results50, go_sem]) rfl ⟨_, g, q + 1, rfl, HOWN3.out, hg, HO3.out, HR3.out, by omega⟩
set_option maxRecDepth 100000 in
theorem drawMakeLength_any (A : Option Addr) (len cap : Nat) (w : World) (hb : Bytes w A len) (hlc : len ≤ cap) (hl : cap ≤ 9223372036854775807) :
  Calls Tryz.prog 38 #[.slice A len cap] w (DrawPost 40 w) := by
 have HC := Lib.hid (open_any A len cap w hb hlc hl)
 clear hb
 go_enter Tryz.func38, Tryz.ntmps38
 go_wp2_with fail
 refine HC.out.mono ?_
 rintro e w1 ⟨A', len', cap', rfl, hrd, b1⟩
 have HR1 := Lib.hid hrd
 have HB := Lib.hid b1
 have hs1 := b1.size
 clear hrd b1
 go_wp2_with fail
 refine (l7Good_any w.heap.size A' len' cap' 0 w1 HR1.out (by omega)).mono ?_
 rintro e w2 ⟨v, g, q, rfl, hown, hg, ho, _, _⟩
 have HOWN := Lib.hid (ownRow_base hown hs1)
 have HB2 := Lib.hid (Only.below HB.out ho)
 clear hown ho
 go_wp2_with fail
 exact bodyPost_ret (v := v) (by simp [results, Tryz.results38, go_sem]) rfl ⟨v, g, rfl, HOWN.out, hg, HB2.out⟩
set_option maxRecDepth 100000 in
theorem drawFramesAt_any (A : Option Addr) (len cap : Nat) (w : World) (hb : Bytes w A len) (hlc : len ≤ cap) (hl : cap ≤ 9223372036854775807) :
  Calls Tryz.prog 40 #[.slice A len cap] w (DrawPlacePost 40 w) := by
 have HC := Lib.hid (open_any A len cap w hb hlc hl)
 clear hb
 go_enter Tryz.func40, Tryz.ntmps40
 go_wp2_with fail
 refine HC.out.mono ?_
 rintro e w1 ⟨A', len', cap', rfl, hrd, b1⟩
 have HR1 := Lib.hid hrd
 have HB := Lib.hid b1
 have hs1 := b1.size
 have hRlt := hrd.blk.lt
 clear hrd b1
 go_wp2_with fail
 refine (l7Good_any w.heap.size A' len' cap' 0 w1 HR1.out (by omega)).mono ?_
 rintro e w2 ⟨v, g, q, rfl, hown, hg, ho, r2, hq⟩
 have HOWN := Lib.hid hown
 have HB2 := Lib.hid (Only.below HB.out ho)
 have HR2 := Lib.hid r2
 clear hown ho r2
 go_wp2_with fail
 refine (any_any w.heap.size A' len' cap' q w2 HR2.out (by omega)).mono ?_
 rintro e w3 ⟨s, rfl, hs, ho3, _⟩
 have HOWN3 := Lib.hid (ownRow_base (ownRow_only HOWN.out hRlt ho3) hs1)
 have HB3 := Lib.hid (Only.below HB2.out ho3)
 clear ho3
 go_wp2_with fail
 exact bodyPost_ret (v := .tuple #[v, .string s]) (by simp [results, Tryz.results40, go_sem]) rfl ⟨v, g, s, rfl, HOWN3.out, hg, hs, HB3.out⟩
set_option maxRecDepth 100000 in
theorem drawTextFrom_any (A : Option Addr) (len cap : Nat) (w : World) (hb : Bytes w A len) (hlc : len ≤ cap) (hl : cap ≤ 9223372036854775807) :
  Calls Tryz.prog 33 #[.slice A len cap] w (DrawPlacePost 40 w) := by
 have HC := Lib.hid (drawFramesAt_any A len cap w hb hlc hl)
 clear hb
 go_enter Tryz.func33, Tryz.ntmps33
 go_wp2_with fail
 refine HC.out.mono ?_
 rintro e w1 ⟨v, g, s, rfl, hown, hg, hs, b1⟩
 have HOWN := Lib.hid hown
 have HB := Lib.hid b1
 clear hown b1
 go_wp2_with fail
 exact bodyPost_ret (v := .tuple #[v, .string s]) (by simp [results, Tryz.results33, go_sem]) rfl ⟨v, g, s, rfl, HOWN.out, hg, hs, HB.out⟩
end Go.Proofs.YtlkfakdghjaoaaaGreatDoor

namespace Go.Proofs.YtlkfakdghjaoaaaGreatDoor
open Go.RowKit Go.Sort Go.Shelf Go.Maps Go.WideMaps
attribute [local go_sem] Oper.semAt_some
set_option maxRecDepth 100000 in
set_option maxHeartbeats 4000000 in
theorem jumpsOf_own (K : Nat → Bool) (ks : List Nat) (kb : Nat) (hK : ∀ k, K k = decide (k ∈ ks)) (hkl : ks.length ≤ 8) (WB tb NB MB cap : Nat) (A : Option Addr) (g : List Bl) (B off tcap : Nat) (S : Nat → Nat) (w : World) (hv : validB g = true)
  (hO : OrdAt w WB tb NB MB A cap g B off tcap S) (hM : KMap w g MB 52 (fun i t => Rch g [] i ∧ t ∈ nxt g i)) (hks : KindsAt w kb ks) :
  Calls Tryz.prog 70 #[.pointer (some ⟨WB, 0, none⟩), .slice (some ⟨kb, 0, none⟩) ks.length ks.length] w fun e w' => ∃ v, e = .returned v ∧ OwnJ w' g w.heap.size v (jumpL g K) ∧ Below w.heap.size w w' := by
 have h26 := (valid_iff.1 hv).2.1
 have hwl := wayOrd_len hv
 have hws : (wayOrd g).length ≤ 26 := by omega
 obtain ⟨ip, hip, hz0, hz1, hz2⟩ := info_parts info_str
 have cW := hO.store.cell 1
 have HO := Lib.hid hO
 have HM := Lib.hid hM
 have HKS := Lib.hid hks
 have HV := Lib.hid hv
 have HKK := Lib.hid hK
 have HWL := Lib.hid (wayOrd_lt hv)
 clear hO hM hks hv hK hwl
 go_enter Tryz.func70, Tryz.ntmps70
 go_wp2_with fail
 go_loopw [5, 16] (fun pv iv wr => ∃ (k : Nat) (P : List (Nat × Nat)), k ≤ (wayOrd g).length ∧ iv = .int .i64 k ∧ P.length ≤ 2 * k ∧ Hid (P = ((wayOrd g).take k).flatMap (jumpsOf1 g K)) ∧ Hid (OwnJ wr g w.heap.size pv P) ∧ Hid (Below w.heap.size w wr)) (fun _ iv _ => (wayOrd g).length - (intOf iv).toNat)
 case atStart => exact ⟨0, [], Nat.zero_le _, rfl, by simp, (show ([] : List (Nat × Nat)) = ((wayOrd g).take 0).flatMap (jumpsOf1 g K) by simp), World.ownsRow_nil _ _ _ _, Below.refl _ _⟩
 case round =>
  obtain ⟨k, P, hk, rfl, hPl, HP, HOWN, HB⟩ := hrel
  have hsz0 := HB.out.size
  have HOB := Lib.hid (HO.out.below HB.out)
  have HMB := Lib.hid (HM.out.keep (HB.out.block MB HM.out.lt))
  have HKB := Lib.hid (HKS.out.below HB.out)
  by_cases hlt : k < (wayOrd g).length
  ·obtain ⟨b0, o0, rfl, c0⟩ := HOB.out.at_ hlt
   obtain ⟨x, hxe⟩ : ∃ x, x = (wayOrd g)[k] := ⟨_, rfl⟩
   rw [← hxe] at c0
   have hxl := HWL.out x (hxe ▸ List.getElem_mem hlt)
   obtain ⟨T, tv, F2, hd⟩ := disp2 (NB := NB) HV.out hxl
   have x2 : wr.cell? ⟨nb NB x, 2, none⟩ = some (.iface T tv) := by have := (HOB.out.tree.nodes x hxl).cell 2; rw [hd.val] at this; simpa using this
   have hlook := hd.look
   have hent := hd.enter
   have HDG := Lib.hid hd.goes
   have hn2 := nxt_two HV.out hxl
   have HXE := Lib.hid hxe
   have HXR := Lib.hid ((mem_wayOrd HV.out).1 (hxe ▸ List.getElem_mem hlt : x ∈ wayOrd g))
   clear hd hxe
   go_wp2_with fail
   refine (HDG.out wr).mono ?_
   rintro e w3 ⟨A3, rfl, b3, hrow⟩
   have HR := Lib.hid hrow
   have HOWN3 := Lib.hid (own_below HOWN.out b3)
   have HB3 := Lib.hid (HB.out.trans (b3.mono HB.out.size))
   clear hlook hent x2 hrow b3 c0 HOB HMB HKB
   go_wp2_with fail
   go_loopw [5, 26] (fun pv iv wr => ∃ (p : Nat) (P2 : List (Nat × Nat)), p ≤ (nxt g x).length ∧ iv = .int .i64 p ∧ P2.length ≤ 2 * k + p ∧ Hid (P2 = P ++ (((nxt g x).take p).filter fun t => K (kindN g x t)).map fun t => (x, t)) ∧ Hid (OwnJ wr g w.heap.size pv P2) ∧ Hid (Below w.heap.size w wr) ∧ Hid (NKeep w3 wr)) (fun _ iv _ => (nxt g x).length - (intOf iv).toNat)
   case atStart => exact ⟨0, P, Nat.zero_le _, rfl, by omega, (show P = P ++ (((nxt g x).take 0).filter fun t => K (kindN g x t)).map fun t => (x, t) by simp), HOWN3.out, HB3.out, NKeep.refl _⟩
   case round =>
    obtain ⟨p, P2, hp, rfl, hP2l, HP2, HOWN4, HB4, HB5⟩ := hrel
    have hsz4 := HB4.out.size
    by_cases hpl : p < (nxt g x).length
    ·obtain ⟨bb, rfl, hbb, hrowb⟩ := HR.out (by omega)
     obtain ⟨t, hte⟩ : ∃ t, t = (nxt g x)[p] := ⟨_, rfl⟩
     have htm : t ∈ nxt g x := hte ▸ List.getElem_mem hpl
     have htl := nxt_lt HV.out hxl htm
     have ct : wr.cell? ⟨bb, p, none⟩ = some (nptr NB t) := (by rw [(HB5.out.2 bb _ hrowb).cell, List.getElem?_toArray, List.getElem?_map, List.getElem?_eq_getElem hpl, hte]; rfl)
     have hOR := HO.out.below HB4.out
     have hMR := HM.out.keep (HB4.out.block MB HM.out.lt)
     have hKR := HKS.out.below HB4.out
     have HJ := Lib.hid (jumpBetween_any NB g x t wr HV.out hOR.tree.nodes hxl htl)
     have HOR := Lib.hid hOR
     have HMR := Lib.hid hMR
     have HKR := Lib.hid hKR
     have HTM := Lib.hid htm
     have HTE := Lib.hid hte
     clear hOR hMR hKR htm hte hrowb
     go_wp2_with fail
     refine HJ.out.mono ?_
     rintro e w6 ⟨rfl, b6⟩
     have HB6 := Lib.hid b6
     clear b6
     go_wp2_with fail
     obtain ⟨w7, hw7⟩ : ∃ w7, w7 = w6.alloc (.cells #[.int .u8 (letC g x).toNat, .int .u8 (letC g t).toNat] 176) := ⟨_, rfl⟩
     rw [← hw7]
     have b7 : Below w6.heap.size w6 w7 := by rw [hw7]; exact (Below.refl _ _).alloc (Nat.le_refl _) _
     have s7 : w7.heap.size = w6.heap.size + 1 := by rw [hw7]; simp
     have kJ : Blk w7 w6.heap.size 176 #[.int .u8 (letC g x).toNat, .int .u8 (letC g t).toNat] := by rw [hw7]; exact Blk.new w6 _ _
     have b67 : Below wr.heap.size wr w7 := HB6.out.trans (b7.mono HB6.out.size)
     have j0 : w7.cell? ⟨w6.heap.size, 0, none⟩ = some (.int .u8 (letC g x).toNat) := kJ.cell 0
     have j1 : w7.cell? ⟨w6.heap.size, 1, none⟩ = some (.int .u8 (letC g t).toNat) := kJ.cell 1
     have c9 : w7.cell? ⟨WB, 2, none⟩ = some (.map (some MB)) := (HOR.out.below b67).store.cell 2
     have hM7 := HMR.out.keep (b67.block MB HMR.out.lt)
     have hlk := fun n => (hM7.keep ((below_drewN w7 n).block MB hM7.lt)).look hxl htl ⟨HXR.out, HTM.out⟩
     have tC := fun n => Calls.quiet_of_same ((containsKind_any kb ks (kindN g x t) (w7.drewN n) ((HKR.out.below b67).below (below_drewN w7 n)) hkl).mono fun _ _ ⟨p, q⟩ => ⟨p, q.symm⟩)
     have hcv : ∀ n, (convert 22 9 (.slice (some ⟨w6.heap.size, 0, none⟩) 2 2)).run Tryz.prog (w7.drewN n) = .ok (.string (jt g (x, t))) (w7.drewN n) := fun n => by
      have := run_convert_bytes_arg (P := Tryz.prog) (w := w7.drewN n) 22 5 Tryz.underlying22 Tryz.underlying5 w6.heap.size 0 2 2 [((letC g x).toNat : Int), ((letC g t).toNat : Int)] rfl (fun i hi => by
       match i, hi with
       | 0, _ => exact j0
       | 1, _ => exact j1) 9 Tryz.underlying9
      rw [two_bytes] at this
      exact this
     have HOWN7 := Lib.hid (own_below HOWN4.out b67)
     have HB7 := Lib.hid (HB4.out.trans (b67.mono HB4.out.size))
     have HB57 := Lib.hid (HB5.out.trans (NKeep.of_below b67))
     have HKZ := Lib.hid (show (nxt g x).take (p + 1) = (nxt g x).take p ++ [t] by rw [List.take_succ_eq_append_getElem hpl, ← HTE.out])
     clear hw7 b7 b67 kJ hM7
     obtain ⟨z, hz⟩ : ∃ z, z = kindN g x t := ⟨_, rfl⟩
     rw [← hz] at hlk tC
     have HZ := Lib.hid (show K (kindN g x t) = decide (z ∈ ks) by rw [HKK.out, ← hz])
     clear hz
     by_cases hq : z ∈ ks
     ·rw [decide_eq_true hq] at tC
      have HP3 := Lib.hid (show P2 ++ [(x, t)] = P ++ (((nxt g x).take (p + 1)).filter fun t => K (kindN g x t)).map fun t => (x, t) by
       rw [HKZ.out, List.filter_append, List.map_append, ← List.append_assoc, ← HP2.out]
       congr 1
       rw [List.filter_cons, HZ.out, decide_eq_true hq]; rfl)
      clear hq
      go_quiet (with_reducible exact tC _)
      have HO8 := Lib.hid (own_below HOWN7.out (below_drewN w7 nq))
      have HB8 := Lib.hid (HB7.out.trans ((below_drewN w7 nq).mono HB7.out.size))
      have HB58 := Lib.hid (HB57.out.trans (NKeep.of_below (below_drewN w7 nq)))
      have hcv8 := hcv nq
      have r0 : (w7.drewN nq).cell? ⟨w6.heap.size, 0, none⟩ = some (.int .u8 (letC g x).toNat) := j0
      obtain ⟨w8, hw8⟩ : ∃ w8, w8 = w7.drewN nq := ⟨_, rfl⟩
      rw [← hw8] at HO8 HB8 HB58 hcv8 r0 ⊢
      have hszq := HB8.out.size
      obtain ⟨txt, htx⟩ : ∃ txt, txt = jt g (x, t) := ⟨_, rfl⟩
      rw [← htx] at hcv8
      have HTX := Lib.hid htx
      clear hw8 htx hcv tC hlk j0 j1 c9 HOWN7 HB7 HB57
      go_wp2_with (at_builtin; refine wpList_append_own _ rfl _ _ 37 rfl w.heap.size 9 ip (.string ⟨#[]⟩) 1 16 Tryz.underlying37 hip hz0 hz1 hz2 rfl (by decide) _ _ _ rfl (HO8.out.alloc _) ⟨w8.heap.size, 0, none⟩ 1 1 [.string txt] rfl rfl ?c1 ?c2 ?c3 ?c4 ?c5 ?_)
      case c1 =>
       intro j u hj
       match j, hj with
       | 0, hj =>
        have hu : Value.string txt = u := by simpa using hj
        rw [← hu]
        simp [Addr.add]
      case c2 => intro u hu; have hu' : u = .string txt := by simpa using hu
                 subst hu'; rfl
      case c3 => have hlm : (P2.map (jt g)).length = P2.length := List.length_map _; unfold maxLen; omega
      case c4 => have hlm : (P2.map (jt g)).length = P2.length := List.length_map _; omega
      case c5 => simp; omega
      intro v' w9 hown' hgrow _
      have hsz := (HO8.out.alloc (.cells #[.string txt] 9)).lt
      have hB9 := (HB8.out.alloc hszq (.cells #[.string txt] 9)).grown hgrow (by simp; omega) (fun j hj => (hsz j hj).1)
      have HB59 := Lib.hid (HB58.out.trans ((NKeep.of_below ((Below.refl _ w8).alloc (Nat.le_refl _) (.cells #[.string txt] 9))).trans (NKeep.grown (HO8.out.alloc (.cells #[.string txt] 9)) (by decide) hgrow)))
      have HO9 : Hid (OwnJ w9 g w.heap.size v' (P2 ++ [(x, t)])) := by
       show w9.ownsRow w.heap.size 9 1 v' ((P2 ++ [(x, t)]).map (jt g)).length (((P2 ++ [(x, t)]).map (jt g)).map Value.string)
       rw [List.map_append, List.length_append, List.length_map, List.map_append, List.map_map, List.map_singleton, ← HTX.out]; exact hown'
      have HB9 := Lib.hid hB9
      clear hown' hsz hgrow hB9
      go_wp2_with fail
      go_roundw
      case rel => exact ⟨p + 1, P2 ++ [(x, t)], by omega, by go_num, by simp; omega, HP3.out, HO9.out, HB9.out, HB59.out⟩
      case measure => simp [intOf]; omega
     ·rw [decide_eq_false hq] at tC
      have HP3 := Lib.hid (show P2 = P ++ (((nxt g x).take (p + 1)).filter fun t => K (kindN g x t)).map fun t => (x, t) by
       rw [HKZ.out, List.filter_append, List.map_append, ← List.append_assoc, ← HP2.out, List.filter_cons, HZ.out, decide_eq_false hq]
       simp)
      clear hq
      go_quiet (with_reducible exact tC _)
      have HO8 := Lib.hid (own_below HOWN7.out (below_drewN w7 nq))
      have HB8 := Lib.hid (HB7.out.trans ((below_drewN w7 nq).mono HB7.out.size))
      have HB58 := Lib.hid (HB57.out.trans (NKeep.of_below (below_drewN w7 nq)))
      clear hcv tC hlk j0 j1 c9 HOWN7 HB7 HB57
      go_wp2_with fail
      go_roundw
      case rel => exact ⟨p + 1, P2, by omega, by go_num, by omega, HP3.out, HO8.out, HB8.out, HB58.out⟩
      case measure => simp [intOf]; omega
    ·have HE := Lib.hid (show P2 = ((wayOrd g).take (k + 1)).flatMap (jumpsOf1 g K) by
      rw [HP2.out, jumps_round hlt HXE.out, List.take_of_length_le (by omega), HP.out]; rfl)
     go_wp2_with fail
     go_roundw
     case rel => exact ⟨k + 1, P2, by omega, by go_num, by omega, HE.out, HOWN4.out, HB4.out⟩
     case measure => simp [intOf]; omega
  ·have HE := Lib.hid (show P = jumpL g K by rw [HP.out, List.take_of_length_le (by omega)]; rfl)
   go_wp2_with fail
   go_ret
   exact ⟨_, rfl, by rw [← HE.out]; exact HOWN.out, HB.out⟩
end Go.Proofs.YtlkfakdghjaoaaaGreatDoor
namespace Go.Proofs.YtlkfakdghjaoaaaGreatDoor
open Go.RowKit Go.Sort Go.Shelf Go.Maps Go.WideMaps
attribute [local go_sem] Oper.semAt_some
theorem joinIdx_any (A : Option Addr) (NB cap : Nat) (g : List Bl) (L : List Nat) (w : World) (hv : validB g = true) (hP : PtsI w A NB L) (hN : NodesIn w NB g) (hL : ∀ i ∈ L, i < g.length) (hl : L.length ≤ 26) :
  Calls Tryz.prog 60 #[.slice A L.length cap] w fun e w' => e = .returned (.string (namesAt g L)) ∧ Below w.heap.size w w' := by
 have hj := join_any A cap (nodesAt NB g L) w (pts_of_idx hP hN hL) (by rw [nodesAt_length]; omega) (by rw [joined_nodesAt, namesAt_size hv _ hL]; omega)
 rw [nodesAt_length, joined_nodesAt] at hj
 exact hj
def orderV (g : List Bl) : ByteArray := if validB g = true then namesAt g (wayOrd g) else ⟨#[]⟩
theorem implOrder_any (A : Option Addr) (cap : Nat) (g : List Bl) (w : World) (hg : Gr w A g) (hn : g.length + tot g ≤ 1048576) :
  Calls Tryz.prog 30 #[.slice A g.length cap] w fun e w' => e = .returned (.tuple #[.string (orderV g), .bool (validB g)]) ∧ Below w.heap.size w w' := by
 unfold orderV
 by_cases hv : validB g = true
 ·rw [if_pos hv, hv]
  have HC := Lib.hid (wayOrderOf_yes A cap g w hg hn hv)
  have HV := Lib.hid hv
  have h26 := (valid_iff.1 hv).2.1
  have hwl := wayOrd_len hv
  clear hg hv
  go_enter Tryz.func30, Tryz.ntmps30
  go_wp2_with fail
  refine HC.out.mono ?_
  rintro e w1 ⟨WB, tb, NB, MB, A2, cap2, B, off, tcap, S, _, rfl, hO, hM, b1⟩
  have cW := hO.store.cell 1
  have HJ := Lib.hid (joinIdx_any A2 NB cap2 g (wayOrd g) w1 HV.out hO.row hO.tree.nodes (wayOrd_lt HV.out) (by omega))
  have HB1 := Lib.hid b1
  clear hO hM b1
  go_wp2_with fail
  refine HJ.out.mono ?_
  rintro e w2 ⟨rfl, b2⟩
  have HB2 := Lib.hid (HB1.out.trans (b2.mono HB1.out.size))
  clear b2
  go_wp2_with fail
  go_ret2
  exact ⟨rfl, HB2.out⟩
 ·have hv : validB g = false := by simpa using hv
  rw [if_neg (by rw [hv]; simp), hv]
  have HC := Lib.hid (wayOrderOf_no A cap g w hg hn hv)
  clear hg hv
  go_enter Tryz.func30, Tryz.ntmps30
  go_wp2_with fail
  refine HC.out.mono ?_
  rintro e w1 ⟨WB, tb, mv, rfl, hW, _, b1⟩
  have cW := hW.cell 1
  have HJ := Lib.hid (join_any none 0 [] w1 (fun h => absurd h (by simp)) (Nat.zero_le _) (Nat.zero_le _))
  have HB1 := Lib.hid b1
  clear hW b1
  go_wp2_with fail
  refine HJ.out.mono ?_
  rintro e w2 ⟨rfl, b2⟩
  have HB2 := Lib.hid (HB1.out.trans (b2.mono HB1.out.size))
  clear b2
  go_wp2_with fail
  go_ret2
  exact ⟨rfl, HB2.out⟩
end Go.Proofs.YtlkfakdghjaoaaaGreatDoor
namespace Go.Proofs.YtlkfakdghjaoaaaGreatDoor
open Go.RowKit Go.Sort Go.Shelf Go.Maps Go.WideMaps
attribute [local go_sem] Oper.semAt_some
theorem goalsOf_no (WB tb : Nat) (m : Nat) (mv kv : Value) (w : World) (hW : Blk w WB 94 #[.pointer (some ⟨tb, 0, none⟩), .slice none 0 0, mv]) (hT : TreeIn w tb (.slice none 0 0) (fun _ => 0) (fun _ => .pointer none)) :
  Calls Tryz.prog 116 #[.pointer (some ⟨WB, 0, none⟩), .int .i64 m, kv] w fun e w' => e = .returned (.slice none 0 0) ∧ w = w' := by
 have cW := hW.cell 0
 have cT := hT.nodes
 clear hW hT
 go_enter Tryz.func116, Tryz.ntmps116
 go_wp2_with fail
 go_loop [7, 18] (fun s i => s = .slice none 0 0 ∧ i = .int .i64 0) (fun _ _ => 0)
 case atStart => exact ⟨rfl, rfl⟩
 case round =>
  obtain ⟨rfl, rfl⟩ := hrel
  go_wp2_with fail
  go_ret
  exact ⟨rfl, rfl⟩
theorem headers_no (WB tb : Nat) (mv : Value) (w : World) (hW : Blk w WB 94 #[.pointer (some ⟨tb, 0, none⟩), .slice none 0 0, mv]) (hT : TreeIn w tb (.slice none 0 0) (fun _ => 0) (fun _ => .pointer none)) :
  Calls Tryz.prog 69 #[.pointer (some ⟨WB, 0, none⟩)] w fun e w' => e = .returned (.slice none 0 0) ∧ Below w.heap.size w w' := by
 have bk := (Below.refl w.heap.size w).alloc (Nat.le_refl _) (.cells #[.int .i64 1, .int .i64 2] 90)
 have HG := Lib.hid (goalsOf_no WB tb 1 mv (.slice (some ⟨w.heap.size, 0, none⟩) 2 2) (w.alloc (.cells #[.int .i64 1, .int .i64 2] 90)) (hW.alloc _) (hT.below bk))
 have HB := Lib.hid bk
 clear hW hT bk
 go_enter Tryz.func69, Tryz.ntmps69
 go_wp2_with fail
 refine HG.out.mono ?_
 rintro e w2 ⟨rfl, rfl⟩
 go_wp2_with fail
 go_ret
 exact ⟨rfl, HB.out⟩
theorem implHeaders_any (A : Option Addr) (cap : Nat) (g : List Bl) (w : World) (hg : Gr w A g) (hn : g.length + tot g ≤ 1048576) :
  Calls Tryz.prog 28 #[.slice A g.length cap] w fun e w' => e = .returned (.tuple #[.string (headV g), .bool (validB g)]) ∧ Below w.heap.size w w' := by
 unfold headV
 by_cases hv : validB g = true
 ·rw [if_pos hv, hv]
  have HC := Lib.hid (wayOrderOf_yes A cap g w hg hn hv)
  have HV := Lib.hid hv
  have h26 := (valid_iff.1 hv).2.1
  clear hg hv
  go_enter Tryz.func28, Tryz.ntmps28
  go_wp2_with fail
  refine HC.out.mono ?_
  rintro e w1 ⟨WB, tb, NB, MB, A2, cap2, B, off, tcap, S, _, rfl, hO, hM, b1⟩
  have HO := Lib.hid hO
  have HB1 := Lib.hid b1
  have HG := Lib.hid (headers_own WB tb NB MB cap2 A2 g B off tcap S w1 HV.out hO hM)
  clear hO hM b1
  go_wp2_with fail
  refine HG.out.mono ?_
  rintro e w2 ⟨v, rfl, hown, b2⟩
  obtain ⟨A3, cap3, rfl, hP3, -⟩ := own_idx hown
  have HB2 := Lib.hid (HB1.out.trans (b2.mono HB1.out.size))
  have hll : (headL g).length ≤ 26 := by
   have h1 : (headL g).length ≤ (reachS g).length := goalL_len 1 backK
   have h2 := reachS_small HV.out
   omega
  have HJ := Lib.hid (joinIdx_any A3 NB cap3 g (headL g) w2 HV.out hP3 (HO.out.tree.nodes.below (b2)) (goalL_lt 1 backK) hll)
  clear hown hP3 b2 hll
  go_wp2_with fail
  refine HJ.out.mono ?_
  rintro e w3 ⟨rfl, b3⟩
  have HB3 := Lib.hid (HB2.out.trans (b3.mono HB2.out.size))
  clear b3
  go_wp2_with fail
  go_ret2
  exact ⟨rfl, HB3.out⟩
 ·have hv : validB g = false := by simpa using hv
  rw [if_neg (by rw [hv]; simp), hv]
  have HC := Lib.hid (wayOrderOf_no A cap g w hg hn hv)
  clear hg hv
  go_enter Tryz.func28, Tryz.ntmps28
  go_wp2_with fail
  refine HC.out.mono ?_
  rintro e w1 ⟨WB, tb, mv, rfl, hW, hT, b1⟩
  have HB1 := Lib.hid b1
  have HG := Lib.hid (headers_no WB tb mv w1 hW hT)
  clear hW hT b1
  go_wp2_with fail
  refine HG.out.mono ?_
  rintro e w2 ⟨rfl, b2⟩
  have HB2 := Lib.hid (HB1.out.trans (b2.mono HB1.out.size))
  have HJ := Lib.hid (join_none none 0 w2)
  clear b2
  go_wp2_with fail
  refine HJ.out.mono ?_
  rintro e w3 ⟨rfl, b3⟩
  have HB3 := Lib.hid (HB2.out.trans (b3.mono HB2.out.size))
  clear b3
  go_wp2_with fail
  go_ret2
  exact ⟨rfl, HB3.out⟩
end Go.Proofs.YtlkfakdghjaoaaaGreatDoor
namespace Go.Proofs.YtlkfakdghjaoaaaGreatDoor
open Go.RowKit Go.Sort Go.Shelf
end Go.Proofs.YtlkfakdghjaoaaaGreatDoor
namespace Go.Proofs.YtlkfakdghjaoaaaGreatDoor
open Go.RowKit Go.Sort
theorem tame_own (WB tb NB MB cap : Nat) (A : Option Addr) (g : List Bl) (B off tcap : Nat) (S : Nat → Nat) (w : World) (hv : validB g = true)
  (hO : OrdAt w WB tb NB MB A cap g B off tcap S) (hM : KMap w g MB 52 (fun i t => Rch g [] i ∧ t ∈ nxt g i)) :
  Calls Tryz.prog 65 #[.pointer (some ⟨WB, 0, none⟩)] w fun e w' => e = .returned (.bool (decide ((jumpL g wildK).length = 0))) ∧ Below w.heap.size w w' := by
 have b1 := (Below.refl w.heap.size w).alloc (Nat.le_refl _) (.cells #[.int .i64 2] 90)
 have k1 : KindsAt (w.alloc (.cells #[.int .i64 2] 90)) w.heap.size [2] := Blk.new w _ _
 have HJ := Lib.hid (jumpsOf_own wildK [2] w.heap.size wildK_mem (by decide) WB tb NB MB cap A g B off tcap S _ hv (hO.below b1) (hM.keep (b1.block MB hM.lt)) k1)
 have HB := Lib.hid b1
 clear hO hM hv b1 k1
 go_enter Tryz.func65, Tryz.ntmps65
 go_wp2_with fail
 refine HJ.out.mono ?_
 rintro e w2 ⟨v, rfl, hown, hb⟩
 have HB2 := Lib.hid (HB.out.trans (hb.mono HB.out.size))
 obtain ⟨A2, cap2, rfl, -⟩ := own_strs hown
 clear hb hown
 simp only [List.length_map]
 by_cases hz : (jumpL g wildK).length = 0
 ·have hzI : (((jumpL g wildK).length : Int) == 0) = true := by rw [hz]; rfl
  have HZ := Lib.hid hz
  clear hz
  go_wp2_with fail
  go_ret
  exact ⟨ret_b (by rw [decide_eq_true HZ.out]), HB2.out⟩
 ·have hzI : (((jumpL g wildK).length : Int) == 0) = false := beq_eq_false_iff_ne.2 fun e => hz (Int.ofNat.inj e)
  have HZ := Lib.hid hz
  clear hz
  go_wp2_with fail
  go_ret
  exact ⟨ret_b (by rw [decide_eq_false HZ.out]), HB2.out⟩
theorem meets_own (WB tb NB MB cap : Nat) (A : Option Addr) (g : List Bl) (B off tcap : Nat) (S : Nat → Nat) (w : World) (hv : validB g = true)
  (hO : OrdAt w WB tb NB MB A cap g B off tcap S) (hM : KMap w g MB 52 (fun i t => Rch g [] i ∧ t ∈ nxt g i)) :
  Calls Tryz.prog 68 #[.pointer (some ⟨WB, 0, none⟩)] w fun e w' => ∃ v, e = .returned v ∧ w'.ownsRow w.heap.size 95 1 v (meetsL g).length ((meetsL g).map (nptr NB)) ∧ Below w.heap.size w w' := by
 have b1 := (Below.refl w.heap.size w).alloc (Nat.le_refl _) (.cells #[.int .i64 0] 90)
 have k1 : KindsAt (w.alloc (.cells #[.int .i64 0] 90)) w.heap.size [0] := Blk.new w _ _
 have HG := Lib.hid (goalsOf_own 2 fwdK [0] w.heap.size fwdK_mem (by decide) WB tb NB MB cap A g B off tcap S _ hv (hO.below b1) (hM.keep (b1.block MB hM.lt)) k1)
 have HB := Lib.hid b1
 clear hO hM hv b1 k1
 go_enter Tryz.func68, Tryz.ntmps68
 go_wp2_with fail
 refine HG.out.mono ?_
 rintro e w2 ⟨v, rfl, hown, hb⟩
 have HW := Lib.hid hown
 have HB2 := Lib.hid (HB.out.trans (hb.mono HB.out.size))
 clear hown hb
 go_wp2_with fail
 go_ret
 refine ⟨_, rfl, ?_, HB2.out⟩
 exact own_lower HW.out (by simp)
theorem meets_no (WB tb : Nat) (mv : Value) (w : World) (hW : Blk w WB 94 #[.pointer (some ⟨tb, 0, none⟩), .slice none 0 0, mv]) (hT : TreeIn w tb (.slice none 0 0) (fun _ => 0) (fun _ => .pointer none)) :
  Calls Tryz.prog 68 #[.pointer (some ⟨WB, 0, none⟩)] w fun e w' => e = .returned (.slice none 0 0) ∧ Below w.heap.size w w' := by
 have bk := (Below.refl w.heap.size w).alloc (Nat.le_refl _) (.cells #[.int .i64 0] 90)
 have HG := Lib.hid (goalsOf_no WB tb 2 mv (.slice (some ⟨w.heap.size, 0, none⟩) 1 1) (w.alloc (.cells #[.int .i64 0] 90)) (hW.alloc _) (hT.below bk))
 have HB := Lib.hid bk
 clear hW hT bk
 go_enter Tryz.func68, Tryz.ntmps68
 go_wp2_with fail
 refine HG.out.mono ?_
 rintro e w2 ⟨rfl, rfl⟩
 go_wp2_with fail
 go_ret
 exact ⟨rfl, HB.out⟩
theorem implMeets_any (A : Option Addr) (cap : Nat) (g : List Bl) (w : World) (hg : Gr w A g) (hn : g.length + tot g ≤ 1048576) :
  Calls Tryz.prog 27 #[.slice A g.length cap] w fun e w' => e = .returned (.tuple #[.string (meetsV g), .bool (validB g)]) ∧ Below w.heap.size w w' := by
 unfold meetsV
 by_cases hv : validB g = true
 ·rw [if_pos hv, hv]
  have HC := Lib.hid (wayOrderOf_yes A cap g w hg hn hv)
  have HV := Lib.hid hv
  have h26 := (valid_iff.1 hv).2.1
  clear hg hv
  go_enter Tryz.func27, Tryz.ntmps27
  go_wp2_with fail
  refine HC.out.mono ?_
  rintro e w1 ⟨WB, tb, NB, MB, A2, cap2, B, off, tcap, S, _, rfl, hO, hM, b1⟩
  have HO := Lib.hid hO
  have HB1 := Lib.hid b1
  have HG := Lib.hid (meets_own WB tb NB MB cap2 A2 g B off tcap S w1 HV.out hO hM)
  clear hO hM b1
  go_wp2_with fail
  refine HG.out.mono ?_
  rintro e w2 ⟨v, rfl, hown, b2⟩
  obtain ⟨A3, cap3, rfl, hP3, -⟩ := own_idx hown
  have HB2 := Lib.hid (HB1.out.trans (b2.mono HB1.out.size))
  have hll : (meetsL g).length ≤ 26 := by
   have h1 : (meetsL g).length ≤ (reachS g).length := goalL_len 2 fwdK
   have h2 := reachS_small HV.out
   omega
  have HJ := Lib.hid (joinIdx_any A3 NB cap3 g (meetsL g) w2 HV.out hP3 (HO.out.tree.nodes.below (b2)) (goalL_lt 2 fwdK) hll)
  clear hown hP3 b2 hll
  go_wp2_with fail
  refine HJ.out.mono ?_
  rintro e w3 ⟨rfl, b3⟩
  have HB3 := Lib.hid (HB2.out.trans (b3.mono HB2.out.size))
  clear b3
  go_wp2_with fail
  go_ret2
  exact ⟨rfl, HB3.out⟩
 ·have hv : validB g = false := by simpa using hv
  rw [if_neg (by rw [hv]; simp), hv]
  have HC := Lib.hid (wayOrderOf_no A cap g w hg hn hv)
  clear hg hv
  go_enter Tryz.func27, Tryz.ntmps27
  go_wp2_with fail
  refine HC.out.mono ?_
  rintro e w1 ⟨WB, tb, mv, rfl, hW, hT, b1⟩
  have HB1 := Lib.hid b1
  have HG := Lib.hid (meets_no WB tb mv w1 hW hT)
  clear hW hT b1
  go_wp2_with fail
  refine HG.out.mono ?_
  rintro e w2 ⟨rfl, b2⟩
  have HB2 := Lib.hid (HB1.out.trans (b2.mono HB1.out.size))
  have HJ := Lib.hid (join_none none 0 w2)
  clear b2
  go_wp2_with fail
  refine HJ.out.mono ?_
  rintro e w3 ⟨rfl, b3⟩
  have HB3 := Lib.hid (HB2.out.trans (b3.mono HB2.out.size))
  clear b3
  go_wp2_with fail
  go_ret2
  exact ⟨rfl, HB3.out⟩
end Go.Proofs.YtlkfakdghjaoaaaGreatDoor
