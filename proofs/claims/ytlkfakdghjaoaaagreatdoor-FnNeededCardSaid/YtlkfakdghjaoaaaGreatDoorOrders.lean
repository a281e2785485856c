import Derived.Test.YtlkfakdghjaoaaaGreatDoorJ15
import Derived.Laws.BytesArg
set_option maxRecDepth 100000
set_option maxHeartbeats 4000000
namespace Go.Proofs.YtlkfakdghjaoaaaGreatDoor
open Go.RowKit Go.Sort Go.Shelf Go.Maps Go.WideMaps
attribute [local go_sem] Oper.semAt_some
theorem pj (K : Nat → Bool) (ks : List Nat) (kb : Nat) (hK : ∀ k, K k = decide (k ∈ ks)) (hkl : ks.length ≤ 8) (WB tb NB MB cap : Nat) (A : Option Addr) (g : List Bl) (B off tcap : Nat) (S : Nat → Nat) (w : World) (hv : aa g = true)
  (hO : OrdAt w WB tb NB MB A cap g B off tcap S) (hM : KMap w g MB 52 (fun i t => Rch g [] i ∧ t ∈ ai g i)) (hks : KindsAt w kb ks) :
  Calls Tryz.prog 70 #[.pointer (some ⟨WB, 0, none⟩), .slice (some ⟨kb, 0, none⟩) ks.length ks.length] w fun e w' => ∃ v, e = .returned v ∧ iB w' g w.heap.size v (bw g K) ∧ Below w.heap.size w w' := by
 have h26 := (aj.1 hv).2.1
 have hwl := bK hv
 have hws : (ac g).length ≤ 26 := by omega
 obtain ⟨ip, hip, hz0, hz1, hz2⟩ := info_parts km
 have cW := hO.store.cell 1
 have HO := GR hO
 have HM := GR hM
 have HKS := GR hks
 have HV := GR hv
 have HKK := GR hK
 have HWL := GR (aX hv)
 clear hO hM hks hv hK hwl
 go_enter Tryz.func70, Tryz.ntmps70
 go_wp2_with fail
 go_loopw [5, 16] (fun pv iv wr => ∃ (k : Nat) (P : List (Nat × Nat)), k ≤ (ac g).length ∧ iv = .int .i64 k ∧ P.length ≤ 2 * k ∧ Hid (P = ((ac g).take k).flatMap (ci g K)) ∧ Hid (iB wr g w.heap.size pv P) ∧ Hid (Below w.heap.size w wr)) (fun _ iv _ => (ac g).length - (intOf iv).toNat)
 case atStart => exact ⟨0, [], Nat.zero_le _, rfl, by simp, (show ([] : List (Nat × Nat)) = ((ac g).take 0).flatMap (ci g K) by simp), World.ownsRow_nil _ _ _ _, Below.refl _ _⟩
 case round =>
  obtain ⟨k, P, hk, rfl, hPl, HP, HOWN, HB⟩ := hrel
  have hsz0 := HB.out.size
  have HOB := GR (HO.out.below HB.out)
  have HMB := GR (HM.out.keep (HB.out.block MB HM.out.lt))
  have HKB := GR (HKS.out.below HB.out)
  by_cases hlt : k < (ac g).length
  ·obtain ⟨b0, o0, rfl, c0⟩ := HOB.out.at_ hlt
   obtain ⟨x, hxe⟩ : ∃ x, x = (ac g)[k] := ⟨_, rfl⟩
   rw [← hxe] at c0
   have hxl := HWL.out x (hxe ▸ List.getElem_mem hlt)
   obtain ⟨T, tv, F2, hd⟩ := rv (NB := NB) HV.out hxl
   have x2 : wr.cell? ⟨nb NB x, 2, none⟩ = some (.iface T tv) := by have := (HOB.out.tree.nodes x hxl).cell 2; rw [hd.val] at this; simpa using this
   have hlook := hd.look
   have hent := hd.enter
   have HDG := GR hd.goes
   have hn2 := iO HV.out hxl
   have HXE := GR hxe
   have HXR := GR ((aA HV.out).1 (hxe ▸ List.getElem_mem hlt : x ∈ ac g))
   clear hd hxe
   go_wp2_with fail
   refine (HDG.out wr).mono ?_
   rintro e w3 ⟨A3, rfl, b3, hrow⟩
   have HR := GR hrow
   have HOWN3 := GR (aW HOWN.out b3)
   have HB3 := GR (HB.out.trans (b3.mono HB.out.size))
   clear hlook hent x2 hrow b3 c0 HOB HMB HKB
   go_wp2_with fail
   go_loopw [5, 26] (fun pv iv wr => ∃ (p : Nat) (P2 : List (Nat × Nat)), p ≤ (ai g x).length ∧ iv = .int .i64 p ∧ P2.length ≤ 2 * k + p ∧ Hid (P2 = P ++ (((ai g x).take p).filter fun t => K (aG g x t)).map fun t => (x, t)) ∧ Hid (iB wr g w.heap.size pv P2) ∧ Hid (Below w.heap.size w wr) ∧ Hid (NKeep w3 wr)) (fun _ iv _ => (ai g x).length - (intOf iv).toNat)
   case atStart => exact ⟨0, P, Nat.zero_le _, rfl, by omega, (show P = P ++ (((ai g x).take 0).filter fun t => K (aG g x t)).map fun t => (x, t) by simp), HOWN3.out, HB3.out, NKeep.refl _⟩
   case round =>
    obtain ⟨p, P2, hp, rfl, hP2l, HP2, HOWN4, HB4, HB5⟩ := hrel
    have hsz4 := HB4.out.size
    by_cases hpl : p < (ai g x).length
    ·obtain ⟨bb, rfl, hbb, hrowb⟩ := HR.out (by omega)
     obtain ⟨t, hte⟩ : ∃ t, t = (ai g x)[p] := ⟨_, rfl⟩
     have htm : t ∈ ai g x := hte ▸ List.getElem_mem hpl
     have htl := bP HV.out hxl htm
     have ct : wr.cell? ⟨bb, p, none⟩ = some (ag NB t) := (by rw [(HB5.out.2 bb _ hrowb).cell, List.getElem?_toArray, List.getElem?_map, List.getElem?_eq_getElem hpl, hte]; rfl)
     have hOR := HO.out.below HB4.out
     have hMR := HM.out.keep (HB4.out.block MB HM.out.lt)
     have hKR := HKS.out.below HB4.out
     have HJ := GR (dO NB g x t wr HV.out hOR.tree.nodes hxl htl)
     have HOR := GR hOR
     have HMR := GR hMR
     have HKR := GR hKR
     have HTM := GR htm
     have HTE := GR hte
     clear hOR hMR hKR htm hte hrowb
     go_wp2_with fail
     refine HJ.out.mono ?_
     rintro e w6 ⟨rfl, b6⟩
     have HB6 := GR b6
     clear b6
     go_wp2_with fail
     obtain ⟨w7, hw7⟩ : ∃ w7, w7 = w6.alloc (.cells #[.int .u8 (au g x).toNat, .int .u8 (au g t).toNat] 176) := ⟨_, rfl⟩
     rw [← hw7]
     have b7 : Below w6.heap.size w6 w7 := by rw [hw7]; exact (Below.refl _ _).alloc (Nat.le_refl _) _
     have s7 : w7.heap.size = w6.heap.size + 1 := by rw [hw7]; simp
     have kJ : Blk w7 w6.heap.size 176 #[.int .u8 (au g x).toNat, .int .u8 (au g t).toNat] := by rw [hw7]; exact Blk.new w6 _ _
     have b67 : Below wr.heap.size wr w7 := HB6.out.trans (b7.mono HB6.out.size)
     have j0 : w7.cell? ⟨w6.heap.size, 0, none⟩ = some (.int .u8 (au g x).toNat) := kJ.cell 0
     have j1 : w7.cell? ⟨w6.heap.size, 1, none⟩ = some (.int .u8 (au g t).toNat) := kJ.cell 1
     have c9 : w7.cell? ⟨WB, 2, none⟩ = some (.map (some MB)) := (HOR.out.below b67).store.cell 2
     have hM7 := HMR.out.keep (b67.block MB HMR.out.lt)
     have hlk := fun n => (hM7.keep ((ab w7 n).block MB hM7.lt)).look hxl htl ⟨HXR.out, HTM.out⟩
     have tC := fun n => Calls.quiet_of_same ((j3 kb ks (aG g x t) (w7.drewN n) ((HKR.out.below b67).below (ab w7 n)) hkl).mono fun _ _ ⟨p, q⟩ => ⟨p, q.symm⟩)
     have hcv : ∀ n, (convert 22 9 (.slice (some ⟨w6.heap.size, 0, none⟩) 2 2)).run Tryz.prog (w7.drewN n) = .ok (.string (jt g (x, t))) (w7.drewN n) := fun n => by
      have := run_convert_bytes_arg (P := Tryz.prog) (w := w7.drewN n) 22 5 Tryz.underlying22 Tryz.underlying5 w6.heap.size 0 2 2 [((au g x).toNat : Int), ((au g t).toNat : Int)] rfl (fun i hi => by
       match i, hi with
       | 0, _ => exact j0
       | 1, _ => exact j1) 9 Tryz.underlying9
      rw [AV] at this
      exact this
     have HOWN7 := GR (aW HOWN4.out b67)
     have HB7 := GR (HB4.out.trans (b67.mono HB4.out.size))
     have HB57 := GR (HB5.out.trans (NKeep.of_below b67))
     have HKZ := GR (show (ai g x).take (p + 1) = (ai g x).take p ++ [t] by rw [List.take_succ_eq_append_getElem hpl, ← HTE.out])
     clear hw7 b7 b67 kJ hM7
     obtain ⟨z, hz⟩ : ∃ z, z = aG g x t := ⟨_, rfl⟩
     rw [← hz] at hlk tC
     have HZ := GR (show K (aG g x t) = decide (z ∈ ks) by rw [HKK.out, ← hz])
     clear hz
     by_cases hq : z ∈ ks
     ·rw [decide_eq_true hq] at tC
      have HP3 := GR (show P2 ++ [(x, t)] = P ++ (((ai g x).take (p + 1)).filter fun t => K (aG g x t)).map fun t => (x, t) by
       rw [HKZ.out, List.filter_append, List.map_append, ← List.append_assoc, ← HP2.out]
       congr 1
       rw [List.filter_cons, HZ.out, decide_eq_true hq]; rfl)
      clear hq
      go_quiet (with_reducible exact tC _)
      have HO8 := GR (aW HOWN7.out (ab w7 nq))
      have HB8 := GR (HB7.out.trans ((ab w7 nq).mono HB7.out.size))
      have HB58 := GR (HB57.out.trans (NKeep.of_below (ab w7 nq)))
      have hcv8 := hcv nq
      have r0 : (w7.drewN nq).cell? ⟨w6.heap.size, 0, none⟩ = some (.int .u8 (au g x).toNat) := j0
      obtain ⟨w8, hw8⟩ : ∃ w8, w8 = w7.drewN nq := ⟨_, rfl⟩
      rw [← hw8] at HO8 HB8 HB58 hcv8 r0 ⊢
      have hszq := HB8.out.size
      obtain ⟨txt, htx⟩ : ∃ txt, txt = jt g (x, t) := ⟨_, rfl⟩
      rw [← htx] at hcv8
      have HTX := GR htx
      clear hw8 htx hcv tC hlk j0 j1 c9 HOWN7 HB7 HB57
      go_wp2_with (at_builtin; refine wpList_append_own _ rfl _ _ 37 rfl w.heap.size 9 ip (.string ⟨#[]⟩) 1 16 Tryz.underlying37 hip hz0 hz1 hz2 rfl (by decide) _ _ _ rfl (HO8.out.alloc _) ⟨w8.heap.size, 0, none⟩ 1 1 [.string txt] rfl rfl ?c1 ?c2 ?c3 ?c4 ?c5 ?_)
      case c1 =>
       intro j u hj
       match j, hj with
       | 0, hj =>
        have hu : Value.string txt = u := by simpa using hj
        rw [← hu]
        simp [Addr.add]
      case c2 => intro u hu; have hu' : u = .string txt := by simpa using hu
                 subst hu'; rfl
      case c3 => have hlm : (P2.map (jt g)).length = P2.length := List.length_map _; unfold maxLen; omega
      case c4 => have hlm : (P2.map (jt g)).length = P2.length := List.length_map _; omega
      case c5 => simp; omega
      intro v' w9 hown' hgrow _
      have hsz := (HO8.out.alloc (.cells #[.string txt] 9)).lt
      have hB9 := (HB8.out.alloc hszq (.cells #[.string txt] 9)).grown hgrow (by simp; omega) (fun j hj => (hsz j hj).1)
      have HB59 := GR (HB58.out.trans ((NKeep.of_below ((Below.refl _ w8).alloc (Nat.le_refl _) (.cells #[.string txt] 9))).trans (NKeep.grown (HO8.out.alloc (.cells #[.string txt] 9)) (by decide) hgrow)))
      have HO9 : Hid (iB w9 g w.heap.size v' (P2 ++ [(x, t)])) := by
       show w9.ownsRow w.heap.size 9 1 v' ((P2 ++ [(x, t)]).map (jt g)).length (((P2 ++ [(x, t)]).map (jt g)).map Value.string)
       rw [List.map_append, List.length_append, List.length_map, List.map_append, List.map_map, List.map_singleton, ← HTX.out]; exact hown'
      have HB9 := GR hB9
      clear hown' hsz hgrow hB9
      go_wp2_with fail
      go_roundw
      case rel => exact ⟨p + 1, P2 ++ [(x, t)], by omega, by go_num, by simp; omega, HP3.out, HO9.out, HB9.out, HB59.out⟩
      case measure => simp [intOf]; omega
     ·rw [decide_eq_false hq] at tC
      have HP3 := GR (show P2 = P ++ (((ai g x).take (p + 1)).filter fun t => K (aG g x t)).map fun t => (x, t) by
       rw [HKZ.out, List.filter_append, List.map_append, ← List.append_assoc, ← HP2.out, List.filter_cons, HZ.out, decide_eq_false hq]
       simp)
      clear hq
      go_quiet (with_reducible exact tC _)
      have HO8 := GR (aW HOWN7.out (ab w7 nq))
      have HB8 := GR (HB7.out.trans ((ab w7 nq).mono HB7.out.size))
      have HB58 := GR (HB57.out.trans (NKeep.of_below (ab w7 nq)))
      clear hcv tC hlk j0 j1 c9 HOWN7 HB7 HB57
      go_wp2_with fail
      go_roundw
      case rel => exact ⟨p + 1, P2, by omega, by go_num, by omega, HP3.out, HO8.out, HB8.out, HB58.out⟩
      case measure => simp [intOf]; omega
    ·have HE := GR (show P2 = ((ac g).take (k + 1)).flatMap (ci g K) by
      rw [HP2.out, o9 hlt HXE.out, List.take_of_length_le (by omega), HP.out]; rfl)
     go_wp2_with fail
     go_roundw
     case rel => exact ⟨k + 1, P2, by omega, by go_num, by omega, HE.out, HOWN4.out, HB4.out⟩
     case measure => simp [intOf]; omega
  ·have HE := GR (show P = bw g K by rw [HP.out, List.take_of_length_le (by omega)]; rfl)
   go_wp2_with fail
   go_ret
   exact ⟨_, rfl, by rw [← HE.out]; exact HOWN.out, HB.out⟩
end Go.Proofs.YtlkfakdghjaoaaaGreatDoor
namespace Go.Proofs.YtlkfakdghjaoaaaGreatDoor
open Go.RowKit Go.Sort Go.Shelf Go.Maps Go.WideMaps
attribute [local go_sem] Oper.semAt_some
theorem lj (A : Option Addr) (NB cap : Nat) (g : List Bl) (L : List Nat) (w : World) (hv : aa g = true) (hP : PtsI w A NB L) (hN : NodesIn w NB g) (hL : ∀ i ∈ L, i < g.length) (hl : L.length ≤ 26) :
  Calls Tryz.prog 60 #[.slice A L.length cap] w fun e w' => e = .returned (.string (ae g L)) ∧ Below w.heap.size w w' := by
 have hj := mG A cap (ec NB g L) w (zv hP hN hL) (by rw [cu]; omega) (by rw [iK, ax hv _ hL]; omega)
 rw [cu, iK] at hj
 exact hj
def qV (g : List Bl) : ByteArray := if aa g = true then ae g (ac g) else ⟨#[]⟩
theorem uq (A : Option Addr) (cap : Nat) (g : List Bl) (w : World) (hg : Gr w A g) (hn : g.length + aO g ≤ 1048576) :
  Calls Tryz.prog 30 #[.slice A g.length cap] w fun e w' => e = .returned (.tuple #[.string (qV g), .bool (aa g)]) ∧ Below w.heap.size w w' := by
 unfold qV
 by_cases hv : aa g = true
 ·rw [if_pos hv, hv]
  have HC := GR (ef A cap g w hg hn hv)
  have HV := GR hv
  have h26 := (aj.1 hv).2.1
  have hwl := bK hv
  clear hg hv
  go_enter Tryz.func30, Tryz.ntmps30
  go_wp2_with fail
  refine HC.out.mono ?_
  rintro e w1 ⟨WB, tb, NB, MB, A2, cap2, B, off, tcap, S, _, rfl, hO, hM, b1⟩
  have cW := hO.store.cell 1
  have HJ := GR (lj A2 NB cap2 g (ac g) w1 HV.out hO.row hO.tree.nodes (aX HV.out) (by omega))
  have HB1 := GR b1
  clear hO hM b1
  go_wp2_with fail
  refine HJ.out.mono ?_
  rintro e w2 ⟨rfl, b2⟩
  have HB2 := GR (HB1.out.trans (b2.mono HB1.out.size))
  clear b2
  go_wp2_with fail
  go_ret2
  exact ⟨rfl, HB2.out⟩
 ·have hv : aa g = false := by simpa using hv
  rw [if_neg (by rw [hv]; simp), hv]
  have HC := GR (fu A cap g w hg hn hv)
  clear hg hv
  go_enter Tryz.func30, Tryz.ntmps30
  go_wp2_with fail
  refine HC.out.mono ?_
  rintro e w1 ⟨WB, tb, mv, rfl, hW, _, b1⟩
  have cW := hW.cell 1
  have HJ := GR (mG none 0 [] w1 (fun h => absurd h (by simp)) (Nat.zero_le _) (Nat.zero_le _))
  have HB1 := GR b1
  clear hW b1
  go_wp2_with fail
  refine HJ.out.mono ?_
  rintro e w2 ⟨rfl, b2⟩
  have HB2 := GR (HB1.out.trans (b2.mono HB1.out.size))
  clear b2
  go_wp2_with fail
  go_ret2
  exact ⟨rfl, HB2.out⟩
theorem zT (WB : Nat) (tv mv : Value) (kv : Value) (w : World) (hW : Blk w WB 94 #[tv, .slice none 0 0, mv]) :
  Calls Tryz.prog 70 #[.pointer (some ⟨WB, 0, none⟩), kv] w fun e w' => e = .returned (.slice none 0 0) ∧ w = w' := by
 have cW := hW.cell 1
 clear hW
 go_enter Tryz.func70, Tryz.ntmps70
 go_wp2_with fail
 go_loop [5, 16] (fun s i => s = .slice none 0 0 ∧ i = .int .i64 0) (fun _ _ => 0)
 case atStart => exact ⟨rfl, rfl⟩
 case round =>
  obtain ⟨rfl, rfl⟩ := hrel
  go_wp2_with fail
  go_ret
  exact ⟨rfl, rfl⟩
theorem vM (A : Option Addr) (cap : Nat) (g : List Bl) (w : World) (hg : Gr w A g) (hn : g.length + aO g ≤ 1048576) :
  Calls Tryz.prog 29 #[.slice A g.length cap] w (fW aS w g) := by
 unfold fW
 by_cases hv : aa g = true
 ·rw [if_pos hv, hv]
  have HC := GR (ef A cap g w hg hn hv)
  have HV := GR hv
  clear hg hv
  go_enter Tryz.func29, Tryz.ntmps29
  go_wp2_with fail
  refine HC.out.mono ?_
  rintro e w1 ⟨WB, tb, NB, MB, A2, cap2, B, off, tcap, S, _, rfl, hO, hM, b1⟩
  have b2 := (Below.refl w1.heap.size w1).alloc (Nat.le_refl _) (.cells #[.int .i64 1, .int .i64 2] 90)
  have k2 : KindsAt (w1.alloc (.cells #[.int .i64 1, .int .i64 2] 90)) w1.heap.size [1, 2] := Blk.new w1 _ _
  have HJ := GR (pj aS [1, 2] w1.heap.size sI (by decide) WB tb NB MB cap2 A2 g B off tcap S _ HV.out (hO.below b2) (hM.keep (b2.block MB hM.lt)) k2)
  have HB2 := GR (b1.trans (b2.mono b1.size))
  have hs1 := b1.size
  clear hO hM b1 b2 k2
  go_wp2_with fail
  refine HJ.out.mono ?_
  rintro e w3 ⟨v, rfl, hown, b3⟩
  have HW := GR (ky hown (by simp; omega : w.heap.size ≤ _))
  have HB3 := GR (HB2.out.trans (b3.mono HB2.out.size))
  clear hown b3
  go_wp2_with fail
  go_ret2
  exact ⟨v, rfl, HW.out, HB3.out⟩
 ·have hv : aa g = false := by simpa using hv
  rw [if_neg (by rw [hv]; simp), hv]
  have HC := GR (fu A cap g w hg hn hv)
  clear hg hv
  go_enter Tryz.func29, Tryz.ntmps29
  go_wp2_with fail
  refine HC.out.mono ?_
  rintro e w1 ⟨WB, tb, mv, rfl, hW, _, b1⟩
  have b2 := (Below.refl w1.heap.size w1).alloc (Nat.le_refl _) (.cells #[.int .i64 1, .int .i64 2] 90)
  have HJ := GR (fun kv => zT WB _ mv kv (w1.alloc (.cells #[.int .i64 1, .int .i64 2] 90)) (hW.alloc _))
  have HB2 := GR (b1.trans (b2.mono b1.size))
  clear hW b1 b2
  go_wp2_with fail
  refine (HJ.out _).mono ?_
  rintro e w3 ⟨rfl, rfl⟩
  go_wp2_with fail
  go_ret2
  exact ⟨_, rfl, World.ownsRow_nil _ _ _ _, HB2.out⟩
end Go.Proofs.YtlkfakdghjaoaaaGreatDoor
namespace Go.Proofs.YtlkfakdghjaoaaaGreatDoor
open Go.RowKit Go.Sort Go.Shelf Go.Maps Go.WideMaps
attribute [local go_sem] Oper.semAt_some
theorem qW (WB tb : Nat) (m : Nat) (mv kv : Value) (w : World) (hW : Blk w WB 94 #[.pointer (some ⟨tb, 0, none⟩), .slice none 0 0, mv]) (hT : TreeIn w tb (.slice none 0 0) (fun _ => 0) (fun _ => .pointer none)) :
  Calls Tryz.prog 116 #[.pointer (some ⟨WB, 0, none⟩), .int .i64 m, kv] w fun e w' => e = .returned (.slice none 0 0) ∧ w = w' := by
 have cW := hW.cell 0
 have cT := hT.nodes
 clear hW hT
 go_enter Tryz.func116, Tryz.ntmps116
 go_wp2_with fail
 go_loop [7, 18] (fun s i => s = .slice none 0 0 ∧ i = .int .i64 0) (fun _ _ => 0)
 case atStart => exact ⟨rfl, rfl⟩
 case round =>
  obtain ⟨rfl, rfl⟩ := hrel
  go_wp2_with fail
  go_ret
  exact ⟨rfl, rfl⟩
theorem zU (WB tb : Nat) (mv : Value) (w : World) (hW : Blk w WB 94 #[.pointer (some ⟨tb, 0, none⟩), .slice none 0 0, mv]) (hT : TreeIn w tb (.slice none 0 0) (fun _ => 0) (fun _ => .pointer none)) :
  Calls Tryz.prog 69 #[.pointer (some ⟨WB, 0, none⟩)] w fun e w' => e = .returned (.slice none 0 0) ∧ Below w.heap.size w w' := by
 have bk := (Below.refl w.heap.size w).alloc (Nat.le_refl _) (.cells #[.int .i64 1, .int .i64 2] 90)
 have HG := GR (qW WB tb 1 mv (.slice (some ⟨w.heap.size, 0, none⟩) 2 2) (w.alloc (.cells #[.int .i64 1, .int .i64 2] 90)) (hW.alloc _) (hT.below bk))
 have HB := GR bk
 clear hW hT bk
 go_enter Tryz.func69, Tryz.ntmps69
 go_wp2_with fail
 refine HG.out.mono ?_
 rintro e w2 ⟨rfl, rfl⟩
 go_wp2_with fail
 go_ret
 exact ⟨rfl, HB.out⟩
theorem qX (A : Option Addr) (cap : Nat) (g : List Bl) (w : World) (hg : Gr w A g) (hn : g.length + aO g ≤ 1048576) :
  Calls Tryz.prog 28 #[.slice A g.length cap] w fun e w' => e = .returned (.tuple #[.string (mf g), .bool (aa g)]) ∧ Below w.heap.size w w' := by
 unfold mf
 by_cases hv : aa g = true
 ·rw [if_pos hv, hv]
  have HC := GR (ef A cap g w hg hn hv)
  have HV := GR hv
  have h26 := (aj.1 hv).2.1
  clear hg hv
  go_enter Tryz.func28, Tryz.ntmps28
  go_wp2_with fail
  refine HC.out.mono ?_
  rintro e w1 ⟨WB, tb, NB, MB, A2, cap2, B, off, tcap, S, _, rfl, hO, hM, b1⟩
  have HO := GR hO
  have HB1 := GR b1
  have HG := GR (o7 WB tb NB MB cap2 A2 g B off tcap S w1 HV.out hO hM)
  clear hO hM b1
  go_wp2_with fail
  refine HG.out.mono ?_
  rintro e w2 ⟨v, rfl, hown, b2⟩
  obtain ⟨A3, cap3, rfl, hP3, -⟩ := jN hown
  have HB2 := GR (HB1.out.trans (b2.mono HB1.out.size))
  have hll : (aL g).length ≤ 26 := by
   have h1 : (aL g).length ≤ (am g).length := eX 1 aS
   have h2 := bO HV.out
   omega
  have HJ := GR (lj A3 NB cap3 g (aL g) w2 HV.out hP3 (HO.out.tree.nodes.below (b2)) (dP 1 aS) hll)
  clear hown hP3 b2 hll
  go_wp2_with fail
  refine HJ.out.mono ?_
  rintro e w3 ⟨rfl, b3⟩
  have HB3 := GR (HB2.out.trans (b3.mono HB2.out.size))
  clear b3
  go_wp2_with fail
  go_ret2
  exact ⟨rfl, HB3.out⟩
 ·have hv : aa g = false := by simpa using hv
  rw [if_neg (by rw [hv]; simp), hv]
  have HC := GR (fu A cap g w hg hn hv)
  clear hg hv
  go_enter Tryz.func28, Tryz.ntmps28
  go_wp2_with fail
  refine HC.out.mono ?_
  rintro e w1 ⟨WB, tb, mv, rfl, hW, hT, b1⟩
  have HB1 := GR b1
  have HG := GR (zU WB tb mv w1 hW hT)
  clear hW hT b1
  go_wp2_with fail
  refine HG.out.mono ?_
  rintro e w2 ⟨rfl, b2⟩
  have HB2 := GR (HB1.out.trans (b2.mono HB1.out.size))
  have HJ := GR (tt none 0 w2)
  clear b2
  go_wp2_with fail
  refine HJ.out.mono ?_
  rintro e w3 ⟨rfl, b3⟩
  have HB3 := GR (HB2.out.trans (b3.mono HB2.out.size))
  clear b3
  go_wp2_with fail
  go_ret2
  exact ⟨rfl, HB3.out⟩
end Go.Proofs.YtlkfakdghjaoaaaGreatDoor
namespace Go.Proofs.YtlkfakdghjaoaaaGreatDoor
open Go.RowKit Go.Sort Go.Shelf
end Go.Proofs.YtlkfakdghjaoaaaGreatDoor
namespace Go.Proofs.YtlkfakdghjaoaaaGreatDoor
open Go.RowKit Go.Sort
theorem vN (WB tb NB MB cap : Nat) (A : Option Addr) (g : List Bl) (B off tcap : Nat) (S : Nat → Nat) (w : World) (hv : aa g = true)
  (hO : OrdAt w WB tb NB MB A cap g B off tcap S) (hM : KMap w g MB 52 (fun i t => Rch g [] i ∧ t ∈ ai g i)) :
  Calls Tryz.prog 65 #[.pointer (some ⟨WB, 0, none⟩)] w fun e w' => e = .returned (.bool (decide ((bw g dj).length = 0))) ∧ Below w.heap.size w w' := by
 have b1 := (Below.refl w.heap.size w).alloc (Nat.le_refl _) (.cells #[.int .i64 2] 90)
 have k1 : KindsAt (w.alloc (.cells #[.int .i64 2] 90)) w.heap.size [2] := Blk.new w _ _
 have HJ := GR (pj dj [2] w.heap.size AN (by decide) WB tb NB MB cap A g B off tcap S _ hv (hO.below b1) (hM.keep (b1.block MB hM.lt)) k1)
 have HB := GR b1
 clear hO hM hv b1 k1
 go_enter Tryz.func65, Tryz.ntmps65
 go_wp2_with fail
 refine HJ.out.mono ?_
 rintro e w2 ⟨v, rfl, hown, hb⟩
 have HB2 := GR (HB.out.trans (hb.mono HB.out.size))
 obtain ⟨A2, cap2, rfl, -⟩ := gO hown
 clear hb hown
 simp only [List.length_map]
 by_cases hz : (bw g dj).length = 0
 ·have hzI : (((bw g dj).length : Int) == 0) = true := by rw [hz]; rfl
  have HZ := GR hz
  clear hz
  go_wp2_with fail
  go_ret
  exact ⟨jE (by rw [decide_eq_true HZ.out]), HB2.out⟩
 ·have hzI : (((bw g dj).length : Int) == 0) = false := beq_eq_false_iff_ne.2 fun e => hz (Int.ofNat.inj e)
  have HZ := GR hz
  clear hz
  go_wp2_with fail
  go_ret
  exact ⟨jE (by rw [decide_eq_false HZ.out]), HB2.out⟩
theorem tB (WB tb NB MB cap : Nat) (A : Option Addr) (g : List Bl) (B off tcap : Nat) (S : Nat → Nat) (w : World) (hv : aa g = true)
  (hO : OrdAt w WB tb NB MB A cap g B off tcap S) (hM : KMap w g MB 52 (fun i t => Rch g [] i ∧ t ∈ ai g i)) :
  Calls Tryz.prog 68 #[.pointer (some ⟨WB, 0, none⟩)] w fun e w' => ∃ v, e = .returned v ∧ w'.ownsRow w.heap.size 95 1 v (ak g).length ((ak g).map (ag NB)) ∧ Below w.heap.size w w' := by
 have b1 := (Below.refl w.heap.size w).alloc (Nat.le_refl _) (.cells #[.int .i64 0] 90)
 have k1 : KindsAt (w.alloc (.cells #[.int .i64 0] 90)) w.heap.size [0] := Blk.new w _ _
 have HG := GR (oZ 2 bD [0] w.heap.size C4 (by decide) WB tb NB MB cap A g B off tcap S _ hv (hO.below b1) (hM.keep (b1.block MB hM.lt)) k1)
 have HB := GR b1
 clear hO hM hv b1 k1
 go_enter Tryz.func68, Tryz.ntmps68
 go_wp2_with fail
 refine HG.out.mono ?_
 rintro e w2 ⟨v, rfl, hown, hb⟩
 have HW := GR hown
 have HB2 := GR (HB.out.trans (hb.mono HB.out.size))
 clear hown hb
 go_wp2_with fail
 go_ret
 refine ⟨_, rfl, ?_, HB2.out⟩
 exact ky HW.out (by simp)
theorem DA (WB tb : Nat) (mv : Value) (w : World) (hW : Blk w WB 94 #[.pointer (some ⟨tb, 0, none⟩), .slice none 0 0, mv]) (hT : TreeIn w tb (.slice none 0 0) (fun _ => 0) (fun _ => .pointer none)) :
  Calls Tryz.prog 68 #[.pointer (some ⟨WB, 0, none⟩)] w fun e w' => e = .returned (.slice none 0 0) ∧ Below w.heap.size w w' := by
 have bk := (Below.refl w.heap.size w).alloc (Nat.le_refl _) (.cells #[.int .i64 0] 90)
 have HG := GR (qW WB tb 2 mv (.slice (some ⟨w.heap.size, 0, none⟩) 1 1) (w.alloc (.cells #[.int .i64 0] 90)) (hW.alloc _) (hT.below bk))
 have HB := GR bk
 clear hW hT bk
 go_enter Tryz.func68, Tryz.ntmps68
 go_wp2_with fail
 refine HG.out.mono ?_
 rintro e w2 ⟨rfl, rfl⟩
 go_wp2_with fail
 go_ret
 exact ⟨rfl, HB.out⟩
theorem ur (A : Option Addr) (cap : Nat) (g : List Bl) (w : World) (hg : Gr w A g) (hn : g.length + aO g ≤ 1048576) :
  Calls Tryz.prog 27 #[.slice A g.length cap] w fun e w' => e = .returned (.tuple #[.string (i9 g), .bool (aa g)]) ∧ Below w.heap.size w w' := by
 unfold i9
 by_cases hv : aa g = true
 ·rw [if_pos hv, hv]
  have HC := GR (ef A cap g w hg hn hv)
  have HV := GR hv
  have h26 := (aj.1 hv).2.1
  clear hg hv
  go_enter Tryz.func27, Tryz.ntmps27
  go_wp2_with fail
  refine HC.out.mono ?_
  rintro e w1 ⟨WB, tb, NB, MB, A2, cap2, B, off, tcap, S, _, rfl, hO, hM, b1⟩
  have HO := GR hO
  have HB1 := GR b1
  have HG := GR (tB WB tb NB MB cap2 A2 g B off tcap S w1 HV.out hO hM)
  clear hO hM b1
  go_wp2_with fail
  refine HG.out.mono ?_
  rintro e w2 ⟨v, rfl, hown, b2⟩
  obtain ⟨A3, cap3, rfl, hP3, -⟩ := jN hown
  have HB2 := GR (HB1.out.trans (b2.mono HB1.out.size))
  have hll : (ak g).length ≤ 26 := by
   have h1 : (ak g).length ≤ (am g).length := eX 2 bD
   have h2 := bO HV.out
   omega
  have HJ := GR (lj A3 NB cap3 g (ak g) w2 HV.out hP3 (HO.out.tree.nodes.below (b2)) (dP 2 bD) hll)
  clear hown hP3 b2 hll
  go_wp2_with fail
  refine HJ.out.mono ?_
  rintro e w3 ⟨rfl, b3⟩
  have HB3 := GR (HB2.out.trans (b3.mono HB2.out.size))
  clear b3
  go_wp2_with fail
  go_ret2
  exact ⟨rfl, HB3.out⟩
 ·have hv : aa g = false := by simpa using hv
  rw [if_neg (by rw [hv]; simp), hv]
  have HC := GR (fu A cap g w hg hn hv)
  clear hg hv
  go_enter Tryz.func27, Tryz.ntmps27
  go_wp2_with fail
  refine HC.out.mono ?_
  rintro e w1 ⟨WB, tb, mv, rfl, hW, hT, b1⟩
  have HB1 := GR b1
  have HG := GR (DA WB tb mv w1 hW hT)
  clear hW hT b1
  go_wp2_with fail
  refine HG.out.mono ?_
  rintro e w2 ⟨rfl, b2⟩
  have HB2 := GR (HB1.out.trans (b2.mono HB1.out.size))
  have HJ := GR (tt none 0 w2)
  clear b2
  go_wp2_with fail
  refine HJ.out.mono ?_
  rintro e w3 ⟨rfl, b3⟩
  have HB3 := GR (HB2.out.trans (b3.mono HB2.out.size))
  clear b3
  go_wp2_with fail
  go_ret2
  exact ⟨rfl, HB3.out⟩
end Go.Proofs.YtlkfakdghjaoaaaGreatDoor
