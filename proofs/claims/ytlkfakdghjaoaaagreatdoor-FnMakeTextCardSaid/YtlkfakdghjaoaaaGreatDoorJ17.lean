import Derived.Test.YtlkfakdghjaoaaaGreatDoorJ9
import Derived.Test.YtlkfakdghjaoaaaGreatDoorSpecBack
import Derived.Test.YtlkfakdghjaoaaaGreatDoorJ16
import Derived.Laws.BytesArg
set_option maxHeartbeats 3200000
set_option maxRecDepth 100000
namespace Go.Proofs.YtlkfakdghjaoaaaGreatDoor
open Go.RowKit Go.Sort
theorem Fy (R : Nat) (A : Option Addr) (len cap p : Nat) (w : World) (h : Rd w R A len cap p) (hp : p ≤ 1048576) :
  Calls Tryz.prog 92 #[.pointer (some ⟨R,0,none⟩),.slice (some ⟨w.heap.size,0,none⟩) 5 5] (w.alloc (.cells #[.int .i64 0,.int .i64 1,.int .i64 5,.int .i64 6,.int .i64 8] 3)) fun e w' => ∃ k : Nat,e = .returned (.int .i64 k) ∧ k < 11 ∧ Only R w w' ∧ Rd w' R A len cap (p + 1):=by
 refine (CD R A len cap p [0,1,5,6,8] w h (by decide) (by decide) hp).mono ?_
 rintro e w' ⟨z,rfl,hz,o,r⟩
 simp only [List.mem_cons,List.not_mem_nil,or_false] at hz
 exact ⟨z.toNat,cC (by omega),by omega,o,r⟩
theorem ya (R : Nat) (A : Option Addr) (len cap p : Nat) (w : World) (hr : Rd w R A len cap p) (hp : p ≤ 1000) :
  Calls Tryz.prog 50 #[.pointer (some ⟨R,0,none⟩)] w (pd 40 105 R A len cap p w):=by
 have hRlt:=hr.blk.lt
 have HR:=F7 hr
 clear hr
 go_enter Tryz.func50,Tryz.ntmps50
 go_wp2_with fail
 refine (BV R A len cap p w HR.out hp).mono ?_
 rintro e w1 ⟨v,g,q,rfl,hown,hg,ho1,r1,hq⟩
 have HOWN:=F7 hown
 have HO1:=F7 ho1
 have HR1:=F7 r1
 obtain ⟨A1,c1,rfl,hc1,hgr⟩:=vp hown
 have HG:=F7 hgr
 clear hown ho1 r1 hgr
 go_wp2_with fail
 refine (g9 A1 c1 g w1 HG.out (by omega) hc1).mono ?_
 rintro e w2 ⟨rfl,b2⟩
 have HOWN2:=F7 (fB HOWN.out b2)
 have HO2:=F7 (HO1.out.trans (.of_below b2))
 have HR2:=F7 (HR1.out.below b2)
 clear b2
 cases ht : df g with
 | true =>
  clear ht
  go_wp2_with fail
  exact bodyPost_ret (v:=.slice A1 g.length c1) (by simp [results,Tryz.results50,go_sem]) rfl ⟨_,g,q,rfl,HOWN2.out,hg,HO2.out,HR2.out,by omega⟩
 | false =>
  clear ht
  go_wp2_with fail
  refine (l4 R A len cap q 3 w2 HR2.out (by omega) (by omega) (by omega)).mono ?_
  rintro e w3 ⟨x,rfl,hx,o3,r3⟩
  have HOWN3:=F7 (dQ HOWN2.out hRlt o3)
  have HO3:=F7 (HO2.out.trans o3)
  have HR3:=F7 r3
  clear o3 r3
  by_cases h0 : (0 : Int) < (x : Int)
  ·have HN := F7 (Fy R A len cap (q + 1) w3 HR3.out (by omega))
   go_wp2_with fail
   refine HN.out.mono ?_
   rintro e w4 ⟨k,rfl,hk,o4,r4⟩
   have HO4:=F7 (HO3.out.trans o4)
   have HR4:=F7 r4
   clear o4 r4
   go_wp2_with fail
   refine (rS k w4 hk).mono ?_
   rintro e w5 ⟨v5,g5,rfl,hv5,hs5,b5⟩
   have HV:=F7 (ie hv5 HO4.out.size)
   have HO5:=F7 (HO4.out.trans (.of_below b5))
   have HR5:=F7 (HR4.out.below b5)
   clear hv5 b5
   go_wp2_with fail
   exact bodyPost_ret (v:=v5) (by simp [results,Tryz.results50,go_sem]) rfl ⟨v5,g5,q + 2,rfl,HV.out,by omega,HO5.out,HR5.out,by omega⟩
  ·go_wp2_with fail
   exact bodyPost_ret (v:=.slice A1 g.length c1) (by simp [results,Tryz.results50,go_sem]) rfl ⟨_,g,q + 1,rfl,HOWN3.out,hg,HO3.out,HR3.out,by omega⟩
theorem pb (A : Option Addr) (len cap : Nat) (w : World) (hb : Bytes w A len) (hlc : len ≤ cap) (hl : cap ≤ 9223372036854775807) :
  Calls Tryz.prog 11 #[.slice A len cap] w (pc 40 w):=by
 have HC:=F7 (CC A len cap w hb hlc hl)
 clear hb
 go_enter Tryz.func11,Tryz.ntmps11
 go_wp2_with fail
 refine HC.out.mono ?_
 rintro e w1 ⟨A',len',cap',rfl,hrd,b1⟩
 have HR1:=F7 hrd
 have HB:=F7 b1
 have hs1:=b1.size
 clear hrd b1
 go_wp2_with fail
 refine (ya w.heap.size A' len' cap' 0 w1 HR1.out (by omega)).mono ?_
 rintro e w2 ⟨v,g,q,rfl,hown,hg,ho,_,_⟩
 have HOWN:=F7 (ie hown hs1)
 have HB2:=F7 (Only.below HB.out ho)
 clear hown ho
 go_wp2_with fail
 exact bodyPost_ret (v:=v) (by simp [results,Tryz.results11,go_sem]) rfl ⟨v,g,rfl,HOWN.out,hg,HB2.out⟩
end Go.Proofs.YtlkfakdghjaoaaaGreatDoor

set_option maxRecDepth 100000
set_option maxHeartbeats 4000000
namespace Go.Proofs.YtlkfakdghjaoaaaGreatDoor
open Go.RowKit Go.Sort Go.Shelf Go.Maps Go.WideMaps
attribute [local go_sem] Oper.semAt_some
theorem wF (K : Nat → Bool) (ks : List Nat) (kb : Nat) (hK : ∀ k, K k = decide (k ∈ ks)) (hkl : ks.length ≤ 8) (WB tb NB MB cap : Nat) (A : Option Addr) (g : List Bl) (B off tcap : Nat) (S : Nat → Nat) (w : World) (hv : aa g = true)
  (hO : OrdAt w WB tb NB MB A cap g B off tcap S) (hM : KMap w g MB 52 (fun i t => Rch g [] i ∧ t ∈ ai g i)) (hks : KindsAt w kb ks) :
  Calls Tryz.prog 70 #[.pointer (some ⟨WB,0,none⟩),.slice (some ⟨kb,0,none⟩) ks.length ks.length] w fun e w' => ∃ v,e = .returned v ∧ gR w' g w.heap.size v (bD g K) ∧ Below w.heap.size w w':=by
 have h26:=(ak.1 hv).2.1
 have hwl:=bW hv
 have hws : (af g).length ≤ 26:=by omega
 obtain ⟨ip,hip,hz0,hz1,hz2⟩:=info_parts gY
 have cW:=hO.store.cell 1
 have HO:=F7 hO
 have HM:=F7 hM
 have HKS:=F7 hks
 have HV:=F7 hv
 have HKK:=F7 hK
 have HWL:=F7 (be hv)
 clear hO hM hks hv hK hwl
 go_enter Tryz.func70,Tryz.ntmps70
 go_wp2_with fail
 go_loopw [5,16] (fun pv iv wr => ∃ (k : Nat) (P : List (Nat × Nat)),k ≤ (af g).length ∧ iv = .int .i64 k ∧ P.length ≤ 2 * k ∧ Hid (P = ((af g).take k).flatMap (cz g K)) ∧ Hid (gR wr g w.heap.size pv P) ∧ Hid (Below w.heap.size w wr)) (fun _ iv _ => (af g).length - (intOf iv).toNat)
 case atStart => exact ⟨0,[],Nat.zero_le _,rfl,by simp,(show ([] : List (Nat × Nat)) = ((af g).take 0).flatMap (cz g K) by simp),World.ownsRow_nil _ _ _ _,Below.refl _ _⟩
 case round =>
  obtain ⟨k,P,hk,rfl,hPl,HP,HOWN,HB⟩:=hrel
  have hsz0:=HB.out.size
  have HOB:=F7 (HO.out.below HB.out)
  have HMB:=F7 (HM.out.keep (HB.out.block MB HM.out.lt))
  have HKB:=F7 (HKS.out.below HB.out)
  by_cases hlt : k < (af g).length
  ·obtain ⟨b0,o0,rfl,c0⟩:=HOB.out.at_ hlt
   obtain ⟨x,hxe⟩ : ∃ x,x = (af g)[k]:=⟨_,rfl⟩
   rw [← hxe] at c0
   have hxl:=HWL.out x (hxe ▸ List.getElem_mem hlt)
   obtain ⟨T,tv,F2,hd⟩:=qO (NB:=NB) HV.out hxl
   have x2 : wr.cell? ⟨nb NB x,2,none⟩ = some (.iface T tv):=by have:=(HOB.out.tree.nodes x hxl).cell 2; rw [hd.val] at this; simpa using this
   have hlook:=hd.look
   have hent:=hd.enter
   have HDG:=F7 hd.goes
   have hn2:=hU HV.out hxl
   have HXE:=F7 hxe
   have HXR:=F7 ((aD HV.out).1 (hxe ▸ List.getElem_mem hlt : x ∈ af g))
   clear hd hxe
   go_wp2_with fail
   refine (HDG.out wr).mono ?_
   rintro e w3 ⟨A3,rfl,b3,hrow⟩
   have HR:=F7 hrow
   have HOWN3:=F7 (aR HOWN.out b3)
   have HB3:=F7 (HB.out.trans (b3.mono HB.out.size))
   clear hlook hent x2 hrow b3 c0 HOB HMB HKB
   go_wp2_with fail
   go_loopw [5,26] (fun pv iv wr => ∃ (p : Nat) (P2 : List (Nat × Nat)),p ≤ (ai g x).length ∧ iv = .int .i64 p ∧ P2.length ≤ 2 * k + p ∧ Hid (P2 = P ++ (((ai g x).take p).filter fun t => K (aH g x t)).map fun t => (x,t)) ∧ Hid (gR wr g w.heap.size pv P2) ∧ Hid (Below w.heap.size w wr) ∧ Hid (NKeep w3 wr)) (fun _ iv _ => (ai g x).length - (intOf iv).toNat)
   case atStart => exact ⟨0,P,Nat.zero_le _,rfl,by omega,(show P = P ++ (((ai g x).take 0).filter fun t => K (aH g x t)).map fun t => (x,t) by simp),HOWN3.out,HB3.out,NKeep.refl _⟩
   case round =>
    obtain ⟨p,P2,hp,rfl,hP2l,HP2,HOWN4,HB4,HB5⟩:=hrel
    have hsz4:=HB4.out.size
    by_cases hpl : p < (ai g x).length
    ·obtain ⟨bb, rfl, hbb, hrowb⟩ := HR.out (by omega)
     obtain ⟨t,hte⟩ : ∃ t,t = (ai g x)[p]:=⟨_,rfl⟩
     have htm : t ∈ ai g x:=hte ▸ List.getElem_mem hpl
     have htl:=bH HV.out hxl htm
     have ct : wr.cell? ⟨bb,p,none⟩ = some (ag NB t):=(by rw [(HB5.out.2 bb _ hrowb).cell,List.getElem?_toArray,List.getElem?_map,List.getElem?_eq_getElem hpl,hte]; rfl)
     have hOR:=HO.out.below HB4.out
     have hMR:=HM.out.keep (HB4.out.block MB HM.out.lt)
     have hKR:=HKS.out.below HB4.out
     have HJ:=F7 (dF NB g x t wr HV.out hOR.tree.nodes hxl htl)
     have HOR:=F7 hOR
     have HMR:=F7 hMR
     have HKR:=F7 hKR
     have HTM:=F7 htm
     have HTE:=F7 hte
     clear hOR hMR hKR htm hte hrowb
     go_wp2_with fail
     refine HJ.out.mono ?_
     rintro e w6 ⟨rfl,b6⟩
     have HB6:=F7 b6
     clear b6
     go_wp2_with fail
     obtain ⟨w7,hw7⟩ : ∃ w7,w7 = w6.alloc (.cells #[.int .u8 (an g x).toNat,.int .u8 (an g t).toNat] 176):=⟨_,rfl⟩
     rw [← hw7]
     have b7 : Below w6.heap.size w6 w7:=by rw [hw7]; exact (Below.refl _ _).alloc (Nat.le_refl _) _
     have s7 : w7.heap.size = w6.heap.size + 1:=by rw [hw7]; simp
     have kJ : Blk w7 w6.heap.size 176 #[.int .u8 (an g x).toNat,.int .u8 (an g t).toNat]:=by rw [hw7]; exact Blk.new w6 _ _
     have b67 : Below wr.heap.size wr w7:=HB6.out.trans (b7.mono HB6.out.size)
     have j0 : w7.cell? ⟨w6.heap.size,0,none⟩ = some (.int .u8 (an g x).toNat):=kJ.cell 0
     have j1 : w7.cell? ⟨w6.heap.size,1,none⟩ = some (.int .u8 (an g t).toNat):=kJ.cell 1
     have c9 : w7.cell? ⟨WB,2,none⟩ = some (.map (some MB)):=(HOR.out.below b67).store.cell 2
     have hM7:=HMR.out.keep (b67.block MB HMR.out.lt)
     have hlk:=fun n => (hM7.keep ((ab w7 n).block MB hM7.lt)).look hxl htl ⟨HXR.out,HTM.out⟩
     have tC:=fun n => Calls.quiet_of_same ((js kb ks (aH g x t) (w7.drewN n) ((HKR.out.below b67).below (ab w7 n)) hkl).mono fun _ _ ⟨p,q⟩ => ⟨p,q.symm⟩)
     have hcv : ∀ n,(convert 22 9 (.slice (some ⟨w6.heap.size,0,none⟩) 2 2)).run Tryz.prog (w7.drewN n) = .ok (.string (jt g (x,t))) (w7.drewN n):=fun n => by
      have:=run_convert_bytes_arg (P:=Tryz.prog) (w:=w7.drewN n) 22 5 Tryz.underlying22 Tryz.underlying5 w6.heap.size 0 2 2 [((an g x).toNat : Int),((an g t).toNat : Int)] rfl (fun i hi => by
       match i,hi with
       | 0,_ => exact j0
       | 1,_ => exact j1) 9 Tryz.underlying9
      rw [zT] at this
      exact this
     have HOWN7:=F7 (aR HOWN4.out b67)
     have HB7:=F7 (HB4.out.trans (b67.mono HB4.out.size))
     have HB57:=F7 (HB5.out.trans (NKeep.of_below b67))
     have HKZ:=F7 (show (ai g x).take (p + 1) = (ai g x).take p ++ [t] by rw [List.take_succ_eq_append_getElem hpl,← HTE.out])
     clear hw7 b7 b67 kJ hM7
     obtain ⟨z,hz⟩ : ∃ z,z = aH g x t:=⟨_,rfl⟩
     rw [← hz] at hlk tC
     have HZ:=F7 (show K (aH g x t) = decide (z ∈ ks) by rw [HKK.out,← hz])
     clear hz
     by_cases hq : z ∈ ks
     ·rw [decide_eq_true hq] at tC
      have HP3:=F7 (show P2 ++ [(x,t)] = P ++ (((ai g x).take (p + 1)).filter fun t => K (aH g x t)).map fun t => (x,t) by
       rw [HKZ.out,List.filter_append,List.map_append,← List.append_assoc,← HP2.out]
       congr 1
       rw [List.filter_cons,HZ.out,decide_eq_true hq]; rfl)
      clear hq
      go_quiet (with_reducible exact tC _)
      have HO8:=F7 (aR HOWN7.out (ab w7 nq))
      have HB8:=F7 (HB7.out.trans ((ab w7 nq).mono HB7.out.size))
      have HB58:=F7 (HB57.out.trans (NKeep.of_below (ab w7 nq)))
      have hcv8:=hcv nq
      have r0 : (w7.drewN nq).cell? ⟨w6.heap.size,0,none⟩ = some (.int .u8 (an g x).toNat):=j0
      obtain ⟨w8,hw8⟩ : ∃ w8,w8 = w7.drewN nq:=⟨_,rfl⟩
      rw [← hw8] at HO8 HB8 HB58 hcv8 r0 ⊢
      have hszq:=HB8.out.size
      obtain ⟨txt,htx⟩ : ∃ txt,txt = jt g (x,t):=⟨_,rfl⟩
      rw [← htx] at hcv8
      have HTX:=F7 htx
      clear hw8 htx hcv tC hlk j0 j1 c9 HOWN7 HB7 HB57
      go_wp2_with (at_builtin; refine wpList_append_own _ rfl _ _ 37 rfl w.heap.size 9 ip (.string ⟨#[]⟩) 1 16 Tryz.underlying37 hip hz0 hz1 hz2 rfl (by decide) _ _ _ rfl (HO8.out.alloc _) ⟨w8.heap.size,0,none⟩ 1 1 [.string txt] rfl rfl ?c1 ?c2 ?c3 ?c4 ?c5 ?_)
      case c1 =>
       intro j u hj
       match j,hj with
       | 0,hj =>
        have hu : Value.string txt = u:=by simpa using hj
        rw [← hu]
        simp [Addr.add]
      case c2 => intro u hu; have hu' : u = .string txt := by simpa using hu
                 subst hu'; rfl
      case c3 => have hlm : (P2.map (jt g)).length = P2.length:=List.length_map _; unfold maxLen; omega
      case c4 => have hlm : (P2.map (jt g)).length = P2.length:=List.length_map _; omega
      case c5 => simp; omega
      intro v' w9 hown' hgrow _
      have hsz:=(HO8.out.alloc (.cells #[.string txt] 9)).lt
      have hB9:=(HB8.out.alloc hszq (.cells #[.string txt] 9)).grown hgrow (by simp; omega) (fun j hj => (hsz j hj).1)
      have HB59:=F7 (HB58.out.trans ((NKeep.of_below ((Below.refl _ w8).alloc (Nat.le_refl _) (.cells #[.string txt] 9))).trans (NKeep.grown (HO8.out.alloc (.cells #[.string txt] 9)) (by decide) hgrow)))
      have HO9 : Hid (gR w9 g w.heap.size v' (P2 ++ [(x,t)])):=by
       show w9.ownsRow w.heap.size 9 1 v' ((P2 ++ [(x,t)]).map (jt g)).length (((P2 ++ [(x,t)]).map (jt g)).map Value.string)
       rw [List.map_append,List.length_append,List.length_map,List.map_append,List.map_map,List.map_singleton,← HTX.out]; exact hown'
      have HB9:=F7 hB9
      clear hown' hsz hgrow hB9
      go_wp2_with fail
      go_roundw
      case rel => exact ⟨p + 1,P2 ++ [(x,t)],by omega,by go_num,by simp; omega,HP3.out,HO9.out,HB9.out,HB59.out⟩
      case measure => simp [intOf]; omega
     ·rw [decide_eq_false hq] at tC
      have HP3:=F7 (show P2 = P ++ (((ai g x).take (p + 1)).filter fun t => K (aH g x t)).map fun t => (x,t) by
       rw [HKZ.out,List.filter_append,List.map_append,← List.append_assoc,← HP2.out,List.filter_cons,HZ.out,decide_eq_false hq]
       simp)
      clear hq
      go_quiet (with_reducible exact tC _)
      have HO8:=F7 (aR HOWN7.out (ab w7 nq))
      have HB8:=F7 (HB7.out.trans ((ab w7 nq).mono HB7.out.size))
      have HB58:=F7 (HB57.out.trans (NKeep.of_below (ab w7 nq)))
      clear hcv tC hlk j0 j1 c9 HOWN7 HB7 HB57
      go_wp2_with fail
      go_roundw
      case rel => exact ⟨p + 1,P2,by omega,by go_num,by omega,HP3.out,HO8.out,HB8.out,HB58.out⟩
      case measure => simp [intOf]; omega
    ·have HE:=F7 (show P2 = ((af g).take (k + 1)).flatMap (cz g K) by
      rw [HP2.out,oE hlt HXE.out,List.take_of_length_le (by omega),HP.out]; rfl)
     go_wp2_with fail
     go_roundw
     case rel => exact ⟨k + 1,P2,by omega,by go_num,by omega,HE.out,HOWN4.out,HB4.out⟩
     case measure => simp [intOf]; omega
  ·have HE := F7 (show P = bD g K by rw [HP.out, List.take_of_length_le (by omega)]; rfl)
   go_wp2_with fail
   go_ret
   exact ⟨_,rfl,by rw [← HE.out]; exact HOWN.out,HB.out⟩
end Go.Proofs.YtlkfakdghjaoaaaGreatDoor
namespace Go.Proofs.YtlkfakdghjaoaaaGreatDoor
open Go.RowKit Go.Sort Go.Shelf Go.Maps Go.WideMaps
attribute [local go_sem] Oper.semAt_some
end Go.Proofs.YtlkfakdghjaoaaaGreatDoor
namespace Go.Proofs.YtlkfakdghjaoaaaGreatDoor
open Go.RowKit Go.Sort Go.Shelf Go.Maps Go.WideMaps
attribute [local go_sem] Oper.semAt_some
end Go.Proofs.YtlkfakdghjaoaaaGreatDoor
namespace Go.Proofs.YtlkfakdghjaoaaaGreatDoor
open Go.RowKit Go.Sort Go.Shelf
end Go.Proofs.YtlkfakdghjaoaaaGreatDoor
namespace Go.Proofs.YtlkfakdghjaoaaaGreatDoor
open Go.RowKit Go.Sort
theorem pw (WB tb NB MB cap : Nat) (A : Option Addr) (g : List Bl) (B off tcap : Nat) (S : Nat → Nat) (w : World) (hv : aa g = true)
  (hO : OrdAt w WB tb NB MB A cap g B off tcap S) (hM : KMap w g MB 52 (fun i t => Rch g [] i ∧ t ∈ ai g i)) :
  Calls Tryz.prog 65 #[.pointer (some ⟨WB,0,none⟩)] w fun e w' => e = .returned (.bool (decide ((bD g c6).length = 0))) ∧ Below w.heap.size w w':=by
 have b1:=(Below.refl w.heap.size w).alloc (Nat.le_refl _) (.cells #[.int .i64 2] 90)
 have k1 : KindsAt (w.alloc (.cells #[.int .i64 2] 90)) w.heap.size [2]:=Blk.new w _ _
 have HJ:=F7 (wF c6 [2] w.heap.size zJ (by decide) WB tb NB MB cap A g B off tcap S _ hv (hO.below b1) (hM.keep (b1.block MB hM.lt)) k1)
 have HB:=F7 b1
 clear hO hM hv b1 k1
 go_enter Tryz.func65,Tryz.ntmps65
 go_wp2_with fail
 refine HJ.out.mono ?_
 rintro e w2 ⟨v,rfl,hown,hb⟩
 have HB2:=F7 (HB.out.trans (hb.mono HB.out.size))
 obtain ⟨A2,cap2,rfl,-⟩:=gZ hown
 clear hb hown
 simp only [List.length_map]
 by_cases hz : (bD g c6).length = 0
 ·have hzI : (((bD g c6).length : Int) == 0) = true := by rw [hz]; rfl
  have HZ:=F7 hz
  clear hz
  go_wp2_with fail
  go_ret
  exact ⟨gE (by rw [decide_eq_true HZ.out]),HB2.out⟩
 ·have hzI : (((bD g c6).length : Int) == 0) = false:=beq_eq_false_iff_ne.2 fun e => hz (Int.ofNat.inj e)
  have HZ:=F7 hz
  clear hz
  go_wp2_with fail
  go_ret
  exact ⟨gE (by rw [decide_eq_false HZ.out]),HB2.out⟩
theorem AK (WB tb NB MB cap : Nat) (A : Option Addr) (g : List Bl) (B off tcap : Nat) (S : Nat → Nat) (w : World) (hv : aa g = true)
  (hO : OrdAt w WB tb NB MB A cap g B off tcap S) (hM : KMap w g MB 52 (fun i t => Rch g [] i ∧ t ∈ ai g i)) :
  Calls Tryz.prog 68 #[.pointer (some ⟨WB,0,none⟩)] w fun e w' => ∃ v,e = .returned v ∧ w'.ownsRow w.heap.size 95 1 v (aw g).length ((aw g).map (ag NB)) ∧ Below w.heap.size w w':=by
 have b1:=(Below.refl w.heap.size w).alloc (Nat.le_refl _) (.cells #[.int .i64 0] 90)
 have k1 : KindsAt (w.alloc (.cells #[.int .i64 0] 90)) w.heap.size [0]:=Blk.new w _ _
 have HG:=F7 (oC 2 dx [0] w.heap.size B4 (by decide) WB tb NB MB cap A g B off tcap S _ hv (hO.below b1) (hM.keep (b1.block MB hM.lt)) k1)
 have HB:=F7 b1
 clear hO hM hv b1 k1
 go_enter Tryz.func68,Tryz.ntmps68
 go_wp2_with fail
 refine HG.out.mono ?_
 rintro e w2 ⟨v,rfl,hown,hb⟩
 have HW:=F7 hown
 have HB2:=F7 (HB.out.trans (hb.mono HB.out.size))
 clear hown hb
 go_wp2_with fail
 go_ret
 refine ⟨_,rfl,?_,HB2.out⟩
 exact nc HW.out (by simp)
theorem rx (A : Option Addr) (cap : Nat) (g : List Bl) (w : World) (hg : Gr w A g) (hn : g.length + aM g ≤ 1048576) :
  Calls Tryz.prog 22 #[.slice A g.length cap] w fun e w' => e = .returned (.bool (df g)) ∧ Below w.heap.size w w':=by
 by_cases hv : aa g = true
 ·have HC:=F7 (ia A cap g w hg hn hv)
  have HV:=F7 hv
  clear hg hv
  go_enter Tryz.func22,Tryz.ntmps22
  go_wp2_with fail
  refine HC.out.mono ?_
  rintro e w1 ⟨WB,tb,NB,MB,A2,cap2,B,off,tcap,S,_,rfl,hO,hM,b1⟩
  have HT:=F7 (pw WB tb NB MB cap2 A2 g B off tcap S w1 HV.out hO hM)
  have HB1:=F7 b1
  clear hO hM b1
  go_wp2_with fail
  refine HT.out.mono ?_
  rintro e w2 ⟨rfl,b2⟩
  have HB2:=F7 (HB1.out.trans (b2.mono HB1.out.size))
  clear b2
  go_wp2_with fail
  go_ret
  exact ⟨gE (by unfold df; rw [HV.out]; simp),HB2.out⟩
 ·have hv : aa g = false := by simpa using hv
  have HC:=F7 (mL A cap g w hg hn hv)
  have HV:=F7 hv
  clear hg hv
  go_enter Tryz.func22,Tryz.ntmps22
  go_wp2_with fail
  refine HC.out.mono ?_
  rintro e w1 ⟨WB,tb,mv,rfl,_,_,b1⟩
  have HB1:=F7 b1
  clear b1
  go_wp2_with fail
  go_ret
  exact ⟨gE (by unfold df; rw [HV.out]; rfl),HB1.out⟩
end Go.Proofs.YtlkfakdghjaoaaaGreatDoor
