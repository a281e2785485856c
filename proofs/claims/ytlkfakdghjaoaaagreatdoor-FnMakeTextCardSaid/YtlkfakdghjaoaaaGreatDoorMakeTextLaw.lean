import Derived.Test.YtlkfakdghjaoaaaGreatDoorJ17
import Derived.Test.YtlkfakdghjaoaaaGreatDoorMadeSaid
import Derived.Test.YtlkfakdghjaoaaaGreatDoorJ11
import Derived.Test.YtlkfakdghjaoaaaGreatDoorJ14
set_option maxRecDepth 100000
set_option maxHeartbeats 6400000
namespace Go.Proofs.YtlkfakdghjaoaaaGreatDoor
open Go.RowKit Go.Sort
theorem tl (A : Option Addr) (la ca : Nat) (w : World) (hA : Bytes w A la) (h1 : la ≤ ca) (h3 : ca ≤ 9223372036854775807) :
  Calls Tryz.prog 3 #[.slice A la ca] w fun e w' => e = .returned (.bool true) ∧ Below w.heap.size w w':=by
 by_cases g1 : (1048576 : Int) < la
 ·clear hA
  go_enter Tryz.func3,Tryz.ntmps3
  go_wp2_with fail
  go_ret
  exact ⟨rfl,Below.refl _ _⟩
 have HA:=F7 (pb A la ca w hA h1 h3)
 clear hA
 go_enter Tryz.func3,Tryz.ntmps3
 go_wp2_with fail
 refine HA.out.mono ?_
 intro e w1 hd1
 obtain ⟨A1,c1,g,rfl,hc1,gg,hn1,b1⟩:=Cg hd1
 have HB1:=F7 b1
 have HG1:=F7 gg
 clear hd1 b1 gg
 obtain ⟨mb,hmb⟩ : ∃ x,x = aU g:=⟨_,rfl⟩
 obtain ⟨mv,hmv⟩ : ∃ x,x = fH g:=⟨_,rfl⟩
 obtain ⟨mn,hmn⟩ : ∃ x,x = ja g:=⟨_,rfl⟩
 have HMI:=F7 (fun W (h : Gr W A1 g) => (hmv ▸ hmb ▸ jB A1 c1 g W h (by omega) : Calls Tryz.prog 12 #[.slice A1 g.length c1] W fun e w' => e = .returned (.tuple #[.string mv,.bool mb]) ∧ Below W.heap.size W w'))
 have HMS:=F7 (fun W (h : Gr W A1 g) => (hmv ▸ hmb ▸ jC A1 c1 g W h (by omega) hc1 : Calls Tryz.prog 13 #[.slice A1 g.length c1] W fun e w' => e = .returned (.tuple #[.string mv,.bool mb]) ∧ Below W.heap.size W w'))
 have HCI:=F7 (fun W (h : Gr W A1 g) => (hmb ▸ qg A1 c1 g W h (by omega) : Calls Tryz.prog 14 #[.slice A1 g.length c1] W fun e w' => e = .returned (.bool mb) ∧ Below W.heap.size W w'))
 have HLI:=F7 (fun W (h : Gr W A1 g) => (hmn ▸ nl A1 c1 g W h (by omega) : Calls Tryz.prog 15 #[.slice A1 g.length c1] W fun e w' => e = .returned (.int .i64 mn) ∧ Below W.heap.size W w'))
 have HLS:=F7 (fun W (h : Gr W A1 g) => (hmn ▸ nr A1 c1 g W h (by omega) hc1 : Calls Tryz.prog 16 #[.slice A1 g.length c1] W fun e w' => e = .returned (.int .i64 mn) ∧ Below W.heap.size W w'))
 have q1 : (mb == mb) = true:=by simp
 have q2 : (mb != mb) = false:=by simp
 have q3 : (mv.toList == mv.toList) = true:=by simp
 have q4 : (mv.toList != mv.toList) = false:=by simp
 have q5 : (mn == mn) = true:=by simp
 have q6 : (mn != mn) = false:=by simp
 have HMB:=F7 hmb
 have HMV:=F7 hmv
 have HMN:=F7 hmn
 clear hmb hmv hmn
 go_wp2_with fail
 refine (HMI.out w1 HG1.out).mono ?_
 rintro e w2 ⟨rfl,b2⟩
 have HG2:=F7 (HG1.out.below b2)
 have HB2:=F7 (ac HB1.out b2)
 clear b2
 go_wp2_with fail
 refine (HMS.out w2 HG2.out).mono ?_
 rintro e w3 ⟨rfl,b3⟩
 have HG3:=F7 (HG2.out.below b3)
 have HB3:=F7 (ac HB2.out b3)
 clear b3
 go_wp2_with fail
 refine (HCI.out w3 HG3.out).mono ?_
 rintro e w4 ⟨rfl,b4⟩
 have HG4:=F7 (HG3.out.below b4)
 have HB4:=F7 (ac HB3.out b4)
 clear b4
 go_wp2_with fail
 refine (HLI.out w4 HG4.out).mono ?_
 rintro e w5 ⟨rfl,b5⟩
 have HG5:=F7 (HG4.out.below b5)
 have HB5:=F7 (ac HB4.out b5)
 clear b5
 go_wp2_with fail
 refine (HLS.out w5 HG5.out).mono ?_
 rintro e w6 ⟨rfl,b6⟩
 have HG6:=F7 (HG5.out.below b6)
 have HB6:=F7 (ac HB5.out b6)
 clear b6
 cases mb with
 | false =>
  have q0 : mv.toList = []:=by rw [HMV.out]; unfold fH; rw [if_neg (by rw [← HMB.out]; simp),Lib.toList_data]
  obtain rfl : mn = -1:=by rw [HMN.out]; unfold ja; rw [if_neg (by rw [← HMB.out]; simp)]
  go_wp2_with fail
  refine (HLI.out w6 HG6.out).mono ?_
  rintro e w7 ⟨rfl,b7⟩
  have HB7:=F7 (ac HB6.out b7)
  clear b7
  go_wp2_with fail
  go_ret
  exact ⟨rfl,HB7.out⟩
 | true =>
  have hb : aU g = true:=HMB.out.symm
  have ht:=dt hb
  have hv:=(cH.1 ht).1
  have hsm : mv.size ≤ 416:=by rw [HMV.out]; exact kr g
  have hmt : mv = tb (aT g):=by rw [HMV.out]; unfold fH; rw [if_pos hb]
  obtain rfl : mn = (mv.size : Int):=by rw [HMN.out,HMV.out]; unfold ja; rw [if_pos hb]
  obtain ⟨n1,n2,n3⟩:=wu hb
  obtain ⟨bv,hbv⟩ : ∃ x,x = dp (aT g):=⟨_,rfl⟩
  obtain ⟨rs,hrs⟩ : ∃ x,x = lf g:=⟨_,rfl⟩
  have hre : rs = ae g (aj g):=by rw [hrs]; exact qH hv
  have hrl : ∀ i ∈ aj g,i < g.length:=fun i hi => qG (g:=g) (l:=bM g) (Nat.le_refl _) i hi
  have hrz : rs.size = (aj g).length:=by rw [hre]; exact ax hv _ hrl
  have hr26 : rs.size ≤ 26:=by rw [hrz]; exact bS hv
  have hbz : (tb bv).size = rs.size:=by rw [hbv,n1,hrz]
  have HBI : Hid (∀ W,Calls Tryz.prog 17 #[.string mv] W fun e w' => ∃ b,e = .returned (.tuple #[.string (tb bv),.bool b]) ∧ Below W.heap.size W w'):=fun W => by
   have:=jo (aT g) W
   rw [← hmt] at this
   refine this.mono ?_
   intro e w' h
   rw [hbv]
   obtain ⟨he,hb'⟩:=h
   exact ⟨_,he,hb'⟩
  have HRI:=F7 (fun W (h : Gr W A1 g) => (by have:=qy A1 c1 g W h (by omega); rw [← hrs,hv] at this; exact this : Calls Tryz.prog 18 #[.slice A1 g.length c1] W fun e w' => e = .returned (.tuple #[.string rs,.bool true]) ∧ Below W.heap.size W w'))
  have HSR : Hid (∀ W,Gr W A1 g → Calls Tryz.prog 20 #[.slice A1 g.length c1,.string mv] W fun e w' => e = .returned (.bool true) ∧ Below W.heap.size W w'):=fun W h => by
   have:=pA A1 c1 g (aT g) W h (by omega)
   rw [← hmt] at this
   refine this.mono ?_
   rintro e w' ⟨r,hr,rfl,hb'⟩
   have:=hr.uniq (DK hb)
   subst this
   have h2 : dw (aT g) = true:=by
    unfold aU at hb
    exact (Bool.and_eq_true_iff.1 hb).2
   unfold l8
   rw [hv,h2]
   exact ⟨rfl,hb'⟩
  have HEO:=F7 (fun W => (by have:=pr (aT g) W; rw [← hmt,Ak hb] at this; exact this : Calls Tryz.prog 21 #[.string mv] W fun e w' => e = .returned (.bool true) ∧ Below W.heap.size W w'))
  have HUN:=F7 (fun W => (by have:=nB (aT g) W; rw [← hmt,yF hb] at this; exact this : Calls Tryz.prog 23 #[.string mv] W fun e w' => e = .returned (.bool false) ∧ Below W.heap.size W w'))
  have HIT:=F7 (fun W (h : Gr W A1 g) => (ht ▸ rx A1 c1 g W h (by omega) : Calls Tryz.prog 22 #[.slice A1 g.length c1] W fun e w' => e = .returned (.bool true) ∧ Below W.heap.size W w'))
  have HHAS:=F7 (fun i (hi : i < rs.size) => show mS (tb bv) (rs.extract i (i + 1)) = true from by
   have hi' : i < (aj g).length:=by omega
   rw [hre,ui hv hrl hi',hbv]
   exact n3 _ ((aN hv).1 (List.getElem_mem hi')))
  have HBZ:=F7 hbz
  have hbz2 : (tb bv).size ≤ 26:=by omega
  clear hb ht hv hmt n1 n2 n3 hbv hrs hre hrl hrz hbz
  obtain ⟨bs,hbs⟩ : ∃ x,x = tb bv:=⟨_,rfl⟩
  rw [← hbs] at HBI HHAS HBZ hbz2
  clear hbs
  have q7 : decide ((mv.size : Int) = mv.size) = true:=by simp
  go_wp2_with fail
  refine (HLI.out w6 HG6.out).mono ?_
  rintro e w7 ⟨rfl,b7⟩
  have HG7:=F7 (HG6.out.below b7)
  have HB7:=F7 (ac HB6.out b7)
  clear b7
  go_wp2_with fail
  refine (HBI.out w7).mono ?_
  rintro e w8 ⟨bb,rfl,b8⟩
  have HG8:=F7 (HG7.out.below b8)
  have HB8:=F7 (ac HB7.out b8)
  clear b8
  go_wp2_with fail
  refine (HRI.out w8 HG8.out).mono ?_
  rintro e w9 ⟨rfl,b9⟩
  have HG9:=F7 (HG8.out.below b9)
  have HB9:=F7 (ac HB8.out b9)
  clear b9
  go_wp2_with fail
  go_loop [80] (fun iv => ∃ i : Nat,i ≤ rs.size ∧ iv = .int .i64 i) (fun iv => rs.size - (intOf iv).toNat)
  case atStart => exact ⟨0,Nat.zero_le _,rfl⟩
  case round =>
   obtain ⟨i,hi,rfl⟩:=hrel
   by_cases hlt : i < rs.size
   ·have hi1 : i + 1 ≤ rs.size := by omega
    have tB:=F7 (by have:=zw bs (rs.extract i (i + 1)) w9 (by omega); rw [HHAS.out i hlt] at this; exact this : Calls Tryz.prog 19 #[.string bs,.string (rs.extract i (i + 1))] w9 fun e w' => e = .returned (.bool true) ∧ w9 = w')
    go_wp2_with fail
    refine tB.out.mono ?_
    rintro e w' ⟨rfl,rfl⟩
    go_wp2_with fail
    go_round
    case rel => exact ⟨i + 1,by omega,by go_num⟩
    case measure => simp [intOf]; omega
   ·have z1 : ((bs.size : Int) == (rs.size : Int)) = true := by rw [HBZ.out]; simp
    have z2 : decide ((bs.size : Int) = (rs.size : Int)) = true:=by rw [HBZ.out]; simp
    go_wp2_with fail
    refine (HSR.out w9 HG9.out).mono ?_
    rintro e w10 ⟨rfl,b10⟩
    have HG10:=F7 (HG9.out.below b10)
    have HB10:=F7 (ac HB9.out b10)
    clear b10
    go_wp2_with fail
    refine (HEO.out w10).mono ?_
    rintro e w11 ⟨rfl,b11⟩
    have HG11:=F7 (HG10.out.below b11)
    have HB11:=F7 (ac HB10.out b11)
    clear b11
    go_wp2_with fail
    refine (HIT.out w11 HG11.out).mono ?_
    rintro e w12 ⟨rfl,b12⟩
    have HB12:=F7 (ac HB11.out b12)
    clear b12
    go_wp2_with fail
    refine (HUN.out w12).mono ?_
    rintro e w13 ⟨rfl,b13⟩
    have HB13:=F7 (ac HB12.out b13)
    clear b13
    go_wp2_with fail
    go_ret
    exact ⟨rfl,HB13.out⟩
end Go.Proofs.YtlkfakdghjaoaaaGreatDoor
