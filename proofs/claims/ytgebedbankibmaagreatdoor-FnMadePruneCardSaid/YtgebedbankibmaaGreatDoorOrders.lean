/-
  The jumps of some kinds as texts, in the way order.
-/
import Derived.Test.YtgebedbankibmaaGreatDoorGoals
import Derived.Test.YtgebedbankibmaaGreatDoorKinds
import Derived.Test.YtgebedbankibmaaGreatDoorOwnStr
import Derived.Laws.BytesArg
namespace Go.Proofs.YtgebedbankibmaaGreatDoor
open Go.RowKit Go.Sort Go.Shelf Go.Maps Go.WideMaps

attribute [local go_sem] Oper.semAt_some

set_option maxRecDepth 100000 in
set_option maxHeartbeats 4000000 in
theorem jumpsOf_own (K : Nat → Bool) (ks : List Nat) (kb : Nat) (hK : ∀ k, K k = decide (k ∈ ks)) (hkl : ks.length ≤ 8) (WB tb NB MB cap : Nat) (A : Option Addr) (g : List Bl) (B off tcap : Nat) (S : Nat → Nat) (w : World) (hv : validB g = true)
    (hO : OrdAt w WB tb NB MB A cap g B off tcap S) (hM : KMap w g MB 52 (fun i t => Rch g [] i ∧ t ∈ nxt g i)) (hks : KindsAt w kb ks) :
    Calls Tryz.prog 66 #[.pointer (some ⟨WB, 0, none⟩), .slice (some ⟨kb, 0, none⟩) ks.length ks.length] w fun e w' => ∃ v, e = .returned v ∧ OwnJ w' g w.heap.size v (jumpL g K) ∧ Below w.heap.size w w' := by
  have h26 := (valid_iff.1 hv).2.1
  have hwl := wayOrd_len hv
  have hws : (wayOrd g).length ≤ 26 := by omega
  obtain ⟨ip, hip, hz0, hz1, hz2⟩ := info_parts info_str
  have cW := hO.store.cell 1
  have HO := Lib.hid hO
  have HM := Lib.hid hM
  have HKS := Lib.hid hks
  have HV := Lib.hid hv
  have HKK := Lib.hid hK
  have HWL := Lib.hid (wayOrd_lt hv)
  clear hO hM hks hv hK hwl
  go_enter Tryz.func66, Tryz.ntmps66
  go_wp2_with fail
  go_loopw [5, 16] (fun pv iv wr => ∃ (k : Nat) (P : List (Nat × Nat)), k ≤ (wayOrd g).length ∧ iv = .int .i64 k ∧ P.length ≤ 2 * k ∧ Hid (P = ((wayOrd g).take k).flatMap (jumpsOf1 g K)) ∧ Hid (OwnJ wr g w.heap.size pv P) ∧ Hid (Below w.heap.size w wr)) (fun _ iv _ => (wayOrd g).length - (intOf iv).toNat)
  case atStart => exact ⟨0, [], Nat.zero_le _, rfl, by simp, (show ([] : List (Nat × Nat)) = ((wayOrd g).take 0).flatMap (jumpsOf1 g K) by simp), World.ownsRow_nil _ _ _ _, Below.refl _ _⟩
  case round =>
    obtain ⟨k, P, hk, rfl, hPl, HP, HOWN, HB⟩ := hrel
    have hsz0 := HB.out.size
    have HOB := Lib.hid (HO.out.below HB.out)
    have HMB := Lib.hid (HM.out.keep (HB.out.block MB HM.out.lt))
    have HKB := Lib.hid (HKS.out.below HB.out)
    by_cases hlt : k < (wayOrd g).length
    · obtain ⟨b0, o0, rfl, c0⟩ := HOB.out.at_ hlt
      obtain ⟨x, hxe⟩ : ∃ x, x = (wayOrd g)[k] := ⟨_, rfl⟩
      rw [← hxe] at c0
      have hxl := HWL.out x (hxe ▸ List.getElem_mem hlt)
      obtain ⟨T, tv, F2, hd⟩ := disp2 (NB := NB) HV.out hxl
      have x2 : wr.cell? ⟨nb NB x, 2, none⟩ = some (.iface T tv) := by have := (HOB.out.tree.nodes x hxl).cell 2; rw [hd.val] at this; simpa using this
      have hlook := hd.look
      have hent := hd.enter
      have HDG := Lib.hid hd.goes
      have hn2 := nxt_two HV.out hxl
      have HXE := Lib.hid hxe
      have HXR := Lib.hid ((mem_wayOrd HV.out).1 (hxe ▸ List.getElem_mem hlt : x ∈ wayOrd g))
      clear hd hxe
      go_wp2_with fail
      refine (HDG.out wr).mono ?_
      rintro e w3 ⟨A3, rfl, b3, hrow⟩
      have HR := Lib.hid hrow
      have HOWN3 := Lib.hid (own_below HOWN.out b3)
      have HB3 := Lib.hid (HB.out.trans (b3.mono HB.out.size))
      clear hlook hent x2 hrow b3 c0 HOB HMB HKB
      go_wp2_with fail
      go_loopw [5, 26] (fun pv iv wr => ∃ (p : Nat) (P2 : List (Nat × Nat)), p ≤ (nxt g x).length ∧ iv = .int .i64 p ∧ P2.length ≤ 2 * k + p ∧ Hid (P2 = P ++ (((nxt g x).take p).filter fun t => K (kindN g x t)).map fun t => (x, t)) ∧ Hid (OwnJ wr g w.heap.size pv P2) ∧ Hid (Below w.heap.size w wr) ∧ Hid (NKeep w3 wr)) (fun _ iv _ => (nxt g x).length - (intOf iv).toNat)
      case atStart => exact ⟨0, P, Nat.zero_le _, rfl, by omega, (show P = P ++ (((nxt g x).take 0).filter fun t => K (kindN g x t)).map fun t => (x, t) by simp), HOWN3.out, HB3.out, NKeep.refl _⟩
      case round =>
        obtain ⟨p, P2, hp, rfl, hP2l, HP2, HOWN4, HB4, HB5⟩ := hrel
        have hsz4 := HB4.out.size
        by_cases hpl : p < (nxt g x).length
        · obtain ⟨bb, rfl, hbb, hrowb⟩ := HR.out (by omega)
          obtain ⟨t, hte⟩ : ∃ t, t = (nxt g x)[p] := ⟨_, rfl⟩
          have htm : t ∈ nxt g x := hte ▸ List.getElem_mem hpl
          have htl := nxt_lt HV.out hxl htm
          have ct : wr.cell? ⟨bb, p, none⟩ = some (nptr NB t) := (by rw [(HB5.out.2 bb _ hrowb).cell, List.getElem?_toArray, List.getElem?_map, List.getElem?_eq_getElem hpl, hte]; rfl)
          have hOR := HO.out.below HB4.out
          have hMR := HM.out.keep (HB4.out.block MB HM.out.lt)
          have hKR := HKS.out.below HB4.out
          have HJ := Lib.hid (jumpBetween_any NB g x t wr HV.out hOR.tree.nodes hxl htl)
          have HOR := Lib.hid hOR
          have HMR := Lib.hid hMR
          have HKR := Lib.hid hKR
          have HTM := Lib.hid htm
          have HTE := Lib.hid hte
          clear hOR hMR hKR htm hte hrowb
          go_wp2_with fail
          refine HJ.out.mono ?_
          rintro e w6 ⟨rfl, b6⟩
          have HB6 := Lib.hid b6
          clear b6
          go_wp2_with fail
          obtain ⟨w7, hw7⟩ : ∃ w7, w7 = w6.alloc (.cells #[.int .u8 (letC g x).toNat, .int .u8 (letC g t).toNat] 167) := ⟨_, rfl⟩
          rw [← hw7]
          have b7 : Below w6.heap.size w6 w7 := by rw [hw7]; exact (Below.refl _ _).alloc (Nat.le_refl _) _
          have s7 : w7.heap.size = w6.heap.size + 1 := by rw [hw7]; simp
          have kJ : Blk w7 w6.heap.size 167 #[.int .u8 (letC g x).toNat, .int .u8 (letC g t).toNat] := by rw [hw7]; exact Blk.new w6 _ _
          have b67 : Below wr.heap.size wr w7 := HB6.out.trans (b7.mono HB6.out.size)
          have j0 : w7.cell? ⟨w6.heap.size, 0, none⟩ = some (.int .u8 (letC g x).toNat) := kJ.cell 0
          have j1 : w7.cell? ⟨w6.heap.size, 1, none⟩ = some (.int .u8 (letC g t).toNat) := kJ.cell 1
          have c9 : w7.cell? ⟨WB, 2, none⟩ = some (.map (some MB)) := (HOR.out.below b67).store.cell 2
          have hM7 := HMR.out.keep (b67.block MB HMR.out.lt)
          have hlk := fun n => (hM7.keep ((below_drewN w7 n).block MB hM7.lt)).look hxl htl ⟨HXR.out, HTM.out⟩
          have tC := fun n => Calls.quiet_of_same ((containsKind_any kb ks (kindN g x t) (w7.drewN n) ((HKR.out.below b67).below (below_drewN w7 n)) hkl).mono fun _ _ ⟨p, q⟩ => ⟨p, q.symm⟩)
          have hcv : ∀ n, (convert 22 9 (.slice (some ⟨w6.heap.size, 0, none⟩) 2 2)).run Tryz.prog (w7.drewN n) = .ok (.string (jt g (x, t))) (w7.drewN n) := fun n => by
            have := run_convert_bytes_arg (P := Tryz.prog) (w := w7.drewN n) 22 5 Tryz.underlying22 Tryz.underlying5 w6.heap.size 0 2 2 [((letC g x).toNat : Int), ((letC g t).toNat : Int)] rfl (fun i hi => by
              match i, hi with
              | 0, _ => exact j0
              | 1, _ => exact j1) 9 Tryz.underlying9
            rw [two_bytes] at this
            exact this
          have HOWN7 := Lib.hid (own_below HOWN4.out b67)
          have HB7 := Lib.hid (HB4.out.trans (b67.mono HB4.out.size))
          have HB57 := Lib.hid (HB5.out.trans (NKeep.of_below b67))
          have HKZ := Lib.hid (show (nxt g x).take (p + 1) = (nxt g x).take p ++ [t] by rw [List.take_succ_eq_append_getElem hpl, ← HTE.out])
          clear hw7 b7 b67 kJ hM7
          obtain ⟨z, hz⟩ : ∃ z, z = kindN g x t := ⟨_, rfl⟩
          rw [← hz] at hlk tC
          have HZ := Lib.hid (show K (kindN g x t) = decide (z ∈ ks) by rw [HKK.out, ← hz])
          clear hz
          by_cases hq : z ∈ ks
          · rw [decide_eq_true hq] at tC
            have HP3 := Lib.hid (show P2 ++ [(x, t)] = P ++ (((nxt g x).take (p + 1)).filter fun t => K (kindN g x t)).map fun t => (x, t) by
              rw [HKZ.out, List.filter_append, List.map_append, ← List.append_assoc, ← HP2.out]
              congr 1
              rw [List.filter_cons, HZ.out, decide_eq_true hq]; rfl)
            clear hq
            go_quiet (with_reducible exact tC _)
            have HO8 := Lib.hid (own_below HOWN7.out (below_drewN w7 nq))
            have HB8 := Lib.hid (HB7.out.trans ((below_drewN w7 nq).mono HB7.out.size))
            have HB58 := Lib.hid (HB57.out.trans (NKeep.of_below (below_drewN w7 nq)))
            have hcv8 := hcv nq
            have r0 : (w7.drewN nq).cell? ⟨w6.heap.size, 0, none⟩ = some (.int .u8 (letC g x).toNat) := j0
            obtain ⟨w8, hw8⟩ : ∃ w8, w8 = w7.drewN nq := ⟨_, rfl⟩
            rw [← hw8] at HO8 HB8 HB58 hcv8 r0 ⊢
            have hszq := HB8.out.size
            obtain ⟨txt, htx⟩ : ∃ txt, txt = jt g (x, t) := ⟨_, rfl⟩
            rw [← htx] at hcv8
            have HTX := Lib.hid htx
            clear hw8 htx hcv tC hlk j0 j1 c9 HOWN7 HB7 HB57
            go_wp2_with (at_builtin; refine wpList_append_own _ rfl _ _ 82 rfl w.heap.size 9 ip (.string ⟨#[]⟩) 1 16 Tryz.underlying82 hip hz0 hz1 hz2 rfl (by decide) _ _ _ rfl (HO8.out.alloc _) ⟨w8.heap.size, 0, none⟩ 1 1 [.string txt] rfl rfl ?c1 ?c2 ?c3 ?c4 ?c5 ?_)
            case c1 =>
              intro j u hj
              match j, hj with
              | 0, hj =>
                have hu : Value.string txt = u := by simpa using hj
                rw [← hu]
                simp [Addr.add]
            case c2 => intro u hu; have hu' : u = .string txt := by simpa using hu
                       subst hu'; rfl
            case c3 => have hlm : (P2.map (jt g)).length = P2.length := List.length_map _; unfold maxLen; omega
            case c4 => have hlm : (P2.map (jt g)).length = P2.length := List.length_map _; omega
            case c5 => simp; omega
            intro v' w9 hown' hgrow _
            have hsz := (HO8.out.alloc (.cells #[.string txt] 9)).lt
            have hB9 := (HB8.out.alloc hszq (.cells #[.string txt] 9)).grown hgrow (by simp; omega) (fun j hj => (hsz j hj).1)
            have HB59 := Lib.hid (HB58.out.trans ((NKeep.of_below ((Below.refl _ w8).alloc (Nat.le_refl _) (.cells #[.string txt] 9))).trans (NKeep.grown (HO8.out.alloc (.cells #[.string txt] 9)) (by decide) hgrow)))
            have HO9 : Hid (OwnJ w9 g w.heap.size v' (P2 ++ [(x, t)])) := by
              show w9.ownsRow w.heap.size 9 1 v' ((P2 ++ [(x, t)]).map (jt g)).length (((P2 ++ [(x, t)]).map (jt g)).map Value.string)
              rw [List.map_append, List.length_append, List.length_map, List.map_append, List.map_map, List.map_singleton, ← HTX.out]; exact hown'
            have HB9 := Lib.hid hB9
            clear hown' hsz hgrow hB9
            go_wp2_with fail
            go_roundw
            case rel => exact ⟨p + 1, P2 ++ [(x, t)], by omega, by go_num, by simp; omega, HP3.out, HO9.out, HB9.out, HB59.out⟩
            case measure => simp [intOf]; omega
          · rw [decide_eq_false hq] at tC
            have HP3 := Lib.hid (show P2 = P ++ (((nxt g x).take (p + 1)).filter fun t => K (kindN g x t)).map fun t => (x, t) by
              rw [HKZ.out, List.filter_append, List.map_append, ← List.append_assoc, ← HP2.out, List.filter_cons, HZ.out, decide_eq_false hq]
              simp)
            clear hq
            go_quiet (with_reducible exact tC _)
            have HO8 := Lib.hid (own_below HOWN7.out (below_drewN w7 nq))
            have HB8 := Lib.hid (HB7.out.trans ((below_drewN w7 nq).mono HB7.out.size))
            have HB58 := Lib.hid (HB57.out.trans (NKeep.of_below (below_drewN w7 nq)))
            clear hcv tC hlk j0 j1 c9 HOWN7 HB7 HB57
            go_wp2_with fail
            go_roundw
            case rel => exact ⟨p + 1, P2, by omega, by go_num, by omega, HP3.out, HO8.out, HB8.out, HB58.out⟩
            case measure => simp [intOf]; omega
        · have HE := Lib.hid (show P2 = ((wayOrd g).take (k + 1)).flatMap (jumpsOf1 g K) by
            rw [HP2.out, jumps_round hlt HXE.out, List.take_of_length_le (by omega), HP.out]; rfl)
          go_wp2_with fail
          go_roundw
          case rel => exact ⟨k + 1, P2, by omega, by go_num, by omega, HE.out, HOWN4.out, HB4.out⟩
          case measure => simp [intOf]; omega
    · have HE := Lib.hid (show P = jumpL g K by rw [HP.out, List.take_of_length_le (by omega)]; rfl)
      go_wp2_with fail
      go_ret
      exact ⟨_, rfl, by rw [← HE.out]; exact HOWN.out, HB.out⟩
end Go.Proofs.YtgebedbankibmaaGreatDoor

/-
  Contracts of the program's OrderOf, BackJumps, WildJumps.
-/
namespace Go.Proofs.YtgebedbankibmaaGreatDoor
open Go.RowKit Go.Sort Go.Shelf Go.Maps Go.WideMaps

attribute [local go_sem] Oper.semAt_some


end Go.Proofs.YtgebedbankibmaaGreatDoor

/-
  Contracts of the program's HeadersOf and MeetsOf.
-/
namespace Go.Proofs.YtgebedbankibmaaGreatDoor
open Go.RowKit Go.Sort Go.Shelf Go.Maps Go.WideMaps

attribute [local go_sem] Oper.semAt_some

end Go.Proofs.YtgebedbankibmaaGreatDoor

/-
  Contract of the program's IsTame.
-/
namespace Go.Proofs.YtgebedbankibmaaGreatDoor
open Go.RowKit Go.Sort Go.Shelf

end Go.Proofs.YtgebedbankibmaaGreatDoor

/-
  The program's methods tame and meets of a way order, and IsTame and MeetsOf by them.
-/
namespace Go.Proofs.YtgebedbankibmaaGreatDoor
open Go.RowKit Go.Sort

theorem tame_own (WB tb NB MB cap : Nat) (A : Option Addr) (g : List Bl) (B off tcap : Nat) (S : Nat → Nat) (w : World) (hv : validB g = true)
    (hO : OrdAt w WB tb NB MB A cap g B off tcap S) (hM : KMap w g MB 52 (fun i t => Rch g [] i ∧ t ∈ nxt g i)) :
    Calls Tryz.prog 38 #[.pointer (some ⟨WB, 0, none⟩)] w fun e w' => e = .returned (.bool (decide ((jumpL g wildK).length = 0))) ∧ Below w.heap.size w w' := by
  have b1 := (Below.refl w.heap.size w).alloc (Nat.le_refl _) (.cells #[.int .i64 2] 118)
  have k1 : KindsAt (w.alloc (.cells #[.int .i64 2] 118)) w.heap.size [2] := Blk.new w _ _
  have HJ := Lib.hid (jumpsOf_own wildK [2] w.heap.size wildK_mem (by decide) WB tb NB MB cap A g B off tcap S _ hv (hO.below b1) (hM.keep (b1.block MB hM.lt)) k1)
  have HB := Lib.hid b1
  clear hO hM hv b1 k1
  go_enter Tryz.func38, Tryz.ntmps38
  go_wp2_with fail
  refine HJ.out.mono ?_
  rintro e w2 ⟨v, rfl, hown, hb⟩
  have HB2 := Lib.hid (HB.out.trans (hb.mono HB.out.size))
  obtain ⟨A2, cap2, rfl, -⟩ := own_strs hown
  clear hb hown
  simp only [List.length_map]
  by_cases hz : (jumpL g wildK).length = 0
  · have hzI : (((jumpL g wildK).length : Int) == 0) = true := by rw [hz]; rfl
    have HZ := Lib.hid hz
    clear hz
    go_wp2_with fail
    go_ret
    exact ⟨ret_b (by rw [decide_eq_true HZ.out]), HB2.out⟩
  · have hzI : (((jumpL g wildK).length : Int) == 0) = false := beq_eq_false_iff_ne.2 fun e => hz (Int.ofNat.inj e)
    have HZ := Lib.hid hz
    clear hz
    go_wp2_with fail
    go_ret
    exact ⟨ret_b (by rw [decide_eq_false HZ.out]), HB2.out⟩

theorem meets_own (WB tb NB MB cap : Nat) (A : Option Addr) (g : List Bl) (B off tcap : Nat) (S : Nat → Nat) (w : World) (hv : validB g = true)
    (hO : OrdAt w WB tb NB MB A cap g B off tcap S) (hM : KMap w g MB 52 (fun i t => Rch g [] i ∧ t ∈ nxt g i)) :
    Calls Tryz.prog 55 #[.pointer (some ⟨WB, 0, none⟩)] w fun e w' => ∃ v, e = .returned v ∧ w'.ownsRow w.heap.size 54 1 v (meetsL g).length ((meetsL g).map (nptr NB)) ∧ Below w.heap.size w w' := by
  have b1 := (Below.refl w.heap.size w).alloc (Nat.le_refl _) (.cells #[.int .i64 0] 118)
  have k1 : KindsAt (w.alloc (.cells #[.int .i64 0] 118)) w.heap.size [0] := Blk.new w _ _
  have HG := Lib.hid (goalsOf_own 2 fwdK [0] w.heap.size fwdK_mem (by decide) WB tb NB MB cap A g B off tcap S _ hv (hO.below b1) (hM.keep (b1.block MB hM.lt)) k1)
  have HB := Lib.hid b1
  clear hO hM hv b1 k1
  go_enter Tryz.func55, Tryz.ntmps55
  go_wp2_with fail
  refine HG.out.mono ?_
  rintro e w2 ⟨v, rfl, hown, hb⟩
  have HW := Lib.hid hown
  have HB2 := Lib.hid (HB.out.trans (hb.mono HB.out.size))
  clear hown hb
  go_wp2_with fail
  go_ret
  refine ⟨_, rfl, ?_, HB2.out⟩
  exact own_lower HW.out (by simp)

end Go.Proofs.YtgebedbankibmaaGreatDoor
