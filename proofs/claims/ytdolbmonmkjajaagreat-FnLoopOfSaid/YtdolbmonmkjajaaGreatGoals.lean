/-
  To which blocks at least so many jumps of some kinds go; headers.
-/
import Derived.Test.YtdolbmonmkjajaaGreatSources
import Derived.Test.YtdolbmonmkjajaaGreatJumpText
namespace Go.Proofs.YtdolbmonmkjajaaGreat
open Go.RowKit Go.Sort Go.Shelf Go.Maps Go.WideMaps

attribute [local go_sem] Oper.semAt_some

set_option maxRecDepth 100000 in
set_option maxHeartbeats 4000000 in
theorem goalsOf_own (m : Nat) (K : Nat → Bool) (ks : List Nat) (kb : Nat) (hK : ∀ k, K k = decide (k ∈ ks)) (hkl : ks.length ≤ 8) (WB tb NB MB cap : Nat) (A : Option Addr) (g : List Bl) (B off tcap : Nat) (S : Nat → Nat) (w : World) (hv : validB g = true)
    (hO : OrdAt w WB tb NB MB A cap g B off tcap S) (hM : KMap w g MB 52 (fun i t => Rch g [] i ∧ t ∈ nxt g i)) (hks : KindsAt w kb ks) :
    Calls Tryz.prog 71 #[.pointer (some ⟨WB, 0, none⟩), .int .i64 m, .slice (some ⟨kb, 0, none⟩) ks.length ks.length] w fun e w' => ∃ v, e = .returned v ∧ w'.ownsRow w.heap.size 61 1 v (goalL g m K).length ((goalL g m K).map (nptr NB)) ∧ Below w.heap.size w w' := by
  have h26 := (valid_iff.1 hv).2.1
  have hrs := reachS_small hv
  obtain ⟨ip, hip, hz0, hz1, hz2⟩ := info_parts info_ptr
  have cT := hO.store.cell 0
  have cN := hO.tree.tree.nodes
  have HO := Lib.hid hO
  have HM := Lib.hid hM
  have HKS := Lib.hid hks
  have HV := Lib.hid hv
  have HKK := Lib.hid hK
  clear hO hM hks hv hK
  go_enter Tryz.func71, Tryz.ntmps71
  go_wp2_with fail
  go_loopw [7, 18] (fun pv iv wr => ∃ (k : Nat) (P : List Nat), k ≤ (reachS g).length ∧ iv = .int .i64 k ∧ Hid (P = ((reachS g).take k).filter fun t => decide (m ≤ (srcL g K t).length)) ∧ wr.ownsRow w.heap.size 61 1 pv P.length (P.map (nptr NB)) ∧ Below w.heap.size w wr) (fun _ iv _ => (reachS g).length - (intOf iv).toNat)
  case atStart => exact ⟨0, [], Nat.zero_le _, rfl, rfl, World.ownsRow_nil _ _ _ _, Below.refl _ _⟩
  case round =>
    obtain ⟨k, P, hk, rfl, HP, hown, hB⟩ := hrel
    have hPl : P.length ≤ k := by
      rw [HP.out]
      have := List.length_filter_le (fun t => decide (m ≤ (srcL g K t).length)) ((reachS g).take k)
      have := List.length_take_le k (reachS g)
      omega
    have HB := Lib.hid hB
    have hsz0 := hB.size
    have HOB := Lib.hid (HO.out.below hB)
    have HMB := Lib.hid (HM.out.keep (hB.block MB HM.out.lt))
    have HKB := Lib.hid (HKS.out.below hB)
    have HOWN := Lib.hid hown
    clear hB hown
    by_cases hlt : k < (reachS g).length
    · obtain ⟨x, hx⟩ : ∃ x, x = (reachS g)[k] := ⟨_, rfl⟩
      have hxr := (mem_reachS' HV.out).1 (hx ▸ List.getElem_mem hlt : x ∈ reachS g)
      have hxl := hxr.lt HV.out
      have c0 : wr.cell? ⟨B, off + k, none⟩ = some (nptr NB x) := by rw [hx]; exact HOB.out.tree.row k hlt
      have HFT := Lib.hid (filter_take (p := fun t => decide (m ≤ (srcL g K t).length)) hlt)
      have HX := Lib.hid hx
      have HS := Lib.hid (sourcesOf_own K ks kb HKK.out hkl WB tb NB MB cap A g B off tcap S x wr HV.out HOB.out HMB.out HKB.out hxl)
      clear hx hxr
      go_wp2_with fail
      refine HS.out.mono ?_
      rintro e w3 ⟨v3, rfl, hown3, hb3⟩
      obtain ⟨A3, cap3, rfl, -, -⟩ := own_idx hown3
      have HO6 := Lib.hid (own_below HOWN.out hb3)
      have HB6 := Lib.hid (HB.out.trans (hb3.mono HB.out.size))
      have hszq := HB6.out.size
      obtain ⟨n, hn⟩ : ∃ n, n = (srcL g K x).length := ⟨_, rfl⟩
      rw [← hn]
      clear hown3 hb3 HS HOB HMB HKB c0
      by_cases hq : m ≤ n
      · have hqI : (m : Int) ≤ (n : Int) := by omega
        have HP2 := Lib.hid (show P ++ [x] = ((reachS g).take (k + 1)).filter fun t => decide (m ≤ (srcL g K t).length) by
          rw [HFT.out, ← HX.out, ← hn, decide_eq_true hq, if_pos rfl, HP.out])
        clear hn
        go_wp2_with (at_builtin; refine wpList_append_own _ rfl _ _ 63 rfl w.heap.size 61 ip (.pointer none) 1 8 Tryz.underlying63 hip hz0 hz1 hz2 rfl (by decide) _ _ _ rfl (HO6.out.alloc _) ⟨w3.heap.size, 0, none⟩ 1 1 [nptr NB x] rfl rfl ?c1 ?c2 ?c3 ?c4 ?c5 ?_)
        case c1 =>
          intro j u hj
          match j, hj with
          | 0, hj =>
            have hu : nptr NB x = u := by simpa using hj
            rw [← hu]
            simp [Addr.add]
        case c2 => intro u hu; have hu' : u = nptr NB x := by simpa using hu
                   subst hu'; rfl
        case c3 => unfold maxLen; omega
        case c4 => omega
        case c5 => simp; omega
        intro v' w5 hown' hgrow _
        have hsz := (HO6.out.alloc (.cells #[nptr NB x] 61)).lt
        have hB5 := (HB6.out.alloc hszq (.cells #[nptr NB x] 61)).grown hgrow (by simp; omega) (fun j hj => (hsz j hj).1)
        have HO5 := Lib.hid (grown_row hown')
        have HB5 := Lib.hid hB5
        clear hown' hsz hgrow hB5
        go_wp2_with fail
        go_roundw
        case rel => exact ⟨k + 1, P ++ [x], by omega, by go_num, HP2.out, HO5.out, HB5.out⟩
        case measure => simp [intOf]; omega
      · have hqI : ¬ (m : Int) ≤ (n : Int) := by omega
        have HP2 := Lib.hid (show P = ((reachS g).take (k + 1)).filter fun t => decide (m ≤ (srcL g K t).length) by
          rw [HFT.out, ← HX.out, ← hn, decide_eq_false hq, if_neg (by simp), List.append_nil, HP.out])
        clear hn
        go_wp2_with fail
        go_roundw
        case rel => exact ⟨k + 1, P, by omega, by go_num, HP2.out, HO6.out, HB6.out⟩
        case measure => simp [intOf]; omega
    · have HE := Lib.hid (show P = goalL g m K by rw [HP.out, List.take_of_length_le (by omega)]; rfl)
      go_wp2_with fail
      go_ret
      exact ⟨_, rfl, by rw [← HE.out]; exact HOWN.out, HB.out⟩

theorem backK_mem (k : Nat) : backK k = decide (k ∈ [1, 2]) := by
  unfold backK
  rw [Bool.eq_iff_iff]; simp
theorem tameK_mem (k : Nat) : tameK k = decide (k ∈ [1]) := by
  unfold tameK
  rw [Bool.eq_iff_iff]; simp
theorem wildK_mem (k : Nat) : wildK k = decide (k ∈ [2]) := by
  unfold wildK
  rw [Bool.eq_iff_iff]; simp
theorem fwdK_mem (k : Nat) : fwdK k = decide (k ∈ [0]) := by
  unfold fwdK
  rw [Bool.eq_iff_iff]; simp
theorem allK_mem (k : Nat) : allK k = decide (k ∈ [0, 1, 2]) := by
  unfold allK
  rw [Bool.eq_iff_iff]; simp

theorem headers_own (WB tb NB MB cap : Nat) (A : Option Addr) (g : List Bl) (B off tcap : Nat) (S : Nat → Nat) (w : World) (hv : validB g = true)
    (hO : OrdAt w WB tb NB MB A cap g B off tcap S) (hM : KMap w g MB 52 (fun i t => Rch g [] i ∧ t ∈ nxt g i)) :
    Calls Tryz.prog 59 #[.pointer (some ⟨WB, 0, none⟩)] w fun e w' => ∃ v, e = .returned v ∧ w'.ownsRow w.heap.size 61 1 v (headL g).length ((headL g).map (nptr NB)) ∧ Below w.heap.size w w' := by
  have b1 := (Below.refl w.heap.size w).alloc (Nat.le_refl _) (.cells #[.int .i64 1, .int .i64 2] 78)
  have k1 : KindsAt (w.alloc (.cells #[.int .i64 1, .int .i64 2] 78)) w.heap.size [1, 2] := Blk.new w _ _
  have HG := Lib.hid (goalsOf_own 1 backK [1, 2] w.heap.size backK_mem (by decide) WB tb NB MB cap A g B off tcap S _ hv (hO.below b1) (hM.keep (b1.block MB hM.lt)) k1)
  have HB := Lib.hid b1
  clear hO hM hv b1 k1
  go_enter Tryz.func59, Tryz.ntmps59
  go_wp2_with fail
  refine HG.out.mono ?_
  rintro e w2 ⟨v, rfl, hown, hb⟩
  have HW := Lib.hid hown
  have HB2 := Lib.hid (HB.out.trans (hb.mono HB.out.size))
  clear hown hb
  go_wp2_with fail
  go_ret
  refine ⟨_, rfl, ?_, HB2.out⟩
  exact own_lower HW.out (by simp)
end Go.Proofs.YtdolbmonmkjajaaGreat
