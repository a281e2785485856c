import Derived.Test.YtgebedbankibmaaGreatDoorValids
import Derived.Test.YtgebedbankibmaaGreatDoorNodes
import Derived.Test.YtgebedbankibmaaGreatDoorLaw
import Derived.Test.YtgebedbankibmaaGreatDoorSpecBack
import Derived.Test.YtgebedbankibmaaGreatDoorPrunePlaces
import Derived.Test.YtgebedbankibmaaGreatDoorMadeSmall
/-
  How much a valid graph holds: plain facts.
-/
namespace Go.Proofs.YtgebedbankibmaaGreatDoor

theorem tot_small : ∀ l : List Bl, (∀ b ∈ l, b.1.size ≤ 1 ∧ b.2.size ≤ 2) → tot l ≤ 3 * l.length
  | [], _ => Nat.le_refl _
  | b :: l, h => by
    have ih := tot_small l (fun c hc => h c (by simp [hc]))
    have := h b (by simp)
    show b.1.size + b.2.size + tot l ≤ 3 * (l.length + 1)
    omega

theorem valid_tot {g : List Bl} (hv : validB g = true) : g.length + tot g ≤ 104 := by
  have h := tot_small g (fun b hb => by
    obtain ⟨k, hk, rfl⟩ := List.getElem_of_mem hb
    obtain ⟨c, hc, _⟩ := valid_one hv (List.getElem_mem hk)
    exact ⟨by rw [hc]; exact Nat.le_refl _, (nextB_iff.1 (nextsB_iff.1 (valid_iff.1 hv).2.2.2 k hk)).1⟩)
  have := (valid_iff.1 hv).2.1
  omega
end Go.Proofs.YtgebedbankibmaaGreatDoor

/-
  The graphs that P7's laws draw.
-/
namespace Go.Proofs.YtgebedbankibmaaGreatDoor
open Go.RowKit Go.Sort

theorem num5b (R : Nat) (A : Option Addr) (len cap p : Nat) (w : World) (h : Rd w R A len cap p) (hp : p ≤ 1048576) :
    Calls Tryz.prog 53 #[.pointer (some ⟨R, 0, none⟩), .slice (some ⟨w.heap.size, 0, none⟩) 5 5] (w.alloc (.cells #[.int .i64 0, .int .i64 1, .int .i64 5, .int .i64 6, .int .i64 8] 3)) fun e w' => ∃ k : Nat, e = .returned (.int .i64 k) ∧ k < 11 ∧ Only R w w' ∧ Rd w' R A len cap (p + 1) := by
  refine (num2 R A len cap p [0, 1, 5, 6, 8] w h (by decide) (by decide) hp).mono ?_
  rintro e w' ⟨z, rfl, hz, o, r⟩
  simp only [List.mem_cons, List.not_mem_nil, or_false] at hz
  exact ⟨z.toNat, ret_int (by omega), by omega, o, r⟩

set_option maxHeartbeats 3200000 in
set_option maxRecDepth 100000 in
theorem l7Good_any (R : Nat) (A : Option Addr) (len cap p : Nat) (w : World) (hr : Rd w R A len cap p) (hp : p ≤ 1000) :
    Calls Tryz.prog 32 #[.pointer (some ⟨R, 0, none⟩)] w (GoodPost 40 105 R A len cap p w) := by
  have hRlt := hr.blk.lt
  have HR := Lib.hid hr
  clear hr
  go_enter Tryz.func32, Tryz.ntmps32
  go_wp2_with fail
  refine (some_any R A len cap p w HR.out hp).mono ?_
  rintro e w1 ⟨v, g, q, rfl, hown, hg, ho1, r1, hq⟩
  have HOWN := Lib.hid hown
  have HO1 := Lib.hid ho1
  have HR1 := Lib.hid r1
  obtain ⟨A1, c1, rfl, hc1, hgr⟩ := own_gr hown
  have HG := Lib.hid hgr
  clear hown ho1 r1 hgr
  go_wp2_with fail
  refine (specIsTame_any A1 c1 g w1 HG.out (by omega) hc1).mono ?_
  rintro e w2 ⟨rfl, b2⟩
  have HOWN2 := Lib.hid (ownRow_below HOWN.out b2)
  have HO2 := Lib.hid (HO1.out.trans (.of_below b2))
  have HR2 := Lib.hid (HR1.out.below b2)
  clear b2
  cases ht : tameB g with
  | true =>
    clear ht
    go_wp2_with fail
    exact bodyPost_ret (v := .slice A1 g.length c1) (by simp [results, Tryz.results32, go_sem]) rfl ⟨_, g, q, rfl, HOWN2.out, hg, HO2.out, HR2.out, by omega⟩
  | false =>
    clear ht
    go_wp2_with fail
    refine (pick2 R A len cap q 3 w2 HR2.out (by omega) (by omega) (by omega)).mono ?_
    rintro e w3 ⟨x, rfl, hx, o3, r3⟩
    have HOWN3 := Lib.hid (ownRow_only HOWN2.out hRlt o3)
    have HO3 := Lib.hid (HO2.out.trans o3)
    have HR3 := Lib.hid r3
    clear o3 r3
    by_cases h0 : (0 : Int) < (x : Int)
    · have HN := Lib.hid (num5b R A len cap (q + 1) w3 HR3.out (by omega))
      go_wp2_with fail
      refine HN.out.mono ?_
      rintro e w4 ⟨k, rfl, hk, o4, r4⟩
      have HO4 := Lib.hid (HO3.out.trans o4)
      have HR4 := Lib.hid r4
      clear o4 r4
      go_wp2_with fail
      refine (known_any k w4 hk).mono ?_
      rintro e w5 ⟨v5, g5, rfl, hv5, hs5, b5⟩
      have HV := Lib.hid (ownRow_base hv5 HO4.out.size)
      have HO5 := Lib.hid (HO4.out.trans (.of_below b5))
      have HR5 := Lib.hid (HR4.out.below b5)
      clear hv5 b5
      go_wp2_with fail
      exact bodyPost_ret (v := v5) (by simp [results, Tryz.results32, go_sem]) rfl ⟨v5, g5, q + 2, rfl, HV.out, by omega, HO5.out, HR5.out, by omega⟩
    · go_wp2_with fail
      exact bodyPost_ret (v := .slice A1 g.length c1) (by simp [results, Tryz.results32, go_sem]) rfl ⟨_, g, q + 1, rfl, HOWN3.out, hg, HO3.out, HR3.out, by omega⟩

set_option maxRecDepth 100000 in
theorem drawCanMake_any (A : Option Addr) (len cap : Nat) (w : World) (hb : Bytes w A len) (hlc : len ≤ cap) (hl : cap ≤ 9223372036854775807) :
    Calls Tryz.prog 10 #[.slice A len cap] w (DrawPost 40 w) := by
  have HC := Lib.hid (open_any A len cap w hb hlc hl)
  clear hb
  go_enter Tryz.func10, Tryz.ntmps10
  go_wp2_with fail
  refine HC.out.mono ?_
  rintro e w1 ⟨A', len', cap', rfl, hrd, b1⟩
  have HR1 := Lib.hid hrd
  have HB := Lib.hid b1
  have hs1 := b1.size
  clear hrd b1
  go_wp2_with fail
  refine (l7Good_any w.heap.size A' len' cap' 0 w1 HR1.out (by omega)).mono ?_
  rintro e w2 ⟨v, g, q, rfl, hown, hg, ho, _, _⟩
  have HOWN := Lib.hid (ownRow_base hown hs1)
  have HB2 := Lib.hid (Only.below HB.out ho)
  clear hown ho
  go_wp2_with fail
  exact bodyPost_ret (v := v) (by simp [results, Tryz.results10, go_sem]) rfl ⟨v, g, rfl, HOWN.out, hg, HB2.out⟩
end Go.Proofs.YtgebedbankibmaaGreatDoor

/-
  The law MadePrune, walked.
-/
namespace Go.Proofs.YtgebedbankibmaaGreatDoor
open Go.RowKit Go.Sort

theorem OwnGr.keepM {w w' : World} {B : Nat} {g : List Bl} (h : OwnGr w B g) (hb : Below w.heap.size w w') : OwnGr w' B g := by
  obtain ⟨cs, t, hk, hc⟩ := h
  exact ⟨cs, t, hk.below hb hk.lt, hc⟩

set_option maxRecDepth 100000 in
set_option maxHeartbeats 3200000 in
theorem madePrune_walk (A : Option Addr) (la ca : Nat) (w : World) (hA : Bytes w A la) (h1 : la ≤ ca) (h3 : ca ≤ 9223372036854775807) :
    Calls Tryz.prog 3 #[.slice A la ca] w fun e w' => e = .returned (.bool true) ∧ Below w.heap.size w w' := by
  by_cases g1 : (1048576 : Int) < la
  · clear hA
    go_enter Tryz.func3, Tryz.ntmps3
    go_wp2_with fail
    go_ret
    exact ⟨rfl, Below.refl _ _⟩
  have HA := Lib.hid (drawCanMake_any A la ca w hA h1 h3)
  clear hA
  go_enter Tryz.func3, Tryz.ntmps3
  go_wp2_with fail
  refine HA.out.mono ?_
  intro e w1 hd1
  obtain ⟨A1, c1, g, rfl, hc1, gg, hn1, b1⟩ := drawn_of hd1
  have HB1 := Lib.hid b1
  have HG1 := Lib.hid gg
  clear hd1 b1 gg
  obtain ⟨mb, hmb⟩ : ∃ x, x = madeB g := ⟨_, rfl⟩
  obtain ⟨mv, hmv⟩ : ∃ x, x = madeV g := ⟨_, rfl⟩
  obtain ⟨tm, htm⟩ : ∃ x, x = tameB g := ⟨_, rfl⟩
  have HCI := Lib.hid (fun W (h : Gr W A1 g) => (hmb ▸ implCanMake_any A1 c1 g W h (by omega) : Calls Tryz.prog 11 #[.slice A1 g.length c1] W fun e w' => e = .returned (.bool mb) ∧ Below W.heap.size W w'))
  have HCS := Lib.hid (fun W (h : Gr W A1 g) => (hmb ▸ specCanMake_any A1 c1 g W h (by omega) hc1 : Calls Tryz.prog 12 #[.slice A1 g.length c1] W fun e w' => e = .returned (.bool mb) ∧ Below W.heap.size W w'))
  have HMT := Lib.hid (fun W (h : Gr W A1 g) => (hmv ▸ hmb ▸ implMakeText_any A1 c1 g W h (by omega) : Calls Tryz.prog 14 #[.slice A1 g.length c1] W fun e w' => e = .returned (.tuple #[.string mv, .bool mb]) ∧ Below W.heap.size W w'))
  have HIT := Lib.hid (fun W (h : Gr W A1 g) => (htm ▸ implIsTame_any A1 c1 g W h (by omega) : Calls Tryz.prog 15 #[.slice A1 g.length c1] W fun e w' => e = .returned (.bool tm) ∧ Below W.heap.size W w'))
  have q1 : (mb == mb) = true := by simp
  have q2 : (mb != mb) = false := by simp
  have q3 : (mv.toList == mv.toList) = true := by simp
  by_cases hv : validB g = true
  · obtain ⟨p, hp⟩ : ∃ p, p = pruneG g := ⟨_, rfl⟩
    have hpv : validB p = true := hp ▸ prune_valid hv
    have hpt := valid_tot hpv
    have hpl : p.length ≤ 26 := (valid_iff.1 hpv).2.1
    have HP := Lib.hid (fun W (h : Gr W A1 g) => (implPrune_yes A1 c1 g W h (by omega) hv).mono fun e w' h => show ∃ B, W.heap.size ≤ B ∧ e = .returned (.tuple #[.slice (some ⟨B, 0, none⟩) p.length p.length, .bool true]) ∧ OwnGr w' B p ∧ Below W.heap.size W w' from hp ▸ h)
    have hpb : madeB p = mb := by rw [hp, hmb]; exact madeB_prune hv
    have hpw : madeV p = mv := by rw [hp, hmv]; exact madeV_prune hv
    have HMP := Lib.hid (fun A cap W (h : Gr W A p) => (hpw ▸ hpb ▸ implMakeText_any A cap p W h (by omega) : Calls Tryz.prog 14 #[.slice A p.length cap] W fun e w' => e = .returned (.tuple #[.string mv, .bool mb]) ∧ Below W.heap.size W w'))
    have HCP := Lib.hid (fun A cap W (h : Gr W A p) => (hpb ▸ implCanMake_any A cap p W h (by omega) : Calls Tryz.prog 11 #[.slice A p.length cap] W fun e w' => e = .returned (.bool mb) ∧ Below W.heap.size W w'))
    have H4 : Hid (mb = false → tm = true → 4 < p.length) := Lib.hid fun h1 h2 => by
      rcases Nat.lt_or_ge 4 p.length with h | h
      · exact h
      · have := made_few (g := p) (by rw [hp, tame_prune hv, ← htm]; exact h2) h
        rw [hpb, h1] at this
        cases this
    clear hp hpv hpt hv hpb hpw hmb hmv htm
    go_wp2_with fail
    refine (HCI.out w1 HG1.out).mono ?_
    rintro e w2 ⟨rfl, b2⟩
    have HG2 := Lib.hid (HG1.out.below b2)
    have HB2 := Lib.hid (below_trans_self HB1.out b2)
    clear b2
    go_wp2_with fail
    refine (HCS.out w2 HG2.out).mono ?_
    rintro e w3 ⟨rfl, b3⟩
    have HG3 := Lib.hid (HG2.out.below b3)
    have HB3 := Lib.hid (below_trans_self HB2.out b3)
    clear b3
    go_wp2_with fail
    refine (HP.out w3 HG3.out).mono ?_
    rintro e w4 ⟨B, hB4, rfl, o4, b4⟩
    have HG4 := Lib.hid (HG3.out.below b4)
    have HO4 := Lib.hid o4
    have HB4 := Lib.hid (below_trans_self HB3.out b4)
    clear o4 b4
    go_wp2_with fail
    refine (HMT.out w4 HG4.out).mono ?_
    rintro e w5 ⟨rfl, b5⟩
    have HG5 := Lib.hid (HG4.out.below b5)
    have HO5 := Lib.hid (HO4.out.keepM b5)
    have HB5 := Lib.hid (below_trans_self HB4.out b5)
    clear b5
    go_wp2_with fail
    refine (HMP.out _ _ w5 HO5.out.gr).mono ?_
    rintro e w6 ⟨rfl, b6⟩
    have HG6 := Lib.hid (HG5.out.below b6)
    have HO6 := Lib.hid (HO5.out.keepM b6)
    have HB6 := Lib.hid (below_trans_self HB5.out b6)
    clear b6
    go_wp2_with fail
    refine (HCP.out _ _ w6 HO6.out.gr).mono ?_
    rintro e w7 ⟨rfl, b7⟩
    have HG7 := Lib.hid (HG6.out.below b7)
    have HB7 := Lib.hid (below_trans_self HB6.out b7)
    clear b7
    cases mb with
    | true =>
      go_wp2_with fail
      go_ret
      exact ⟨rfl, HB7.out⟩
    | false =>
      go_wp2_with fail
      refine (HIT.out w7 HG7.out).mono ?_
      rintro e w8 ⟨rfl, b8⟩
      have HB8 := Lib.hid (below_trans_self HB7.out b8)
      clear b8
      cases tm with
      | false =>
        go_wp2_with fail
        go_ret
        exact ⟨rfl, HB8.out⟩
      | true =>
        have h4 : 4 < p.length := H4.out (by first | rfl | trivial) (by first | rfl | trivial)
        have h4i : (4 : Int) < (p.length : Int) := by omega
        go_wp2_with fail
        go_ret
        exact ⟨rfl, HB8.out⟩
  · have hv' : validB g = false := by simpa using hv
    have hb0 : mb = false := by
      rw [hmb]; unfold madeB tameB; rw [hv']; rfl
    have HP := Lib.hid (fun W (h : Gr W A1 g) => implPrune_no A1 c1 g W h (by omega) hv')
    have HMP := Lib.hid (fun W => implMakeText_any none 0 [] W (fun h => absurd h (by simp)) (by decide))
    obtain ⟨xv, hxv⟩ : ∃ x, x = madeV [] := ⟨_, rfl⟩
    obtain ⟨xb, hxb⟩ : ∃ x, x = madeB [] := ⟨_, rfl⟩
    rw [← hxv, ← hxb] at HMP
    subst hb0
    clear hv hv' hmb hmv htm hxv hxb
    go_wp2_with fail
    refine (HCI.out w1 HG1.out).mono ?_
    rintro e w2 ⟨rfl, b2⟩
    have HG2 := Lib.hid (HG1.out.below b2)
    have HB2 := Lib.hid (below_trans_self HB1.out b2)
    clear b2
    go_wp2_with fail
    refine (HCS.out w2 HG2.out).mono ?_
    rintro e w3 ⟨rfl, b3⟩
    have HG3 := Lib.hid (HG2.out.below b3)
    have HB3 := Lib.hid (below_trans_self HB2.out b3)
    clear b3
    go_wp2_with fail
    refine (HP.out w3 HG3.out).mono ?_
    rintro e w4 ⟨rfl, b4⟩
    have HG4 := Lib.hid (HG3.out.below b4)
    have HB4 := Lib.hid (below_trans_self HB3.out b4)
    clear b4
    go_wp2_with fail
    refine (HMT.out w4 HG4.out).mono ?_
    rintro e w5 ⟨rfl, b5⟩
    have HB5 := Lib.hid (below_trans_self HB4.out b5)
    clear b5
    go_wp2_with fail
    refine (HMP.out w5).mono ?_
    rintro e w6 ⟨rfl, b6⟩
    have HB6 := Lib.hid (below_trans_self HB5.out b6)
    clear b6
    go_wp2_with fail
    go_ret
    exact ⟨rfl, HB6.out⟩
end Go.Proofs.YtgebedbankibmaaGreatDoor
