/-
  The law FnPruneLoops, walked.
-/
import Derived.Test.YtdolbmonmkjajaaGreatSjTexts
import Derived.Test.YtdolbmonmkjajaaGreatPruneJumps
import Derived.Test.YtdolbmonmkjajaaGreatDrawLoops
import Derived.Test.YtdolbmonmkjajaaGreatSpecPrune
import Derived.Test.YtdolbmonmkjajaaGreatPrune
import Derived.Test.YtdolbmonmkjajaaGreatTot
namespace Go.Proofs.YtdolbmonmkjajaaGreat
open Go.RowKit Go.Sort

theorem OwnGr.keepL {w w' : World} {B : Nat} {g : List Bl} (h : OwnGr w B g) (hb : Below w.heap.size w w') : OwnGr w' B g := by
  obtain ⟨cs, t, hk, hc⟩ := h
  exact ⟨cs, t, hk.below hb hk.lt, hc⟩

section
variable {g : List Bl}
theorem prune_letter {j : Nat} (hj : j < (reachS g).length) : letC g (rho g j) = letC (pruneG g) j := by
  unfold letC; rw [prune_name' hj]
theorem jumpL_left (hv : validB g = true) {K : Nat → Bool} {j : Nat × Nat} (hj : j ∈ jumpL (pruneG g) K) : j.1 < (reachS g).length ∧ j.2 < (reachS g).length := by
  have := jumpL_lt (prune_valid hv) hj
  rw [pruneG_length] at this
  exact this
theorem prune_texts (hv : validB g = true) (K : Nat → Bool) : (jumpL (pruneG g) K).map (jt (pruneG g)) = (jumpL g K).map (jt g) := by
  rw [prune_jumps hv K, List.map_map]
  refine List.map_congr_left fun j hj => ?_
  obtain ⟨h1, h2⟩ := jumpL_left hv hj
  show jt (pruneG g) j = jt g (rho g j.1, rho g j.2)
  unfold jt
  rw [prune_letter h1, prune_letter h2]
theorem prune_ordV (hv : validB g = true) : namesAt (pruneG g) (wayOrd (pruneG g)) = namesAt g (wayOrd g) := by
  have := names_map (wayOrd (pruneG g)) (order_left hv)
  rw [← prune_order hv] at this
  exact this.symm
theorem prune_headV (hv : validB g = true) : headV (pruneG g) = headV g := by
  have := names_map (headL (pruneG g)) (head_left hv)
  rw [← prune_heads hv] at this
  rw [headV_yes hv, headV_yes (prune_valid hv)]
  exact this.symm
theorem prune_loopV (hv : validB g = true) {h : Nat} (hh : h ∈ headL g) : loopV (pruneG g) (nthName g h) = loopV g (nthName g h) := by
  rw [prune_heads hv] at hh
  obtain ⟨j, hj, rfl⟩ := List.mem_map.1 hh
  have hjl := head_left hv j hj
  rw [loopV_some (headOf_name hv (by rw [prune_heads hv]; exact List.mem_map.2 ⟨j, hj, rfl⟩)), ← prune_name' hjl, loopV_some (headOf_name (prune_valid hv) hj), prune_loop hv hjl]
  exact (names_map _ (loop_left hv j)).symm
theorem prune_tameB (hv : validB g = true) : tameB (pruneG g) = tameB g := by
  unfold tameB
  rw [hv, prune_valid hv, prune_jumps hv wildK, List.length_map]
end

set_option maxRecDepth 100000 in
set_option maxHeartbeats 6400000 in
theorem pruneLoops_walk (A : Option Addr) (la ca : Nat) (w : World) (hA : Bytes w A la) (h1 : la ≤ ca) (h3 : ca ≤ 9223372036854775807) :
    Calls Tryz.prog 12 #[.slice A la ca] w fun e w' => e = .returned (.bool true) ∧ Below w.heap.size w w' := by
  by_cases g1 : (1048576 : Int) < la
  · clear hA
    go_enter Tryz.func12, Tryz.ntmps12
    go_wp2_with fail
    go_ret
    exact ⟨rfl, Below.refl _ _⟩
  have HA := Lib.hid (drawBackJumps_any A la ca w hA h1 h3)
  clear hA
  go_enter Tryz.func12, Tryz.ntmps12
  go_wp2_with fail
  refine HA.out.mono ?_
  intro e w1 hd1
  obtain ⟨A1, c1, g, rfl, hc1, gg, hn1, b1⟩ := drawn_of hd1
  have HB1 := Lib.hid b1
  have HG1 := Lib.hid gg
  clear hd1 b1 gg
  by_cases hv : validB g = true
  · obtain ⟨p, hp⟩ : ∃ p, p = pruneG g := ⟨_, rfl⟩
    have hpv : validB p = true := hp ▸ prune_valid hv
    have hpt := valid_tot hpv
    have HPI := Lib.hid (fun W (h : Gr W A1 g) => (implPrune_yes A1 c1 g W h (by omega) hv).mono fun e w' h => show ∃ B, W.heap.size ≤ B ∧ e = .returned (.tuple #[.slice (some ⟨B, 0, none⟩) p.length p.length, .bool true]) ∧ OwnGr w' B p ∧ Below W.heap.size W w' from hp ▸ h)
    have HPS := Lib.hid (fun W (h : Gr W A1 g) => (specPrune_yes A1 c1 g W h (by omega) hc1 hv).mono fun e w' h => show ∃ u, e = .returned (.tuple #[u, .bool true]) ∧ Below W.heap.size W w' from by
      obtain ⟨u, e1, _, e3⟩ := h
      exact ⟨u, e1, e3⟩)
    obtain ⟨o, ho⟩ : ∃ o, o = namesAt g (wayOrd g) := ⟨_, rfl⟩
    have HOI := Lib.hid (fun W (h : Gr W A1 g) => (by have := implOrder_any A1 c1 g W h (by omega); unfold orderV at this; rw [if_pos hv, hv, ← ho] at this; exact this : Calls Tryz.prog 21 #[.slice A1 g.length c1] W fun e w' => e = .returned (.tuple #[.string o, .bool true]) ∧ Below W.heap.size W w'))
    have HOP := Lib.hid (fun A cap W (h : Gr W A p) => (by have := implOrder_any A cap p W h (by omega); unfold orderV at this; rw [if_pos hpv, hpv, hp, prune_ordV hv, ← ho, ← hp] at this; exact this : Calls Tryz.prog 21 #[.slice A p.length cap] W fun e w' => e = .returned (.tuple #[.string o, .bool true]) ∧ Below W.heap.size W w'))
    obtain ⟨ps, hps⟩ : ∃ ps, ps = (jumpL g backK).map (jt g) := ⟨_, rfl⟩
    have hpl : ps.length ≤ 1048576 := by rw [hps, List.length_map]; have := jumpL_len hv backK; omega
    have HBI := Lib.hid (fun W (h : Gr W A1 g) => ((implBack_any A1 c1 g W h (by omega)).mono fun e w' ⟨u, e1, e2, e3⟩ => by
      rw [if_pos hv] at e2
      have e2' : OwnStr w' W.heap.size u ps := hps ▸ e2
      obtain ⟨A9, c9, e9, hst⟩ := own_strs e2'
      subst e9
      rw [hv] at e1
      exact ⟨A9, c9, e1, hst, e3⟩ : Calls Tryz.prog 23 #[.slice A1 g.length c1] W fun e w' => ∃ A9 c9, e = .returned (.tuple #[.slice A9 ps.length c9, .bool true]) ∧ Strs w' A9 ps ∧ Below W.heap.size W w'))
    have HBP := Lib.hid (fun A cap W (h : Gr W A p) => ((implBack_any A cap p W h (by omega)).mono fun e w' ⟨u, e1, e2, e3⟩ => by
      rw [if_pos hpv] at e2
      have e2' : OwnStr w' W.heap.size u ps := by
        have : ps = (jumpL p backK).map (jt p) := by rw [hps, hp]; exact (prune_texts hv backK).symm
        rw [this]; exact e2
      obtain ⟨A9, c9, e9, hst⟩ := own_strs e2'
      subst e9
      rw [hpv] at e1
      exact ⟨A9, c9, e1, hst, e3⟩ : Calls Tryz.prog 23 #[.slice A p.length cap] W fun e w' => ∃ A9 c9, e = .returned (.tuple #[.slice A9 ps.length c9, .bool true]) ∧ Strs w' A9 ps ∧ Below W.heap.size W w'))
    obtain ⟨hs, hhs⟩ : ∃ hs, hs = headV g := ⟨_, rfl⟩
    obtain ⟨hsz, hs26⟩ := headV_small hv
    rw [← hhs] at hsz hs26
    have HHI := Lib.hid (fun W (k : Gr W A1 g) => (by have := implHeaders_any A1 c1 g W k (by omega); rw [← hhs, hv] at this; exact this : Calls Tryz.prog 25 #[.slice A1 g.length c1] W fun e w' => e = .returned (.tuple #[.string hs, .bool true]) ∧ Below W.heap.size W w'))
    have HHP := Lib.hid (fun A cap W (k : Gr W A p) => (by have := implHeaders_any A cap p W k (by omega); rw [hpv, hp, prune_headV hv, ← hhs, ← hp] at this; exact this : Calls Tryz.prog 25 #[.slice A p.length cap] W fun e w' => e = .returned (.tuple #[.string hs, .bool true]) ∧ Below W.heap.size W w'))
    obtain ⟨tm, htm⟩ : ∃ tm, tm = tameB g := ⟨_, rfl⟩
    have HTI := Lib.hid (fun W (h : Gr W A1 g) => (htm ▸ implIsTame_any A1 c1 g W h (by omega) : Calls Tryz.prog 35 #[.slice A1 g.length c1] W fun e w' => e = .returned (.bool tm) ∧ Below W.heap.size W w'))
    have HTP := Lib.hid (fun A cap W (h : Gr W A p) => (by have := implIsTame_any A cap p W h (by omega); rw [hp, prune_tameB hv, ← htm, ← hp] at this; exact this : Calls Tryz.prog 35 #[.slice A p.length cap] W fun e w' => e = .returned (.bool tm) ∧ Below W.heap.size W w'))
    have HLI := Lib.hid (fun W (k : Gr W A1 g) s => implLoopOf_any A1 c1 g s W k (by omega))
    have HLP := Lib.hid (fun A cap W (k : Gr W A p) s => implLoopOf_any A cap p s W k (by omega))
    have HSAME := Lib.hid (fun k (hk : k < hs.size) => (by
      have hk' : k < (headL g).length := by omega
      have he : hs.extract k (k + 1) = nthName g (headL g)[k] := by rw [hhs, headV_yes hv]; exact names_at hv head_lt hk'
      rw [he, hp]
      exact prune_loopV hv (List.getElem_mem hk') : loopV p (hs.extract k (k + 1)) = loopV g (hs.extract k (k + 1))))
    have t1 : (hs.toList == hs.toList) = true := by simp
    have t2 : (o.toList == o.toList) = true := by simp
    have t3 : (tm == tm) = true := by simp
    clear hp hpv ho hps hhs htm hv
    go_wp2_with fail
    refine (HPI.out w1 HG1.out).mono ?_
    rintro e w2 ⟨B2, hB2, rfl, ow2, b2⟩
    have HG2 := Lib.hid (HG1.out.below b2)
    have HP2 := Lib.hid ow2
    have HB2 := Lib.hid (below_trans_self HB1.out b2)
    clear b2 ow2
    go_wp2_with fail
    refine (HPS.out w2 HG2.out).mono ?_
    rintro e w3 ⟨u3, rfl, b3⟩
    have HG3 := Lib.hid (HG2.out.below b3)
    have HP3 := Lib.hid (HP2.out.keepL b3)
    have HB3 := Lib.hid (below_trans_self HB2.out b3)
    clear b3
    go_wp2_with fail
    refine (HOI.out w3 HG3.out).mono ?_
    rintro e w4 ⟨rfl, b4⟩
    have HG4 := Lib.hid (HG3.out.below b4)
    have HP4 := Lib.hid (HP3.out.keepL b4)
    have HB4 := Lib.hid (below_trans_self HB3.out b4)
    clear b4
    go_wp2_with fail
    refine (HOP.out _ _ w4 HP4.out.gr).mono ?_
    rintro e w5 ⟨rfl, b5⟩
    have HG5 := Lib.hid (HG4.out.below b5)
    have HP5 := Lib.hid (HP4.out.keepL b5)
    have HB5 := Lib.hid (below_trans_self HB4.out b5)
    clear b5
    go_wp2_with fail
    refine (HBI.out w5 HG5.out).mono ?_
    rintro e w6 ⟨A6, c6, rfl, st6, b6⟩
    have HG6 := Lib.hid (HG5.out.below b6)
    have HP6 := Lib.hid (HP5.out.keepL b6)
    have HB6 := Lib.hid (below_trans_self HB5.out b6)
    have HX6 := Lib.hid st6
    clear b6 st6
    go_wp2_with fail
    refine (HBP.out _ _ w6 HP6.out.gr).mono ?_
    rintro e w7 ⟨A7, c7, rfl, st7, b7⟩
    have HG7 := Lib.hid (HG6.out.below b7)
    have HP7 := Lib.hid (HP6.out.keepL b7)
    have HB7 := Lib.hid (below_trans_self HB6.out b7)
    have HX7 := Lib.hid (HX6.out.below b7)
    have HY7 := Lib.hid st7
    clear b7 st7
    go_wp2_with fail
    refine (HHI.out w7 HG7.out).mono ?_
    rintro e w8 ⟨rfl, b8⟩
    have HG8 := Lib.hid (HG7.out.below b8)
    have HP8 := Lib.hid (HP7.out.keepL b8)
    have HB8 := Lib.hid (below_trans_self HB7.out b8)
    have HX8 := Lib.hid (HX7.out.below b8)
    have HY8 := Lib.hid (HY7.out.below b8)
    clear b8
    go_wp2_with fail
    refine (HHP.out _ _ w8 HP8.out.gr).mono ?_
    rintro e w9 ⟨rfl, b9⟩
    have HG9 := Lib.hid (HG8.out.below b9)
    have HP9 := Lib.hid (HP8.out.keepL b9)
    have HB9 := Lib.hid (below_trans_self HB8.out b9)
    have HX9 := Lib.hid (HX8.out.below b9)
    have HY9 := Lib.hid (HY8.out.below b9)
    clear b9
    go_wp2_with fail
    go_loopw [80] (fun iv wr => ∃ k : Nat, k ≤ hs.size ∧ iv = .int .i64 k ∧ Hid (Gr wr A1 g) ∧ Hid (OwnGr wr B2 p) ∧ Hid (Strs wr A6 ps) ∧ Hid (Strs wr A7 ps) ∧ Hid (Below w.heap.size w wr)) (fun iv _ => hs.size - (intOf iv).toNat)
    case atStart => exact ⟨0, Nat.zero_le _, rfl, HG9.out, HP9.out, HX9.out, HY9.out, HB9.out⟩
    case round =>
      obtain ⟨k, hk, rfl, HG, HP, HX, HY, HB⟩ := hrel
      by_cases hlt : k < hs.size
      · have hk1 : k + 1 ≤ hs.size := by omega
        obtain ⟨lp, hlp⟩ : ∃ lp, lp = loopV g (hs.extract k (k + 1)) := ⟨_, rfl⟩
        have HL1 := Lib.hid (HLI.out wr HG.out (hs.extract k (k + 1)))
        have HL2 := Lib.hid (fun W (h : OwnGr W B2 p) => (by have := HLP.out (some ⟨B2, 0, none⟩) p.length W h.gr (hs.extract k (k + 1)); rw [HSAME.out k hlt, ← hlp] at this; exact this : Calls Tryz.prog 16 #[.slice (some ⟨B2, 0, none⟩) p.length p.length, .string (hs.extract k (k + 1))] W fun e w' => e = .returned (.tuple #[.string lp, .bool (loopB p (hs.extract k (k + 1)))]) ∧ Below W.heap.size W w'))
        rw [← hlp] at HL1
        have q1 : (lp.toList == lp.toList) = true := by simp
        clear hlp
        go_wp2_with fail
        refine HL1.out.mono ?_
        rintro e v1 ⟨rfl, d1⟩
        have HGa := Lib.hid (HG.out.below d1)
        have HPa := Lib.hid (HP.out.keepL d1)
        have HBa := Lib.hid (below_trans_self HB.out d1)
        have HXa := Lib.hid (HX.out.below d1)
        have HYa := Lib.hid (HY.out.below d1)
        clear d1
        go_wp2_with fail
        refine (HL2.out v1 HPa.out).mono ?_
        rintro e v2 ⟨rfl, d2⟩
        have HGb := Lib.hid (HGa.out.below d2)
        have HPb := Lib.hid (HPa.out.keepL d2)
        have HBb := Lib.hid (below_trans_self HBa.out d2)
        have HXb := Lib.hid (HXa.out.below d2)
        have HYb := Lib.hid (HYa.out.below d2)
        clear d2
        go_wp2_with fail
        go_roundw
        case rel => exact ⟨k + 1, by omega, by go_num, HGb.out, HPb.out, HXb.out, HYb.out, HBb.out⟩
        case measure => simp [intOf]; omega
      · go_wp2_with fail
        refine (sjTexts_any A6 A7 c6 c7 ps wr HX.out HY.out hpl).mono ?_
        rintro e v3 ⟨rfl, d3⟩
        have HGc := Lib.hid (HG.out.below d3)
        have HPc := Lib.hid (HP.out.keepL d3)
        have HBc := Lib.hid (below_trans_self HB.out d3)
        clear d3
        go_wp2_with fail
        refine (HTI.out v3 HGc.out).mono ?_
        rintro e v4 ⟨rfl, d4⟩
        have HPd := Lib.hid (HPc.out.keepL d4)
        have HBd := Lib.hid (below_trans_self HBc.out d4)
        clear d4
        go_wp2_with fail
        refine (HTP.out _ _ v4 HPd.out.gr).mono ?_
        rintro e v5 ⟨rfl, d5⟩
        have HBe := Lib.hid (below_trans_self HBd.out d5)
        clear d5
        go_wp2_with fail
        go_ret
        exact ⟨rfl, HBe.out⟩
  · have hv : validB g = false := by simpa using hv
    have HPI := Lib.hid (fun W (h : Gr W A1 g) => implPrune_no A1 c1 g W h (by omega) hv)
    have HPS := Lib.hid (fun W (h : Gr W A1 g) => (specPrune_no A1 c1 g W h (by omega) hc1 hv).mono fun e w' h => show ∃ u, e = .returned (.tuple #[u, .bool false]) ∧ Below W.heap.size W w' from by
      obtain ⟨u, e1, _, e3⟩ := h
      exact ⟨u, e1, e3⟩)
    clear hv
    go_wp2_with fail
    refine (HPI.out w1 HG1.out).mono ?_
    rintro e w2 ⟨rfl, b2⟩
    have HG2 := Lib.hid (HG1.out.below b2)
    have HB2 := Lib.hid (below_trans_self HB1.out b2)
    clear b2
    go_wp2_with fail
    refine (HPS.out w2 HG2.out).mono ?_
    rintro e w3 ⟨u3, rfl, b3⟩
    have HB3 := Lib.hid (below_trans_self HB2.out b3)
    clear b3
    go_wp2_with fail
    go_ret
    exact ⟨rfl, HB3.out⟩
end Go.Proofs.YtdolbmonmkjajaaGreat
