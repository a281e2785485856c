/-
  The law FnDeeper, walked.
-/
import Derived.Test.YtdolbmonmkjajaaGreatDrawLoops
import Derived.Test.YtdolbmonmkjajaaGreatLoopsOf
import Derived.Test.YtdolbmonmkjajaaGreatSpecBack
import Derived.Test.YtdolbmonmkjajaaGreatParentOf
namespace Go.Proofs.YtdolbmonmkjajaaGreat
open Go.RowKit Go.Sort

theorem dom_name {g : List Bl} (hv : validB g = true) {a b : Nat} (ha : Rch g [] a) (hb : Rch g [] b) : domB g (nthName g a) (nthName g b) = dmB g a b := domB_some (live_of hv ha) (live_of hv hb)

set_option maxRecDepth 100000 in
set_option maxHeartbeats 6400000 in
theorem deeper_walk (A : Option Addr) (la ca : Nat) (w : World) (hA : Bytes w A la) (h1 : la ≤ ca) (h3 : ca ≤ 9223372036854775807) :
    Calls Tryz.prog 11 #[.slice A la ca] w fun e w' => e = .returned (.bool true) ∧ Below w.heap.size w w' := by
  by_cases g1 : (1048576 : Int) < la
  · clear hA
    go_enter Tryz.func11, Tryz.ntmps11
    go_wp2_with fail
    go_ret
    exact ⟨rfl, Below.refl _ _⟩
  have HA := Lib.hid (drawLoopOf_any A la ca w hA h1 h3)
  clear hA
  go_enter Tryz.func11, Tryz.ntmps11
  go_wp2_with fail
  refine HA.out.mono ?_
  intro e w1 hd1
  obtain ⟨A1, c1, g, nm, rfl, hc1, gg, hn1, hnm, b1⟩ := drawnPlace_of hd1
  have HB1 := Lib.hid b1
  have HG1 := Lib.hid gg
  clear hd1 b1 gg
  obtain ⟨x, hx⟩ : ∃ x, x = loopV g nm := ⟨_, rfl⟩
  obtain ⟨v, hvb⟩ : ∃ v, v = loopB g nm := ⟨_, rfl⟩
  have HLI := Lib.hid (fun W (h : Gr W A1 g) => (hx ▸ hvb ▸ implLoopOf_any A1 c1 g nm W h (by omega) : Calls Tryz.prog 16 #[.slice A1 g.length c1, .string nm] W fun e w' => e = .returned (.tuple #[.string x, .bool v]) ∧ Below W.heap.size W w'))
  have HLS := Lib.hid (fun W (h : Gr W A1 g) => (hx ▸ hvb ▸ specLoopOf_any A1 c1 g nm W h (by omega) hc1 : Calls Tryz.prog 14 #[.slice A1 g.length c1, .string nm] W fun e w' => e = .returned (.tuple #[.string x, .bool v]) ∧ Below W.heap.size W w'))
  have HX := Lib.hid hx
  have HV := Lib.hid hvb
  clear hx hvb
  go_wp2_with fail
  refine (HLI.out w1 HG1.out).mono ?_
  rintro e w2 ⟨rfl, b2⟩
  have HG2 := Lib.hid (HG1.out.below b2)
  have HB2 := Lib.hid (below_trans_self HB1.out b2)
  clear b2
  go_wp2_with fail
  refine (HLS.out w2 HG2.out).mono ?_
  rintro e w3 ⟨rfl, b3⟩
  have HG3 := Lib.hid (HG2.out.below b3)
  have HB3 := Lib.hid (below_trans_self HB2.out b3)
  clear b3
  have t3 : (v != v) = false := by simp
  obtain ⟨tm, htm⟩ : ∃ tm, tm = tameB g := ⟨_, rfl⟩
  have HTM := Lib.hid (fun W (h : Gr W A1 g) => (htm ▸ implIsTame_any A1 c1 g W h (by omega) : Calls Tryz.prog 35 #[.slice A1 g.length c1] W fun e w' => e = .returned (.bool tm) ∧ Below W.heap.size W w'))
  clear htm
  cases hh : headOf g nm with
  | none =>
    obtain rfl : v = false := by rw [HV.out, loopB_none hh]
    have t5 : x.toList = [] := by rw [HX.out, loopV_none hh, Lib.toList_data]
    clear hh
    go_wp2_with fail
    go_ret
    exact ⟨rfl, HB3.out⟩
  | some i =>
    obtain rfl : v = true := by rw [HV.out, loopB_some hh]
    obtain ⟨hv, hhm, hne⟩ := headOf_nm hh
    have hir := head_live hv hhm
    have hil := hir.lt hv
    have hxe : x = namesAt g (loopL g i) := by rw [HX.out, loopV_some hh]
    have hxz : x.size = (loopL g i).length := by rw [hxe]; exact namesAt_size hv _ (loopL_lt i)
    have hx26 : x.size ≤ 26 := by have := loop_small hv i; omega
    have hdp : depthV g nm = (depthN g i : Int) := by rw [hne]; exact depthV_some (live_of hv hir)
    have hd1 := depth_head hv hhm
    obtain ⟨d, hd⟩ : ∃ d, d = depthN g i := ⟨_, rfl⟩
    rw [← hd] at hdp hd1
    have HDI := Lib.hid (fun W (h : Gr W A1 g) => (hdp ▸ implDepth_any A1 c1 g nm W h (by omega) : Calls Tryz.prog 19 #[.slice A1 g.length c1, .string nm] W fun e w' => e = .returned (.int .i64 (d : Int)) ∧ Below W.heap.size W w'))
    have HDX := Lib.hid (fun W (h : Gr W A1 g) s => implDepth_any A1 c1 g s W h (by omega))
    have HDM := Lib.hid (fun W (h : Gr W A1 g) s => implDominates_any A1 c1 g nm s W h (by omega))
    have HROUND := Lib.hid (fun k (hk : k < x.size) => (by
      have hk' : k < (loopL g i).length := by omega
      have hm : (loopL g i)[k] ∈ loopL g i := List.getElem_mem hk'
      have hr := loop_live hv hir hm
      have he : x.extract k (k + 1) = nthName g (loopL g i)[k] := by rw [hxe]; exact names_at hv (loopL_lt i) hk'
      refine ⟨depthN g (loopL g i)[k], by rw [hd]; exact depth_in hv hir hm, by rw [he]; exact depthV_some (live_of hv hr), ?_⟩
      rw [he, hne, dom_name hv hir hr]
      exact (dmB_iff hv).2 (loop_dom hv hil hm) : ∃ m : Nat, d ≤ m ∧ depthV g (x.extract k (k + 1)) = m ∧ domB g nm (x.extract k (k + 1)) = true))
    obtain ⟨pn, hpn⟩ : ∃ pn, pn = parV g nm := ⟨_, rfl⟩
    obtain ⟨po, hpo⟩ : ∃ po, po = parO g nm := ⟨_, rfl⟩
    have HPI := Lib.hid (fun W (h : Gr W A1 g) => (hpn ▸ hpo ▸ implParent_any A1 c1 g nm W h (by omega) : Calls Tryz.prog 46 #[.slice A1 g.length c1, .string nm] W fun e w' => e = .returned (.tuple #[.string pn, .bool po]) ∧ Below W.heap.size W w'))
    have HPAR := Lib.hid (show po = false ∨ (po = true ∧ ∃ m : Nat, d ≤ m + 1 ∧ depthV g pn = m) by
      cases hp : parL g i with
      | none => left; rw [hpo, hne]; unfold parO; rw [live_of hv hir]; simp [hp]
      | some p =>
        right
        have hpar := (parL_iff hv hir).1 hp
        refine ⟨by rw [hpo, hne]; unfold parO; rw [live_of hv hir]; simp [hp], depthN g p, by rw [hd]; exact depth_par hv hpar, ?_⟩
        have : pn = nthName g p := by rw [hpn, hne]; unfold parV; rw [live_of hv hir]; exact parS_some hp
        rw [this]; exact depthV_some (live_of hv hpar.2.1))
    have t6 : decide ((1 : Int) ≤ (d : Int)) = true := by simp; omega
    have s4 : IntKind.i64.wrap ((d : Int) - 1) = (d : Int) - 1 := IntWalk.i64_in _ (by
      have : d ≤ 26 := by
        rw [hd]; unfold depthN
        have := List.countP_le_length (p := fun h => decide (i ∈ loopL g h)) (l := headL g)
        have := head_small hv
        omega
      omega)
    clear hh hv hhm hne hir hil hxe hdp hd hpn hpo
    cases tm with
    | false =>
      go_wp2_with fail
      refine (HTM.out w3 HG3.out).mono ?_
      rintro e w4 ⟨rfl, b4⟩
      have HB4 := Lib.hid (below_trans_self HB3.out b4)
      clear b4
      go_wp2_with fail
      go_ret
      exact ⟨rfl, HB4.out⟩
    | true =>
      go_wp2_with fail
      refine (HTM.out w3 HG3.out).mono ?_
      rintro e w4 ⟨rfl, b4⟩
      have HG4 := Lib.hid (HG3.out.below b4)
      have HB4 := Lib.hid (below_trans_self HB3.out b4)
      clear b4
      go_wp2_with fail
      refine (HDI.out w4 HG4.out).mono ?_
      rintro e w5 ⟨rfl, b5⟩
      have HG5 := Lib.hid (HG4.out.below b5)
      have HB5 := Lib.hid (below_trans_self HB4.out b5)
      clear b5
      go_wp2_with fail
      go_loopw [53] (fun iv wr => ∃ k : Nat, k ≤ x.size ∧ iv = .int .i64 k ∧ Hid (Gr wr A1 g) ∧ Hid (Below w.heap.size w wr)) (fun iv _ => x.size - (intOf iv).toNat)
      case atStart => exact ⟨0, Nat.zero_le _, rfl, HG5.out, HB5.out⟩
      case round =>
        obtain ⟨k, hk, rfl, HG, HB⟩ := hrel
        by_cases hlt : k < x.size
        · have hk1 : k + 1 ≤ x.size := by omega
          obtain ⟨m, hm, hmd, hdom⟩ := HROUND.out k hlt
          have HDQ := Lib.hid (HDX.out wr HG.out (x.extract k (k + 1)))
          rw [hmd] at HDQ
          have q1 : decide ((m : Int) < (d : Int)) = false := by simp; omega
          have HMQ := Lib.hid (fun W h => HDM.out W h (x.extract k (k + 1)))
          rw [hdom] at HMQ
          clear hmd hdom
          go_wp2_with fail
          refine HDQ.out.mono ?_
          rintro e w6 ⟨rfl, b6⟩
          have HG6 := Lib.hid (HG.out.below b6)
          have HB6 := Lib.hid (below_trans_self HB.out b6)
          clear b6
          go_wp2_with fail
          refine (HMQ.out w6 HG6.out).mono ?_
          rintro e w7 ⟨rfl, b7⟩
          have HG7 := Lib.hid (HG6.out.below b7)
          have HB7 := Lib.hid (below_trans_self HB6.out b7)
          clear b7
          go_wp2_with fail
          go_roundw
          case rel => exact ⟨k + 1, by omega, by go_num, HG7.out, HB7.out⟩
          case measure => simp [intOf]; omega
        · go_wp2_with fail
          refine (HPI.out wr HG.out).mono ?_
          rintro e w8 ⟨rfl, b8⟩
          have HG8 := Lib.hid (HG.out.below b8)
          have HB8 := Lib.hid (below_trans_self HB.out b8)
          clear b8
          rcases HPAR.out with hpo | ⟨hpo, m, hm, hmd⟩
          · subst hpo
            go_wp2_with fail
            go_ret
            exact ⟨rfl, HB8.out⟩
          · subst hpo
            have HDQ := Lib.hid (HDX.out w8 HG8.out pn)
            rw [hmd] at HDQ
            have q1 : decide ((d : Int) - 1 ≤ (m : Int)) = true := by simp; omega
            clear hmd
            go_wp2_with fail
            refine HDQ.out.mono ?_
            rintro e w9 ⟨rfl, b9⟩
            have HB9 := Lib.hid (below_trans_self HB8.out b9)
            clear b9
            go_wp2_with fail
            go_ret
            exact ⟨rfl, HB9.out⟩
end Go.Proofs.YtdolbmonmkjajaaGreat
