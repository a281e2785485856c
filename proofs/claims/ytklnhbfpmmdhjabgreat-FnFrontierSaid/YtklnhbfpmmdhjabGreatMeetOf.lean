/-
  Contract of the program's MeetOf.
-/
import Derived.Test.YtklnhbfpmmdhjabGreatKids
import Derived.Test.YtklnhbfpmmdhjabGreatSpecMeet
namespace Go.Proofs.YtklnhbfpmmdhjabGreat
open Go.RowKit Go.Sort

set_option maxRecDepth 100000 in
set_option maxHeartbeats 1600000 in
theorem implMeet_any (A : Option Addr) (cap : Nat) (g : List Bl) (s t : ByteArray) (w : World) (hg : Gr w A g) (hn : g.length + tot g ≤ 1048576) :
    Calls Tryz.prog 18 #[.slice A g.length cap, .string s, .string t] w fun e w' => e = .returned (.tuple #[.string (meetV g s t), .bool (bothB g s t)]) ∧ Below w.heap.size w w' := by
  cases hv : validB g with
  | false =>
    have HC := Lib.hid (treeOf_no A cap g w hg hn hv)
    have H1 := Lib.hid (meetV_none1 (t := t) (liveOf_no (s := s) hv))
    have H2 := Lib.hid (both_none1 (t := t) (liveOf_no (s := s) hv))
    clear hv
    go_enter Tryz.func18, Tryz.ntmps18
    go_wp2_with fail
    refine HC.out.mono ?_
    rintro e w1 ⟨tb, rfl, hT, b1⟩
    have HT := Lib.hid hT
    clear hT
    go_wp2_with fail
    refine (treeNamed_no tb _ _ s w1 HT.out).mono ?_
    rintro e w2 ⟨rfl, rfl⟩
    go_wp2_with fail
    refine (treeNamed_no tb _ _ t w1 HT.out).mono ?_
    rintro e w2 ⟨rfl, rfl⟩
    go_wp2_with fail
    go_ret2
    exact ⟨ret_sb H1.out.symm H2.out.symm, b1⟩
  | true =>
    have HC := Lib.hid (treeOf_yes A cap g w hg hn hv)
    have HV := Lib.hid hv
    have HNA := Lib.hid (fun tb NB B off c1 S s w1 => treeNamed_any tb NB g B off c1 S s w1 hv)
    cases ha : liveOf g s with
    | none =>
      have H1 := Lib.hid (meetV_none1 (t := t) ha)
      have H2 := Lib.hid (both_none1 (t := t) ha)
      have HA := Lib.hid ha
      obtain ⟨tv, htv⟩ : ∃ tv : Nat → Value, ∀ NB, tv NB = ptrAt NB (liveOf g t) := ⟨fun NB => ptrAt NB (liveOf g t), fun _ => rfl⟩
      have HTV := Lib.hid htv
      have HTP := Lib.hid (fun NB => (by obtain ⟨u, hu⟩ := ptrAt_pointer NB (liveOf g t); exact ⟨u, (htv NB).trans hu⟩ : ∃ u, tv NB = .pointer u))
      clear hv ha htv
      go_enter Tryz.func18, Tryz.ntmps18
      go_wp2_with fail
      refine HC.out.mono ?_
      rintro e w1 ⟨tb, NB, B, off, c1, S, _, rfl, hT, b1⟩
      have n1 := HNA.out tb NB B off c1 S s w1 hT
      have n2 := HNA.out tb NB B off c1 S t w1 hT
      rw [HA.out] at n1
      rw [← HTV.out NB] at n2
      obtain ⟨u, hu⟩ := HTP.out NB
      rw [hu] at n2
      have N1 : Hid (Calls Tryz.prog 77 #[.pointer (some ⟨tb, 0, none⟩), .string s] w1 fun e w' => e = .returned (.pointer none) ∧ w1 = w') := n1
      have N2 := Lib.hid n2
      clear n1 n2 hT hu
      go_wp2_with fail
      refine N1.out.mono ?_
      rintro e w2 ⟨rfl, rfl⟩
      go_wp2_with fail
      refine N2.out.mono ?_
      rintro e w2 ⟨rfl, rfl⟩
      go_wp2_with fail
      go_ret2
      exact ⟨ret_sb H1.out.symm H2.out.symm, b1⟩
    | some a =>
      have HA := Lib.hid ha
      cases hb : liveOf g t with
      | none =>
        have H1 := Lib.hid (meetV_none2 (s := s) hb)
        have H2 := Lib.hid (both_none2 (s := s) hb)
        have HB := Lib.hid hb
        clear hv ha hb
        go_enter Tryz.func18, Tryz.ntmps18
        go_wp2_with fail
        refine HC.out.mono ?_
        rintro e w1 ⟨tb, NB, B, off, c1, S, _, rfl, hT, b1⟩
        have n1 := HNA.out tb NB B off c1 S s w1 hT
        have n2 := HNA.out tb NB B off c1 S t w1 hT
        rw [HA.out] at n1
        rw [HB.out] at n2
        have N1 : Hid (Calls Tryz.prog 77 #[.pointer (some ⟨tb, 0, none⟩), .string s] w1 fun e w' => e = .returned (nptr NB a) ∧ w1 = w') := n1
        have N2 : Hid (Calls Tryz.prog 77 #[.pointer (some ⟨tb, 0, none⟩), .string t] w1 fun e w' => e = .returned (.pointer none) ∧ w1 = w') := n2
        clear n1 n2 hT
        go_wp2_with fail
        refine N1.out.mono ?_
        rintro e w2 ⟨rfl, rfl⟩
        go_wp2_with fail
        refine N2.out.mono ?_
        rintro e w2 ⟨rfl, rfl⟩
        go_wp2_with fail
        go_ret2
        exact ⟨ret_sb H1.out.symm H2.out.symm, b1⟩
      | some b =>
        have H2 := Lib.hid (both_some ha hb)
        have HB := Lib.hid hb
        have h26 := (valid_iff.1 hv).2.1
        have HRA := Lib.hid (live_name ha).2.2.2
        have HRB := Lib.hid (live_name hb).2.2.2
        clear hv ha hb
        go_enter Tryz.func18, Tryz.ntmps18
        go_wp2_with fail
        refine HC.out.mono ?_
        rintro e w1 ⟨tb, NB, B, off, c1, S, _, rfl, hT, b1⟩
        have n1 := HNA.out tb NB B off c1 S s w1 hT
        have n2 := HNA.out tb NB B off c1 S t w1 hT
        rw [HA.out] at n1
        rw [HB.out] at n2
        have N1 : Hid (Calls Tryz.prog 77 #[.pointer (some ⟨tb, 0, none⟩), .string s] w1 fun e w' => e = .returned (nptr NB a) ∧ w1 = w') := n1
        have N2 : Hid (Calls Tryz.prog 77 #[.pointer (some ⟨tb, 0, none⟩), .string t] w1 fun e w' => e = .returned (nptr NB b) ∧ w1 = w') := n2
        have HT := Lib.hid hT
        have HB1 := Lib.hid b1
        clear n1 n2 hT b1
        go_wp2_with fail
        refine N1.out.mono ?_
        rintro e w2 ⟨rfl, rfl⟩
        go_wp2_with fail
        refine N2.out.mono ?_
        rintro e w2 ⟨rfl, rfl⟩
        go_wp2_with fail
        go_loopg [10] (domL g a).length (fun gk mv wr => ∃ m, gk = (domL g m).length ∧ mv = nptr NB m ∧ Hid (Climb g a b m) ∧ Below w1.heap.size w1 wr)
        case atStart => exact ⟨a, rfl, rfl, Climb.start g a b, Below.refl _ _⟩
        case round =>
          obtain ⟨m, rfl, rfl, HCL, hB⟩ := hrel
          have HTM := Lib.hid (HT.out.below hB)
          have HBM := Lib.hid hB
          have HRM := Lib.hid (HCL.out.dom.live HRA.out)
          have hml := HRM.out.lt HV.out
          have nd := treeDom_any tb NB g B off c1 S m b wr HV.out HTM.out hml HRB.out
          clear hB
          cases hd : dmB g m b with
          | true =>
            rw [hd] at nd
            have ND := Lib.hid nd
            have HM := Lib.hid (show nthName g m = meetV g s t from (meetV_some HA.out HB.out (meetN_is HV.out HRA.out (HCL.out.done ((dmB_iff HV.out).1 hd)))).symm)
            have x1 : wr.cell? ⟨nb NB m, 1, none⟩ = some (.string (nthName g m)) := by have := (HTM.out.nodes m hml).cell 1; rw [nthName_at hml]; simpa using this
            clear nd hd
            go_wp2_with fail
            refine ND.out.mono ?_
            rintro e w2 ⟨rfl, m2, rfl⟩
            go_wp2_with fail
            go_ret2
            exact ⟨ret_sb HM.out H2.out.symm, below_trans_self HB1.out (below_trans_self HBM.out (below_drewN _ m2))⟩
          | false =>
            rw [hd] at nd
            have ND := Lib.hid nd
            have hnd : ¬ Dm g m b := fun e => by rw [(dmB_iff HV.out).2 e] at hd; cases hd
            have hm0 : m ≠ 0 := fun e => hnd (e ▸ Dm.entry g b)
            obtain ⟨p, hp⟩ := par_some HV.out HRM.out hm0
            have HP := Lib.hid hp
            have HL := Lib.hid (domL_par HV.out HRM.out hp)
            have cp := HTM.out.parent HV.out HRM.out
            rw [(parL_iff HV.out HRM.out).2 hp] at cp
            have cp' : wr.cell? ⟨tb, 27 + m, none⟩ = some (nptr NB p) := cp
            have x0 : wr.cell? ⟨nb NB m, 0, none⟩ = some (.int .i64 m) := by have := (HTM.out.nodes m hml).cell 0; simpa using this
            have HND := Lib.hid hnd
            have m0 : (0 : Int) ≤ (m : Int) := by omega
            have m1 : (m : Int) < 26 := by omega
            have m2' : m < 26 := by omega
            clear nd hd hnd hm0 hp cp
            go_wp2_with fail
            refine ND.out.mono ?_
            rintro e w2 ⟨rfl, m2, rfl⟩
            have cp6 : (wr.drewN m2).cell? ⟨tb, 27 + m, none⟩ = some (nptr NB p) := cp'
            have x06 : (wr.drewN m2).cell? ⟨nb NB m, 0, none⟩ = some (.int .i64 m) := x0
            have HB6 := Lib.hid (HBM.out.trans ((below_drewN wr m2).mono HBM.out.size))
            obtain ⟨wq, hwq⟩ : ∃ wq, wq = wr.drewN m2 := ⟨_, rfl⟩
            rw [← hwq] at cp6 x06 HB6 ⊢
            clear hwq cp' x0
            go_wp2_with fail
            go_quiet (fail)
            go_wp2_with fail
            gi_roundg ((domL g p).length)
            case measure => rw [HL.out]; simp
            case rel => exact ⟨p, rfl, rfl, HCL.out.up HND.out HP.out, HB6.out.trans ((below_drewN wq nq).mono HB6.out.size)⟩
end Go.Proofs.YtklnhbfpmmdhjabGreat
