import Derived.Test.YtlkfakdghjaoaaaGreatDoorKids
namespace Go.Proofs.YtlkfakdghjaoaaaGreatDoor
open Go.RowKit Go.Sort
set_option maxRecDepth 100000 in
set_option maxHeartbeats 1600000 in
theorem implParent_any (A : Option Addr) (cap : Nat) (g : List Bl) (s : ByteArray) (w : World) (hg : Gr w A g) (hn : g.length + tot g ≤ 1048576) :
  Calls Tryz.prog 43 #[.slice A g.length cap, .string s] w fun e w' => e = .returned (.tuple #[.string (parV g s), .bool (parO g s)]) ∧ Below w.heap.size w w' := by
 cases hv : validB g with
 | false =>
  have HC := Lib.hid (treeOf_no A cap g w hg hn hv)
  have H1 := Lib.hid (show (⟨#[]⟩ : ByteArray) = parV g s by unfold parV; rw [liveOf_no hv])
  have H2 := Lib.hid (show false = parO g s by unfold parO; rw [liveOf_no hv])
  clear hv
  go_enter Tryz.func43, Tryz.ntmps43
  go_wp2_with fail
  refine HC.out.mono ?_
  rintro e w1 ⟨tb, rfl, hT, b1⟩
  have HT := Lib.hid hT
  clear hT
  go_wp2_with fail
  refine (treeNamed_no tb _ _ s w1 HT.out).mono ?_
  rintro e w2 ⟨rfl, rfl⟩
  go_wp2_with fail
  go_quiet (fail)
  go_wp2_with fail
  go_ret2
  exact ⟨ret_sb H1.out H2.out, below_trans_self b1 (below_drewN _ nq)⟩
 | true =>
  have HC := Lib.hid (treeOf_yes A cap g w hg hn hv)
  have HV := Lib.hid hv
  have HNA := Lib.hid (fun tb NB B off c1 S s w1 => treeNamed_any tb NB g B off c1 S s w1 hv)
  cases ha : liveOf g s with
  | none =>
   have H1 := Lib.hid (show (⟨#[]⟩ : ByteArray) = parV g s by unfold parV; rw [ha])
   have H2 := Lib.hid (show false = parO g s by unfold parO; rw [ha])
   have HA := Lib.hid ha
   clear hv ha
   go_enter Tryz.func43, Tryz.ntmps43
   go_wp2_with fail
   refine HC.out.mono ?_
   rintro e w1 ⟨tb, NB, B, off, c1, S, _, rfl, hT, b1⟩
   have n1 := HNA.out tb NB B off c1 S s w1 hT
   rw [HA.out] at n1
   have N1 : Hid (Calls Tryz.prog 81 #[.pointer (some ⟨tb, 0, none⟩), .string s] w1 fun e w' => e = .returned (.pointer none) ∧ w1 = w') := n1
   clear n1 hT
   go_wp2_with fail
   refine N1.out.mono ?_
   rintro e w2 ⟨rfl, rfl⟩
   go_wp2_with fail
   go_quiet (fail)
   go_wp2_with fail
   go_ret2
   exact ⟨ret_sb H1.out H2.out, below_trans_self b1 (below_drewN _ nq)⟩
  | some n =>
   have HA := Lib.hid ha
   have HR := Lib.hid (live_name ha).2.2.2
   have h26 := (valid_iff.1 hv).2.1
   have hnl := (live_name ha).2.1
   have n0 : (0 : Int) ≤ (n : Int) := by omega
   have n1' : (n : Int) < 26 := by omega
   have n2' : n < 26 := by omega
   have H1 := Lib.hid (show parS g n = parV g s by unfold parV; rw [ha])
   cases hp : parL g n with
   | none =>
    have H1' := Lib.hid (show (⟨#[]⟩ : ByteArray) = parV g s by rw [← H1.out, parS_none hp])
    have H2 := Lib.hid (show false = parO g s by unfold parO; rw [ha]; show false = (parL g n).isSome; rw [hp]; rfl)
    have HP := Lib.hid hp
    clear hv ha hp
    go_enter Tryz.func43, Tryz.ntmps43
    go_wp2_with fail
    refine HC.out.mono ?_
    rintro e w1 ⟨tb, NB, B, off, c1, S, _, rfl, hT, b1⟩
    have n1 := HNA.out tb NB B off c1 S s w1 hT
    rw [HA.out] at n1
    have N1 : Hid (Calls Tryz.prog 81 #[.pointer (some ⟨tb, 0, none⟩), .string s] w1 fun e w' => e = .returned (nptr NB n) ∧ w1 = w') := n1
    have x0 : w1.cell? ⟨nb NB n, 0, none⟩ = some (.int .i64 n) := by have := (hT.nodes n hnl).cell 0; simpa using this
    have cp := hT.parent HV.out HR.out
    rw [HP.out] at cp
    have cp' : w1.cell? ⟨tb, 27 + n, none⟩ = some (.pointer none) := cp
    clear n1 hT cp
    go_wp2_with fail
    refine N1.out.mono ?_
    rintro e w2 ⟨rfl, rfl⟩
    go_wp2_with fail
    go_quiet (fail)
    go_wp2_with fail
    go_ret2
    exact ⟨ret_sb H1'.out H2.out, below_trans_self b1 (below_drewN _ nq)⟩
   | some p =>
    have H1' := Lib.hid (show nthName g p = parV g s by rw [← H1.out, parS_some hp])
    have H2 := Lib.hid (show true = parO g s by unfold parO; rw [ha]; show true = (parL g n).isSome; rw [hp]; rfl)
    have HP := Lib.hid hp
    have HPL := Lib.hid (((parL_iff hv HR.out).1 hp).2.1.lt hv)
    clear hv ha hp
    go_enter Tryz.func43, Tryz.ntmps43
    go_wp2_with fail
    refine HC.out.mono ?_
    rintro e w1 ⟨tb, NB, B, off, c1, S, _, rfl, hT, b1⟩
    have n1 := HNA.out tb NB B off c1 S s w1 hT
    rw [HA.out] at n1
    have N1 : Hid (Calls Tryz.prog 81 #[.pointer (some ⟨tb, 0, none⟩), .string s] w1 fun e w' => e = .returned (nptr NB n) ∧ w1 = w') := n1
    have x0 : w1.cell? ⟨nb NB n, 0, none⟩ = some (.int .i64 n) := by have := (hT.nodes n hnl).cell 0; simpa using this
    have x1 : w1.cell? ⟨nb NB p, 1, none⟩ = some (.string (nthName g p)) := by have := (hT.nodes p HPL.out).cell 1; rw [nthName_at HPL.out]; simpa using this
    have cp := hT.parent HV.out HR.out
    rw [HP.out] at cp
    have cp' : w1.cell? ⟨tb, 27 + n, none⟩ = some (nptr NB p) := cp
    clear n1 hT cp
    go_wp2_with fail
    refine N1.out.mono ?_
    rintro e w2 ⟨rfl, rfl⟩
    go_wp2_with fail
    go_quiet (fail)
    rename Nat => q1
    go_wp2_with fail
    go_quiet (fail)
    go_wp2_with fail
    go_ret2
    exact ⟨ret_sb H1'.out H2.out, below_trans_self b1 (below_trans_self (below_drewN _ q1) (below_drewN _ nq))⟩
end Go.Proofs.YtlkfakdghjaoaaaGreatDoor
