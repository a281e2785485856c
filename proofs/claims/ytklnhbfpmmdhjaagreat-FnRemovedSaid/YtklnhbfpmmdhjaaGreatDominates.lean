/-
  Contract of the program's Dominates.
-/
import Derived.Test.YtklnhbfpmmdhjaaGreatTreeOf
import Derived.Test.YtklnhbfpmmdhjaaGreatSpecDom
namespace Go.Proofs.YtklnhbfpmmdhjaaGreat
open Go.RowKit Go.Sort

theorem treeDom_any (tb NB : Nat) (g : List Bl) (B off cap : Nat) (S : Nat → Nat) (a b : Nat) (w : World) (hv : validB g = true) (h : TreeAt w tb NB g B off cap S) (ha : a < g.length) (hb : Rch g [] b) :
    Calls Tryz.prog 55 #[.pointer (some ⟨tb, 0, none⟩), nptr NB a, nptr NB b] w fun e w' => e = .returned (.bool (dmB g a b)) ∧ ∃ m, w' = w.drewN m := by
  have := dominates_any tb NB _ S _ g a b w h.tree h.nodes (valid_iff.1 hv).2.1 ha (hb.lt hv) (h.small b)
  rwa [h.set hv hb] at this

set_option maxRecDepth 100000 in
set_option maxHeartbeats 1000000 in
theorem implDominates_any (A : Option Addr) (cap : Nat) (g : List Bl) (s t : ByteArray) (w : World) (hg : Gr w A g) (hn : g.length + tot g ≤ 1048576) :
    Calls Tryz.prog 24 #[.slice A g.length cap, .string s, .string t] w fun e w' => e = .returned (.bool (domB g s t)) ∧ Below w.heap.size w w' := by
  cases hv : validB g with
  | false =>
    have HC := Lib.hid (treeOf_no A cap g w hg hn hv)
    have H1 := Lib.hid (domB_none1 (t := t) (liveOf_no (s := s) hv))
    clear hv
    go_enter Tryz.func24, Tryz.ntmps24
    go_wp2_with fail
    refine HC.out.mono ?_
    rintro e w1 ⟨tb, rfl, hT, b1⟩
    have HT := Lib.hid hT
    clear hT
    go_wp2_with fail
    refine (treeNamed_no tb _ _ s w1 HT.out).mono ?_
    rintro e w2 ⟨rfl, rfl⟩
    go_wp2_with fail
    refine (treeNamed_no tb _ _ t w1 HT.out).mono ?_
    rintro e w2 ⟨rfl, rfl⟩
    go_wp2_with fail
    go_ret
    exact ⟨ret_bool H1.out.symm, b1⟩
  | true =>
    have HC := Lib.hid (treeOf_yes A cap g w hg hn hv)
    have HV := Lib.hid hv
    cases ha : liveOf g s with
    | none =>
      have H1 := Lib.hid (domB_none1 (t := t) ha)
      have HA := Lib.hid ha
      cases hb : liveOf g t with
      | none =>
        have HB := Lib.hid hb
        clear hv ha hb
        go_enter Tryz.func24, Tryz.ntmps24
        go_wp2_with fail
        refine HC.out.mono ?_
        rintro e w1 ⟨tb, NB, B, off, c1, S, _, rfl, hT, b1⟩
        have n1 := treeNamed_any tb NB g B off c1 S s w1 HV.out hT
        have n2 := treeNamed_any tb NB g B off c1 S t w1 HV.out hT
        rw [HA.out] at n1
        rw [HB.out] at n2
        have N1 : Hid (Calls Tryz.prog 40 #[.pointer (some ⟨tb, 0, none⟩), .string s] w1 fun e w' => e = .returned (.pointer none) ∧ w1 = w') := n1
        have N2 : Hid (Calls Tryz.prog 40 #[.pointer (some ⟨tb, 0, none⟩), .string t] w1 fun e w' => e = .returned (.pointer none) ∧ w1 = w') := n2
        clear n1 n2 hT
        go_wp2_with fail
        refine N1.out.mono ?_
        rintro e w2 ⟨rfl, rfl⟩
        go_wp2_with fail
        refine N2.out.mono ?_
        rintro e w2 ⟨rfl, rfl⟩
        go_wp2_with fail
        go_ret
        exact ⟨ret_bool H1.out.symm, b1⟩
      | some b =>
        have HB := Lib.hid hb
        clear hv ha hb
        go_enter Tryz.func24, Tryz.ntmps24
        go_wp2_with fail
        refine HC.out.mono ?_
        rintro e w1 ⟨tb, NB, B, off, c1, S, _, rfl, hT, b1⟩
        have n1 := treeNamed_any tb NB g B off c1 S s w1 HV.out hT
        have n2 := treeNamed_any tb NB g B off c1 S t w1 HV.out hT
        rw [HA.out] at n1
        rw [HB.out] at n2
        have N1 : Hid (Calls Tryz.prog 40 #[.pointer (some ⟨tb, 0, none⟩), .string s] w1 fun e w' => e = .returned (.pointer none) ∧ w1 = w') := n1
        have N2 : Hid (Calls Tryz.prog 40 #[.pointer (some ⟨tb, 0, none⟩), .string t] w1 fun e w' => e = .returned (nptr NB b) ∧ w1 = w') := n2
        clear n1 n2 hT
        go_wp2_with fail
        refine N1.out.mono ?_
        rintro e w2 ⟨rfl, rfl⟩
        go_wp2_with fail
        refine N2.out.mono ?_
        rintro e w2 ⟨rfl, rfl⟩
        go_wp2_with fail
        go_ret
        exact ⟨ret_bool H1.out.symm, b1⟩
    | some a =>
      have HA := Lib.hid ha
      cases hb : liveOf g t with
      | none =>
        have H1 := Lib.hid (domB_none2 (s := s) hb)
        have HB := Lib.hid hb
        clear hv ha hb
        go_enter Tryz.func24, Tryz.ntmps24
        go_wp2_with fail
        refine HC.out.mono ?_
        rintro e w1 ⟨tb, NB, B, off, c1, S, _, rfl, hT, b1⟩
        have n1 := treeNamed_any tb NB g B off c1 S s w1 HV.out hT
        have n2 := treeNamed_any tb NB g B off c1 S t w1 HV.out hT
        rw [HA.out] at n1
        rw [HB.out] at n2
        have N1 : Hid (Calls Tryz.prog 40 #[.pointer (some ⟨tb, 0, none⟩), .string s] w1 fun e w' => e = .returned (nptr NB a) ∧ w1 = w') := n1
        have N2 : Hid (Calls Tryz.prog 40 #[.pointer (some ⟨tb, 0, none⟩), .string t] w1 fun e w' => e = .returned (.pointer none) ∧ w1 = w') := n2
        clear n1 n2 hT
        go_wp2_with fail
        refine N1.out.mono ?_
        rintro e w2 ⟨rfl, rfl⟩
        go_wp2_with fail
        refine N2.out.mono ?_
        rintro e w2 ⟨rfl, rfl⟩
        go_wp2_with fail
        go_ret
        exact ⟨ret_bool H1.out.symm, b1⟩
      | some b =>
        have H1 := Lib.hid (domB_some ha hb)
        have HB := Lib.hid hb
        have hal := (live_name ha).2.1
        have HRB := Lib.hid (live_name hb).2.2.2
        clear hv ha hb
        go_enter Tryz.func24, Tryz.ntmps24
        go_wp2_with fail
        refine HC.out.mono ?_
        rintro e w1 ⟨tb, NB, B, off, c1, S, _, rfl, hT, b1⟩
        have n1 := treeNamed_any tb NB g B off c1 S s w1 HV.out hT
        have n2 := treeNamed_any tb NB g B off c1 S t w1 HV.out hT
        rw [HA.out] at n1
        rw [HB.out] at n2
        have N1 : Hid (Calls Tryz.prog 40 #[.pointer (some ⟨tb, 0, none⟩), .string s] w1 fun e w' => e = .returned (nptr NB a) ∧ w1 = w') := n1
        have N2 : Hid (Calls Tryz.prog 40 #[.pointer (some ⟨tb, 0, none⟩), .string t] w1 fun e w' => e = .returned (nptr NB b) ∧ w1 = w') := n2
        have nd := treeDom_any tb NB g B off c1 S a b w1 HV.out hT hal HRB.out
        obtain ⟨d, hd⟩ : ∃ d, d = dmB g a b := ⟨_, rfl⟩
        rw [← hd] at nd
        have ND := Lib.hid nd
        have H2 : Hid (d = domB g s t) := hd.trans H1.out.symm
        clear n1 n2 nd hd hT
        go_wp2_with fail
        refine N1.out.mono ?_
        rintro e w2 ⟨rfl, rfl⟩
        go_wp2_with fail
        refine N2.out.mono ?_
        rintro e w2 ⟨rfl, rfl⟩
        go_wp2_with fail
        refine ND.out.mono ?_
        rintro e w2 ⟨rfl, m, rfl⟩
        go_wp2_with fail
        go_ret
        exact ⟨ret_bool H2.out, below_trans_self b1 (below_drewN _ m)⟩
end Go.Proofs.YtklnhbfpmmdhjaaGreat
