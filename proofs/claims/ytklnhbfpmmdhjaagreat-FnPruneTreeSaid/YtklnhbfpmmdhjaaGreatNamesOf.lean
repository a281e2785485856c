/-
  Contracts of NamesOf, the program's and the model's.
-/
import Derived.Test.YtklnhbfpmmdhjaaGreatNodes
namespace Go.Proofs.YtklnhbfpmmdhjaaGreat
open Go.RowKit Go.Sort

/-- What NamesOf returns. -/
def namesVal (g : List Bl) : ByteArray := if validB g then names g else ⟨#[]⟩

theorem namesVal_yes {g : List Bl} (h : validB g = true) : namesVal g = names g := by unfold namesVal; rw [if_pos h]
theorem namesVal_no {g : List Bl} (h : validB g = false) : namesVal g = ⟨#[]⟩ := by unfold namesVal; rw [h]; rfl

theorem implNames_any (A : Option Addr) (cap : Nat) (g : List Bl) (w : World) (hg : Gr w A g) (hn : g.length + tot g ≤ 1048576) :
    Calls Tryz.prog 18 #[.slice A g.length cap] w fun e w' => e = .returned (.tuple #[.string (namesVal g), .bool (validB g)]) ∧ Below w.heap.size w w' := by
  by_cases hv : validB g = true
  · have HV := Lib.hid (namesVal_yes hv)
    have HC := Lib.hid (nodesOf_yes A cap g w hg hn hv)
    have HT := Lib.hid hv
    clear hv
    go_enter Tryz.func18, Tryz.ntmps18
    go_wp2_with fail
    refine HC.out.mono ?_
    rintro e w1 ⟨NB, hle, rfl, hN, b1⟩
    have HN := Lib.hid hN
    clear hN
    go_wp2_with fail
    have hj := join_any (some ⟨NB, 0, none⟩) g.length (nodeList NB g) w1 HN.out.pts (by rw [nodeList_length]; omega) (by rw [joined_nodes]; have := names_size_le g; omega)
    rw [joined_nodes, nodeList_length] at hj
    refine hj.mono ?_
    rintro e w2 ⟨rfl, b2⟩
    go_wp2_with fail
    go_ret2
    exact ⟨ret_sb HV.out.symm HT.out.symm, below_trans_self b1 b2⟩
  · have hv' : validB g = false := by simpa using hv
    have HV := Lib.hid (namesVal_no hv')
    have HC := Lib.hid (nodesOf_no A cap g w hg hn hv')
    have HT := Lib.hid hv'
    clear hv hv'
    go_enter Tryz.func18, Tryz.ntmps18
    go_wp2_with fail
    refine HC.out.mono ?_
    rintro e w1 ⟨rfl, b1⟩
    go_wp2_with fail
    refine (join_none none 0 w1).mono ?_
    rintro e w2 ⟨rfl, b2⟩
    go_wp2_with fail
    go_ret2
    exact ⟨ret_sb HV.out.symm HT.out.symm, below_trans_self b1 b2⟩

end Go.Proofs.YtklnhbfpmmdhjaaGreat
