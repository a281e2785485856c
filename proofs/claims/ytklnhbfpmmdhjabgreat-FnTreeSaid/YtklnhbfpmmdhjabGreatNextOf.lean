/-
  Contracts of NextOf, the program's and the model's.
-/
import Derived.Test.YtklnhbfpmmdhjabGreatNodes
namespace Go.Proofs.YtklnhbfpmmdhjabGreat
open Go.RowKit Go.Sort


set_option maxRecDepth 100000 in
theorem implNext_any (A : Option Addr) (cap : Nat) (g : List Bl) (s : ByteArray) (w : World) (hg : Gr w A g) (hn : g.length + tot g ≤ 1048576) :
    Calls Tryz.prog 30 #[.slice A g.length cap, .string s] w fun e w' => e = .returned (.tuple #[.string (nextVal g s), .bool (nextHas g s)]) ∧ Below w.heap.size w w' := by
  by_cases hv : validB g = true
  · have HC := Lib.hid (nodesOf_yes A cap g w hg hn hv)
    have h26 := (valid_iff.1 hv).2.1
    cases hp : posOf g s with
    | none =>
      have H1 := Lib.hid (nextVal_none (g := g) hp)
      have H2 := Lib.hid (nextHas_none (g := g) hp)
      have HP := Lib.hid hp
      clear hp hv
      go_enter Tryz.func30, Tryz.ntmps30
      go_wp2_with fail
      refine HC.out.mono ?_
      rintro e w1 ⟨NB, hle, rfl, hN, b1⟩
      have hx := named_any NB g _ g.length s w1 hN h26
      rw [HP.out] at hx
      have HX : Hid (Calls Tryz.prog 83 #[.slice (some ⟨NB, 0, none⟩) g.length g.length, .string s] w1 fun e w' => e = .returned (.pointer none) ∧ w1 = w') := hx
      clear hx hN
      go_wp2_with fail
      refine HX.out.mono ?_
      rintro e w2 ⟨rfl, rfl⟩
      go_wp2_with fail
      go_ret2
      exact ⟨ret_sb H1.out.symm H2.out.symm, b1⟩
    | some i =>
      obtain ⟨hi, _⟩ := posOf_is hp
      have H1 := Lib.hid (nextVal_some hv hp hi)
      have H2 := Lib.hid (nextHas_some hv hp)
      have HP := Lib.hid hp
      have HT := Lib.hid hv
      clear hp hv
      go_enter Tryz.func30, Tryz.ntmps30
      go_wp2_with fail
      refine HC.out.mono ?_
      rintro e w1 ⟨NB, hle, rfl, hN, b1⟩
      have hx := named_any NB g _ g.length s w1 hN h26
      rw [HP.out] at hx
      have HX : Hid (Calls Tryz.prog 83 #[.slice (some ⟨NB, 0, none⟩) g.length g.length, .string s] w1 fun e w' => e = .returned (.pointer (some ⟨nb NB i, 0, none⟩)) ∧ w1 = w') := hx
      have x2 := (hN.node i hi).cell 2
      obtain ⟨T, v, F, hd⟩ := disp (NB := NB) HT.out hi
      have hE : ends NB g i = .iface T v := by unfold ends; rw [nthNext_at hi]; exact hd.val
      rw [hE] at x2
      have hlook := hd.look
      have hent := hd.enter
      have HD := Lib.hid hd.goes
      have hs2 := (nextB_iff.1 (nextsB_iff.1 (valid_iff.1 HT.out).2.2.2 i hi)).1
      have HS2 := Lib.hid hs2
      have HNN := Lib.hid hN
      clear hE hd hN hs2 hx
      go_wp2_with fail
      refine HX.out.mono ?_
      rintro e w2 ⟨rfl, rfl⟩
      go_wp2_with fail
      refine (HD.out _ _ HNN.out).mono ?_
      rintro e w3 ⟨A3, rfl, hp3, b3⟩
      have hj := join_any A3 g[i].2.size (goList NB g g[i].2) w3 hp3 (by rw [goList_length NB g HS2.out]; have := HS2.out; omega) (by rw [joined_goes NB g HS2.out]; have := HS2.out; omega)
      rw [joined_goes NB g HS2.out, goList_length NB g HS2.out] at hj
      have HJ := Lib.hid hj
      clear hlook hent hj hp3
      go_wp2_with fail
      refine HJ.out.mono ?_
      rintro e w4 ⟨rfl, b4⟩
      go_wp2_with fail
      go_ret2
      exact ⟨ret_sb H1.out.symm H2.out.symm, below_trans_self (below_trans_self b1 b3) b4⟩
  · have hv' : validB g = false := by simpa using hv
    have HC := Lib.hid (nodesOf_no A cap g w hg hn hv')
    have H1 := Lib.hid (nextVal_no (s := s) hv')
    have H2 := Lib.hid (nextHas_no (s := s) hv')
    clear hv hv'
    go_enter Tryz.func30, Tryz.ntmps30
    go_wp2_with fail
    refine HC.out.mono ?_
    rintro e w1 ⟨rfl, b1⟩
    go_wp2_with fail
    refine (named_nil s w1 none 0).mono ?_
    rintro e w2 ⟨rfl, rfl⟩
    go_wp2_with fail
    go_ret2
    exact ⟨ret_sb H1.out.symm H2.out.symm, b1⟩
end Go.Proofs.YtklnhbfpmmdhjabGreat
