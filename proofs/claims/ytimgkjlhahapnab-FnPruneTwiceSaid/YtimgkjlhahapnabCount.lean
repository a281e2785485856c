/-
  Contracts of CountJumps, the program's and the model's.
-/
import Derived.Test.YtimgkjlhahapnabTargets
namespace Go.Proofs.Ytimgkjlhahapnab
open Go.RowKit Go.Sort

def nexts (g : List Bl) : Nat := (g.map (·.2.size)).sum

theorem nexts_take (g : List Bl) (k : Nat) (h : k < g.length) : nexts (g.take (k + 1)) = nexts (g.take k) + g[k].2.size := by
  unfold nexts
  rw [take_snoc' g k h, List.map_append, List.sum_append, List.map_cons, List.map_nil, List.sum_cons, List.sum_nil, Nat.add_zero]

theorem nexts_le (g : List Bl) : nexts g ≤ tot g := by
  induction g with
  | nil => exact Nat.le_refl 0
  | cons b g ih => unfold nexts at *; simp [tot]; omega

theorem nexts_take_le (g : List Bl) (k : Nat) : nexts (g.take k) ≤ tot g := Nat.le_trans (nexts_le _) (tot_take_le g k)

def countVal (g : List Bl) : Int := if validB g then nexts g else -1
theorem countVal_yes {g : List Bl} (h : validB g = true) : countVal g = nexts g := by unfold countVal; rw [if_pos h]
theorem countVal_no {g : List Bl} (h : validB g = false) : countVal g = -1 := by unfold countVal; rw [h]; rfl

set_option maxHeartbeats 400000 in
set_option maxRecDepth 100000 in
theorem implCount_any (A : Option Addr) (cap : Nat) (g : List Bl) (w : World) (hg : Gr w A g) (hn : g.length + tot g ≤ 1048576) :
    Calls Try.prog 27 #[.slice A g.length cap] w fun e w' => e = .returned (.int .i64 (countVal g)) ∧ Below w.heap.size w w' := by
  by_cases hv : validB g = true
  · have HV := Lib.hid (countVal_yes hv)
    have HC := Lib.hid (nodesOf_yes A cap g w hg hn hv)
    have HT := Lib.hid hv
    clear hv
    go_enter Try.func27, Try.ntmps27
    go_wp2_with fail
    refine HC.out.mono ?_
    rintro e w1 ⟨NB, hle, rfl, hN, b1⟩
    have HN := Lib.hid hN
    clear hN
    go_wp2_with fail
    go_loopw [5, 17] (fun c i wr => ∃ k : Nat, k ≤ g.length ∧ i = .int .i64 k ∧ c = .int .i64 (nexts (g.take k)) ∧ Nodes wr NB g (ends NB g) ∧ Below w.heap.size w wr) (fun _ i _ => g.length - (intOf i).toNat)
    case atStart => exact ⟨0, Nat.zero_le _, rfl, rfl, HN.out, b1⟩
    case round =>
      obtain ⟨k, hk, rfl, rfl, hN, hB⟩ := hrel
      have hle2 := nexts_take_le g k
      obtain ⟨m, hm⟩ : ∃ m, m = nexts (g.take k) := ⟨_, rfl⟩
      have HM := Lib.hid hm
      rw [← hm] at hle2 ⊢
      clear hm
      by_cases hlt : k < g.length
      · have x0 := hN.ptr hlt
        have x2 := (hN.node k hlt).cell 2
        obtain ⟨T, v, F, hd⟩ := disp (NB := NB) HT.out hlt
        have hE : ends NB g k = .iface T v := by unfold ends; rw [nthNext_at hlt]; exact hd.val
        rw [hE] at x2
        have hlook := hd.look
        have hent := hd.enter
        have HD := Lib.hid hd.goes
        have hs2 := (nextB_iff.1 (nextsB_iff.1 (valid_iff.1 HT.out).2.2.2 k hlt)).1
        obtain ⟨z, hz⟩ : ∃ z, z = g[k].2.size := ⟨_, rfl⟩
        have HZ := Lib.hid hz
        have hz2 : z ≤ 2 := by omega
        have HNx := Lib.hid (nexts_take g k hlt)
        have HNN := Lib.hid hN
        clear hE hd hN hz hs2
        go_wp2_with fail
        refine (HD.out _ _ HNN.out).mono ?_
        rintro e w2 ⟨A2, rfl, _, b2⟩
        rw [← HZ.out]
        have HN2 := Lib.hid (HNN.out.below b2)
        clear hlook hent
        go_wp2_with fail
        go_roundw
        case rel => exact ⟨k + 1, by omega, by go_num, by rw [HNx.out, ← HZ.out, ← HM.out]; go_num, HN2.out, below_trans_self hB b2⟩
        case measure => simp [intOf]; omega
      · have HE := Lib.hid (show (m : Int) = countVal g by rw [HV.out, HM.out, List.take_of_length_le (by omega)])
        go_wp2_with fail
        go_ret
        exact ⟨ret_int HE.out, hB⟩
  · have hv' : validB g = false := by simpa using hv
    have HV := Lib.hid (countVal_no hv')
    have HC := Lib.hid (nodesOf_no A cap g w hg hn hv')
    clear hv hv'
    go_enter Try.func27, Try.ntmps27
    go_wp2_with fail
    refine HC.out.mono ?_
    rintro e w1 ⟨rfl, b1⟩
    go_wp2_with fail
    go_ret
    exact ⟨ret_int HV.out.symm, b1⟩

end Go.Proofs.Ytimgkjlhahapnab
