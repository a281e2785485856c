import Derived.Test.YtlkfakdghjaoaaaGreatDoorJ9
import Derived.Test.YtlkfakdghjaoaaaGreatDoorJ5
namespace Go.Proofs.YtlkfakdghjaoaaaGreatDoor
open Go.RowKit Go.Sort
theorem reachS_lt (g : List Bl) : ∀ i ∈ reachS g, i < g.length := srt_lt (g := g) (l := reach g) (Nat.le_refl _)
theorem implReached_any (A : Option Addr) (cap : Nat) (g : List Bl) (w : World) (hg : Gr w A g) (hn : g.length + tot g ≤ 1048576) :
  Calls Tryz.prog 18 #[.slice A g.length cap] w fun e w' => e = .returned (.tuple #[.string (reachV g), .bool (validB g)]) ∧ Below w.heap.size w w' := by
 by_cases hv : validB g = true
 ·have H1 := Lib.hid (reachV_yes hv)
  have H2 := Lib.hid hv
  have HC := Lib.hid (reachedNodes_yes A cap g w hg hn hv)
  have hle : (reachS g).length ≤ 26 := by have := srt_len g (reach g) g.length; rw [← reachS_srt] at this; have := (valid_iff.1 hv).2.1; omega
  have HJ := Lib.hid (fun NB A cap w (h : Pts w A (nodesAt NB g (reachS g))) => by
   have := join_any A cap (nodesAt NB g (reachS g)) w h (by rw [nodesAt_length]; omega) (by rw [joined_nodesAt, namesAt_size hv _ (reachS_lt g)]; omega)
   rw [nodesAt_length, joined_nodesAt] at this
   exact this)
  clear hv
  go_enter Tryz.func18, Tryz.ntmps18
  go_wp2_with fail
  refine HC.out.mono ?_
  rintro e w1 ⟨NB, A1, cap1, _, rfl, hp, _, b1⟩
  have HP := Lib.hid hp
  clear hp
  go_wp2_with fail
  refine (HJ.out NB A1 cap1 w1 HP.out).mono ?_
  rintro e w2 ⟨rfl, b2⟩
  go_wp2_with fail
  go_ret2
  exact ⟨ret_sb H1.out.symm H2.out.symm, below_trans_self b1 b2⟩
 ·have hv' : validB g = false := by simpa using hv
  have H1 := Lib.hid (reachV_no hv')
  have H2 := Lib.hid hv'
  have HC := Lib.hid (reachedNodes_no A cap g w hg hn hv')
  clear hv hv'
  go_enter Tryz.func18, Tryz.ntmps18
  go_wp2_with fail
  refine HC.out.mono ?_
  rintro e w1 ⟨rfl, b1⟩
  go_wp2_with fail
  refine (join_none none 0 w1).mono ?_
  rintro e w2 ⟨rfl, b2⟩
  go_wp2_with fail
  go_ret2
  exact ⟨ret_sb H1.out.symm H2.out.symm, below_trans_self b1 b2⟩
end Go.Proofs.YtlkfakdghjaoaaaGreatDoor
