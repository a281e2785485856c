import Derived.Test.YtlkfakdghjaoaaaGreatDoorKids
namespace Go.Proofs.YtlkfakdghjaoaaaGreatDoor
open Go.RowKit Go.Sort Go.Shelf
theorem finds_path : FindsAt 79 domL := fun tb NB g B off cap S n w hv h hr => pathTo_any tb NB g B off cap S n w hv h hr
theorem implDominators_any (A : Option Addr) (cap : Nat) (g : List Bl) (s : ByteArray) (w : World) (hg : Gr w A g) (hn : g.length + tot g ≤ 1048576) :
  Calls Tryz.prog 41 #[.slice A g.length cap, .string s] w fun e w' => e = .returned (.tuple #[.string (domV g s), .bool (liveB g s)]) ∧ Below w.heap.size w w' := by
 have HC := Lib.hid (namesFound_any 79 domL finds_path (fun g n hv hr => ⟨domL_lt2 hv hr, by have := domL_len hv n; have := (valid_iff.1 hv).2.1; omega⟩) (enters_of Tryz.func79 (by kernel_rfl) rfl) A cap g s w hg hn)
 have H1 := Lib.hid (show foundV domL g s = domV g s from rfl)
 clear hg
 go_enter Tryz.func41, Tryz.ntmps41
 go_wp2_with fail
 refine HC.out.mono ?_
 rintro e w1 ⟨rfl, b1⟩
 go_wp2_with fail
 go_ret2
 exact ⟨ret_sb H1.out rfl, b1⟩
end Go.Proofs.YtlkfakdghjaoaaaGreatDoor
