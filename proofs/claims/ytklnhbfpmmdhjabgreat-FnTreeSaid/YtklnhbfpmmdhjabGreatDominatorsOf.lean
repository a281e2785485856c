/-
  Contracts of the program's DominatorsOf and ChildrenOf.
-/
import Derived.Test.YtklnhbfpmmdhjabGreatKids
namespace Go.Proofs.YtklnhbfpmmdhjabGreat
open Go.RowKit Go.Sort Go.Shelf

theorem finds_path : FindsAt 89 domL := fun tb NB g B off cap S n w hv h hr => pathTo_any tb NB g B off cap S n w hv h hr
theorem implDominators_any (A : Option Addr) (cap : Nat) (g : List Bl) (s : ByteArray) (w : World) (hg : Gr w A g) (hn : g.length + tot g ≤ 1048576) :
    Calls Tryz.prog 28 #[.slice A g.length cap, .string s] w fun e w' => e = .returned (.tuple #[.string (domV g s), .bool (liveB g s)]) ∧ Below w.heap.size w w' := by
  have HC := Lib.hid (namesFound_any 89 domL finds_path (fun g n hv hr => ⟨domL_lt2 hv hr, by have := domL_len hv n; have := (valid_iff.1 hv).2.1; omega⟩) (enters_of Tryz.func89 (by kernel_rfl) rfl) A cap g s w hg hn)
  have H1 := Lib.hid (show foundV domL g s = domV g s from rfl)
  clear hg
  go_enter Tryz.func28, Tryz.ntmps28
  go_wp2_with fail
  refine HC.out.mono ?_
  rintro e w1 ⟨rfl, b1⟩
  go_wp2_with fail
  go_ret2
  exact ⟨ret_sb H1.out rfl, b1⟩

theorem finds_kids : FindsAt 93 kidsL := fun tb NB g B off cap S n w hv h hr => childrenOf_any tb NB g B off cap S n w hv h (hr.lt hv)
theorem kids_len {g : List Bl} (hv : validB g = true) (n : Nat) : (kidsL g n).length ≤ 26 := by
  have h1 : (kidsL g n).length ≤ (reachS g).length := List.length_filter_le _ _
  have := reachS_small hv
  omega
theorem implChildren_any (A : Option Addr) (cap : Nat) (g : List Bl) (s : ByteArray) (w : World) (hg : Gr w A g) (hn : g.length + tot g ≤ 1048576) :
    Calls Tryz.prog 35 #[.slice A g.length cap, .string s] w fun e w' => e = .returned (.tuple #[.string (kidsV g s), .bool (liveB g s)]) ∧ Below w.heap.size w w' := by
  have HC := Lib.hid (namesFound_any 93 kidsL finds_kids (fun g n hv hr => ⟨kids_lt hv, kids_len hv n⟩) (enters_of Tryz.func93 (by kernel_rfl) rfl) A cap g s w hg hn)
  have H1 := Lib.hid (show foundV kidsL g s = kidsV g s from rfl)
  clear hg
  go_enter Tryz.func35, Tryz.ntmps35
  go_wp2_with fail
  refine HC.out.mono ?_
  rintro e w1 ⟨rfl, b1⟩
  go_wp2_with fail
  go_ret2
  exact ⟨ret_sb H1.out rfl, b1⟩
end Go.Proofs.YtklnhbfpmmdhjabGreat
