/-
  Contract of the model's DrawIsTrace.
-/
import Derived.Test.YtdolbmonmkjajaaGreatDrawRun
import Derived.Test.YtdolbmonmkjajaaGreatSpecRun
import Derived.Deep.RegionWith
import Derived.IntWalk
namespace Go.Proofs.YtdolbmonmkjajaaGreat
open Go.RowKit Go.Sort

theorem runT_small {g : List Bl} {s : ByteArray} (h : runB g s = true) : (runT g s).size ≤ 60 := by
  have hv : validB g = true := by unfold runB at h; exact (Bool.and_eq_true_iff.1 h).1
  rw [runT_yes h]
  unfold traceOf
  rw [namesAt_size hv _ (fun i hi => by
    obtain ⟨y, hy, rfl⟩ := List.mem_map.1 hi
    exact runL_lt hv 60 0 _ (valid_iff.1 hv).1 y hy), List.length_map]
  exact runOf_le g s

theorem own_gr' {w : World} {base cap : Nat} {A : Option Addr} {g : List Bl} (h : OwnBl w base (.slice A g.length cap) g) : Gr w A g := by
  obtain ⟨A', cap', e, _, hg⟩ := own_gr h
  injection e with e1 _ _
  rw [e1]; exact hg

theorem Rd.below' {w w' : World} {R : Nat} {A : Option Addr} {len cap p : Nat} (h : Rd w R A len cap p) (hb : Below w.heap.size w w') : Rd w' R A len cap p := h.below hb
theorem Rd.drew {w : World} {R : Nat} {A : Option Addr} {len cap p : Nat} (h : Rd w R A len cap p) (k : Nat) : Rd (w.drewN k) R A len cap p := h.below (below_drewN w k)

end Go.Proofs.YtdolbmonmkjajaaGreat
