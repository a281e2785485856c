/-
  Contract of the model's OrderOf.
-/
import Derived.Test.YtdolbmonmkjajaaOrders
import Derived.Test.YtdolbmonmkjajaaSpecDom
import Derived.Test.YtdolbmonmkjajaaValids
namespace Go.Proofs.Ytdolbmonmkjajaa
open Go.RowKit

theorem specOrder_any (A : Option Addr) (cap : Nat) (g : List Bl) (w : World) (hg : Gr w A g) (hn : g.length + tot g ≤ 1048576) (hcap : g.length ≤ cap) :
    Calls Try.prog 25 #[.slice A g.length cap] w fun e w' => e = .returned (.tuple #[.string (orderV g), .bool (validB g)]) ∧ Below w.heap.size w w' := by
  have HC := Lib.hid (specValid_any A cap g w hg hn hcap)
  unfold orderV
  by_cases hv : validB g = true
  · rw [hv] at HC
    rw [if_pos hv, hv]
    have HO := Lib.hid (fun w' (h : Gr w' A g) => l4Order_any A cap g w' h (by omega) hv)
    have HG := Lib.hid hg
    clear hg hv
    go_enter Try.func25, Try.ntmps25
    go_wp2_with fail
    refine HC.out.mono ?_
    rintro e w1 ⟨rfl, b1⟩
    have HO1 := Lib.hid (HO.out w1 (HG.out.below b1))
    have HB1 := Lib.hid b1
    clear b1
    go_wp2_with fail
    refine HO1.out.mono ?_
    rintro e w2 ⟨rfl, b2⟩
    have HB2 := Lib.hid (HB1.out.trans (b2.mono HB1.out.size))
    clear b2
    go_wp2_with fail
    go_ret2
    exact ⟨rfl, HB2.out⟩
  · have hv : validB g = false := by simpa using hv
    rw [hv] at HC
    rw [if_neg (by rw [hv]; simp), hv]
    clear hg hv
    go_enter Try.func25, Try.ntmps25
    go_wp2_with fail
    refine HC.out.mono ?_
    rintro e w1 ⟨rfl, b1⟩
    have HB1 := Lib.hid b1
    clear b1
    go_wp2_with fail
    go_ret2
    exact ⟨rfl, HB1.out⟩
end Go.Proofs.Ytdolbmonmkjajaa
