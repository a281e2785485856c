/-
  Draws of choices alone and of an end: the model's DrawChoicesValid, DrawNameOfEnd.
-/
import Derived.Test.YteodlcgmncchpaaDoorDrawRun
namespace Go.Proofs.YteodlcgmncchpaaDoor
open Go.RowKit Go.Sort

set_option maxRecDepth 100000 in
theorem drawChoices_any (A : Option Addr) (len cap : Nat) (w : World) (hb : Bytes w A len) (hlc : len ≤ cap) (hl : cap ≤ 9223372036854775807) :
    Calls Tryd.prog 10 #[.slice A len cap] w fun e w' => ∃ s : ByteArray, e = .returned (.string s) ∧ s.size ≤ 100 ∧ Below w.heap.size w w' := by
  have HC := Lib.hid (open_any A len cap w hb hlc hl)
  clear hb
  go_enter Tryd.func10, Tryd.ntmps10
  go_wp2_with fail
  refine HC.out.mono ?_
  rintro e w1 ⟨A', len', cap', rfl, hrd, b1⟩
  have HR1 := Lib.hid hrd
  have HB := Lib.hid b1
  clear hrd b1
  go_wp2_with fail
  refine (l2Choices_any w.heap.size A' len' cap' 0 w1 HR1.out (by omega)).mono ?_
  rintro e w3 ⟨s, q3, rfl, hs, ho3, _, _⟩
  have HB3 := Lib.hid (Only.below HB.out ho3)
  clear ho3
  go_wp2_with fail
  go_ret
  exact ⟨s, rfl, hs, HB3.out⟩

theorem numEnd (R : Nat) (A : Option Addr) (len cap p : Nat) (w : World) (h : Rd w R A len cap p) (hp : p ≤ 1048576) :
    Calls Tryd.prog 24 #[.pointer (some ⟨R, 0, none⟩), .slice (some ⟨w.heap.size, 0, none⟩) 5 5] (w.alloc (.cells #[.int .i64 0, .int .i64 1, .int .i64 2, .int .i64 3, .int .i64 (-1)] 3)) fun e w' => ∃ n : Int, e = .returned (.int .i64 n) ∧ Only R w w' := by
  refine (num2 R A len cap p [0, 1, 2, 3, -1] w h (by decide) (by decide) hp).mono ?_
  rintro e w' ⟨z, rfl, hz, o, r⟩
  exact ⟨z, rfl, o⟩

set_option maxRecDepth 100000 in
theorem drawEnd_any (A : Option Addr) (len cap : Nat) (w : World) (hb : Bytes w A len) (hlc : len ≤ cap) (hl : cap ≤ 9223372036854775807) :
    Calls Tryd.prog 11 #[.slice A len cap] w fun e w' => ∃ n : Int, e = .returned (.int .i64 n) ∧ Below w.heap.size w w' := by
  have HC := Lib.hid (open_any A len cap w hb hlc hl)
  clear hb
  go_enter Tryd.func11, Tryd.ntmps11
  go_wp2_with fail
  refine HC.out.mono ?_
  rintro e w1 ⟨A', len', cap', rfl, hrd, b1⟩
  have HN := Lib.hid (numEnd w.heap.size A' len' cap' 0 w1 hrd (by omega))
  have HB := Lib.hid b1
  clear hrd b1
  go_wp2_with fail
  refine HN.out.mono ?_
  rintro e w3 ⟨n, rfl, ho3⟩
  have HB3 := Lib.hid (Only.below HB.out ho3)
  clear ho3
  go_wp2_with fail
  go_ret
  exact ⟨n, rfl, HB3.out⟩
end Go.Proofs.YteodlcgmncchpaaDoor
