/-
  Contracts of the model's l1Any, l1Place and its Draw functions.
-/
import Derived.Test.YteodlcgmncchpacDoorSome
namespace Go.Proofs.YteodlcgmncchpacDoor
open Go.RowKit Go.Sort

theorem of12 (R : Nat) (A : Option Addr) (len cap p : Nat) (w : World) (h : Rd w R A len cap p) (hp : p ≤ 1048576) :
    Calls Tryd.prog 35 #[.pointer (some ⟨R, 0, none⟩), .slice (some ⟨w.heap.size, 0, none⟩) 12 12] (w.alloc (.cells #[.string ⟨#[65]⟩, .string ⟨#[66]⟩, .string ⟨#[67]⟩, .string ⟨#[68]⟩, .string ⟨#[69]⟩, .string ⟨#[66]⟩, .string ⟨#[67]⟩, .string ⟨#[70]⟩, .string ⟨#[74]⟩, .string ⟨#[107]⟩, .string ⟨#[]⟩, .string ⟨#[65, 66]⟩] 9)) fun e w' => ∃ s : ByteArray, e = .returned (.string s) ∧ s.size ≤ 2 ∧ Only R w w' ∧ Rd w' R A len cap (p + 1) := by
  refine (of2 R A len cap p [⟨#[65]⟩, ⟨#[66]⟩, ⟨#[67]⟩, ⟨#[68]⟩, ⟨#[69]⟩, ⟨#[66]⟩, ⟨#[67]⟩, ⟨#[70]⟩, ⟨#[74]⟩, ⟨#[107]⟩, ⟨#[]⟩, ⟨#[65, 66]⟩] w h (by decide) (by decide) hp).mono ?_
  rintro e w' ⟨z, rfl, hz, o, r⟩
  refine ⟨z, rfl, ?_, o, r⟩
  revert z; decide


def PlacePost (n c R : Nat) (A : Option Addr) (len cap p : Nat) (w : World) (e : Ending) (w' : World) : Prop :=
  ∃ v g s q, e = .returned (.tuple #[v, .string s]) ∧ OwnBl w' w.heap.size v g ∧ g.length + tot g ≤ n ∧ s.size ≤ 2 ∧ Only R w w' ∧ Rd w' R A len cap q ∧ q ≤ p + c


def DrawPlacePost (n : Nat) (w : World) (e : Ending) (w' : World) : Prop :=
  ∃ v g s, e = .returned (.tuple #[v, .string s]) ∧ OwnBl w' w.heap.size v g ∧ g.length + tot g ≤ n ∧ s.size ≤ 2 ∧ Below w.heap.size w w'


set_option maxRecDepth 100000 in
theorem drawFormatGraph_any (A : Option Addr) (len cap : Nat) (w : World) (hb : Bytes w A len) (hlc : len ≤ cap) (hl : cap ≤ 9223372036854775807) :
    Calls Tryd.prog 5 #[.slice A len cap] w (DrawPost 40 w) := by
  have HC := Lib.hid (open_any A len cap w hb hlc hl)
  clear hb
  go_enter Tryd.func5, Tryd.ntmps5
  go_wp2_with fail
  refine HC.out.mono ?_
  rintro e w1 ⟨A', len', cap', rfl, hrd, b1⟩
  have HR1 := Lib.hid hrd
  have HB := Lib.hid b1
  have hs1 := b1.size
  clear hrd b1
  go_wp2_with fail
  refine (some_any w.heap.size A' len' cap' 0 w1 HR1.out (by omega)).mono ?_
  rintro e w2 ⟨v, g, q, rfl, hown, hg, ho, _, _⟩
  have HOWN := Lib.hid (ownRow_base hown hs1)
  have HB2 := Lib.hid (Only.below HB.out ho)
  clear hown ho
  go_wp2_with fail
  exact bodyPost_ret (v := v) (by simp [results, Tryd.results5, go_sem]) rfl ⟨v, g, rfl, HOWN.out, hg, HB2.out⟩












end Go.Proofs.YteodlcgmncchpacDoor
