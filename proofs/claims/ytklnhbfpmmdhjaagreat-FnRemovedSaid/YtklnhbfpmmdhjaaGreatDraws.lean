/-
  Contracts of the model's l1Any, l1Place and its Draw functions.
-/
import Derived.Test.YtklnhbfpmmdhjaaGreatSome
namespace Go.Proofs.YtklnhbfpmmdhjaaGreat
open Go.RowKit Go.Sort

theorem of12 (R : Nat) (A : Option Addr) (len cap p : Nat) (w : World) (h : Rd w R A len cap p) (hp : p ≤ 1048576) :
    Calls Tryz.prog 77 #[.pointer (some ⟨R, 0, none⟩), .slice (some ⟨w.heap.size, 0, none⟩) 12 12] (w.alloc (.cells #[.string ⟨#[65]⟩, .string ⟨#[66]⟩, .string ⟨#[67]⟩, .string ⟨#[68]⟩, .string ⟨#[69]⟩, .string ⟨#[66]⟩, .string ⟨#[67]⟩, .string ⟨#[70]⟩, .string ⟨#[74]⟩, .string ⟨#[107]⟩, .string ⟨#[]⟩, .string ⟨#[65, 66]⟩] 9)) fun e w' => ∃ s : ByteArray, e = .returned (.string s) ∧ s.size ≤ 2 ∧ Only R w w' ∧ Rd w' R A len cap (p + 1) := by
  refine (of2 R A len cap p [⟨#[65]⟩, ⟨#[66]⟩, ⟨#[67]⟩, ⟨#[68]⟩, ⟨#[69]⟩, ⟨#[66]⟩, ⟨#[67]⟩, ⟨#[70]⟩, ⟨#[74]⟩, ⟨#[107]⟩, ⟨#[]⟩, ⟨#[65, 66]⟩] w h (by decide) (by decide) hp).mono ?_
  rintro e w' ⟨z, rfl, hz, o, r⟩
  refine ⟨z, rfl, ?_, o, r⟩
  revert z; decide

def AnyPost (R : Nat) (A : Option Addr) (len cap p : Nat) (w : World) (e : Ending) (w' : World) : Prop :=
  ∃ s : ByteArray, e = .returned (.string s) ∧ s.size ≤ 2 ∧ Only R w w' ∧ Rd w' R A len cap (p + 1)

set_option maxRecDepth 100000 in
theorem any_any (R : Nat) (A : Option Addr) (len cap p : Nat) (w : World) (h : Rd w R A len cap p) (hp : p ≤ 1048576) :
    Calls Tryz.prog 83 #[.pointer (some ⟨R, 0, none⟩)] w (AnyPost R A len cap p w) := by
  have HC := Lib.hid (of12 R A len cap p w h hp)
  clear h
  go_enter Tryz.func83, Tryz.ntmps83
  go_wp2_with fail
  refine HC.out.mono ?_
  rintro e w' ⟨s, rfl, hs, o, r⟩
  go_wp2_with fail
  go_ret
  exact ⟨s, rfl, hs, o, r⟩

def PlacePost (n c R : Nat) (A : Option Addr) (len cap p : Nat) (w : World) (e : Ending) (w' : World) : Prop :=
  ∃ v g s q, e = .returned (.tuple #[v, .string s]) ∧ OwnBl w' w.heap.size v g ∧ g.length + tot g ≤ n ∧ s.size ≤ 2 ∧ Only R w w' ∧ Rd w' R A len cap q ∧ q ≤ p + c

set_option maxRecDepth 100000 in
theorem place_any (R : Nat) (A : Option Addr) (len cap p : Nat) (w : World) (hr : Rd w R A len cap p) (hp : p ≤ 1000) :
    Calls Tryz.prog 52 #[.pointer (some ⟨R, 0, none⟩)] w (PlacePost 40 104 R A len cap p w) := by
  have hRlt := hr.blk.lt
  have HC := Lib.hid (some_any R A len cap p w hr hp)
  clear hr
  go_enter Tryz.func52, Tryz.ntmps52
  go_wp2_with fail
  refine HC.out.mono ?_
  rintro e w1 ⟨v, g, q, rfl, hown, hg, ho1, r1, hq⟩
  have HOWN := Lib.hid hown
  have HO1 := Lib.hid ho1
  have HR1 := Lib.hid r1
  clear hown ho1 r1
  go_wp2_with fail
  refine (any_any R A len cap q w1 HR1.out (by omega)).mono ?_
  rintro e w2 ⟨s, rfl, hs, o2, r2⟩
  have HOWN2 := Lib.hid (ownRow_only HOWN.out hRlt o2)
  have HO2 := Lib.hid (HO1.out.trans o2)
  have HR2 := Lib.hid r2
  clear o2 r2
  go_wp2_with fail
  exact bodyPost_ret (v := .tuple #[v, .string s]) (by simp [results, Tryz.results52, go_sem]) rfl ⟨v, g, s, q + 1, rfl, HOWN2.out, hg, hs, HO2.out, HR2.out, by omega⟩

def DrawPlacePost (n : Nat) (w : World) (e : Ending) (w' : World) : Prop :=
  ∃ v g s, e = .returned (.tuple #[v, .string s]) ∧ OwnBl w' w.heap.size v g ∧ g.length + tot g ≤ n ∧ s.size ≤ 2 ∧ Below w.heap.size w w'









set_option maxRecDepth 100000 in
theorem drawChildrenOf_any (A : Option Addr) (len cap : Nat) (w : World) (hb : Bytes w A len) (hlc : len ≤ cap) (hl : cap ≤ 9223372036854775807) :
    Calls Tryz.prog 20 #[.slice A len cap] w (DrawPlacePost 40 w) := by
  have HC := Lib.hid (open_any A len cap w hb hlc hl)
  clear hb
  go_enter Tryz.func20, Tryz.ntmps20
  go_wp2_with fail
  refine HC.out.mono ?_
  rintro e w1 ⟨A', len', cap', rfl, hrd, b1⟩
  have HR1 := Lib.hid hrd
  have HB := Lib.hid b1
  have hs1 := b1.size
  clear hrd b1
  go_wp2_with fail
  refine (place_any w.heap.size A' len' cap' 0 w1 HR1.out (by omega)).mono ?_
  rintro e w2 ⟨v, g, s, q, rfl, hown, hg, hs, ho, _, _⟩
  have HOWN := Lib.hid (ownRow_base hown hs1)
  have HB2 := Lib.hid (Only.below HB.out ho)
  clear hown ho
  go_wp2_with fail
  exact bodyPost_ret (v := .tuple #[v, .string s]) (by simp [results, Tryz.results20, go_sem]) rfl ⟨v, g, s, rfl, HOWN.out, hg, hs, HB2.out⟩




set_option maxRecDepth 100000 in
theorem drawDominatorTree_any (A : Option Addr) (len cap : Nat) (w : World) (hb : Bytes w A len) (hlc : len ≤ cap) (hl : cap ≤ 9223372036854775807) :
    Calls Tryz.prog 14 #[.slice A len cap] w (DrawPost 40 w) := by
  have HC := Lib.hid (open_any A len cap w hb hlc hl)
  clear hb
  go_enter Tryz.func14, Tryz.ntmps14
  go_wp2_with fail
  refine HC.out.mono ?_
  rintro e w1 ⟨A', len', cap', rfl, hrd, b1⟩
  have HR1 := Lib.hid hrd
  have HB := Lib.hid b1
  have hs1 := b1.size
  clear hrd b1
  go_wp2_with fail
  refine (some_any w.heap.size A' len' cap' 0 w1 HR1.out (by omega)).mono ?_
  rintro e w2 ⟨v, g, q, rfl, hown, hg, ho, _, _⟩
  have HOWN := Lib.hid (ownRow_base hown hs1)
  have HB2 := Lib.hid (Only.below HB.out ho)
  clear hown ho
  go_wp2_with fail
  exact bodyPost_ret (v := v) (by simp [results, Tryz.results14, go_sem]) rfl ⟨v, g, rfl, HOWN.out, hg, HB2.out⟩

end Go.Proofs.YtklnhbfpmmdhjaaGreat
