/-
  What the model draws: a graph and two names.
-/
import Derived.Test.YtklnhbfpmmdhjabGreatDraws
import Derived.Test.YtklnhbfpmmdhjabGreatLaw
namespace Go.Proofs.YtklnhbfpmmdhjabGreat
open Go.RowKit Go.Sort

def TwoPost (n R : Nat) (A : Option Addr) (len cap : Nat) (w : World) (e : Ending) (w' : World) : Prop :=
  ∃ v g s t q, e = .returned (.tuple #[v, .string s, .string t]) ∧ OwnBl w' w.heap.size v g ∧ g.length + tot g ≤ n ∧ s.size ≤ 2 ∧ t.size ≤ 2 ∧ Only R w w' ∧ Rd w' R A len cap q

set_option maxRecDepth 100000 in
theorem two_any (R : Nat) (A : Option Addr) (len cap p : Nat) (w : World) (hr : Rd w R A len cap p) (hp : p ≤ 1000) :
    Calls Tryz.prog 75 #[.pointer (some ⟨R, 0, none⟩)] w (TwoPost 40 R A len cap w) := by
  have hRlt := hr.blk.lt
  have HC := Lib.hid (place_any R A len cap p w hr hp)
  clear hr
  go_enter Tryz.func75, Tryz.ntmps75
  go_wp2_with fail
  refine HC.out.mono ?_
  rintro e w1 ⟨v, g, s, q, rfl, hown, hg, hs, ho1, r1, hq⟩
  have HOWN := Lib.hid hown
  have HO1 := Lib.hid ho1
  have HR1 := Lib.hid r1
  clear hown ho1 r1
  go_wp2_with fail
  refine (any_any R A len cap q w1 HR1.out (by omega)).mono ?_
  rintro e w2 ⟨t, rfl, ht, o2, r2⟩
  have HOWN2 := Lib.hid (ownRow_only HOWN.out hRlt o2)
  have HO2 := Lib.hid (HO1.out.trans o2)
  have HR2 := Lib.hid r2
  clear o2 r2
  go_wp2_with fail
  exact bodyPost_ret (v := .tuple #[v, .string s, .string t]) (by simp [results, Tryz.results75, go_sem]) rfl ⟨v, g, s, t, q + 1, rfl, HOWN2.out, hg, hs, ht, HO2.out, HR2.out⟩

/-- What was drawn, as it reads. -/
def DrawnTwo (n : Nat) (w : World) (e : Ending) (w' : World) : Prop :=
  ∃ A cap g s t, e = .returned (.tuple #[.slice A g.length cap, .string s, .string t]) ∧ g.length ≤ cap ∧ Gr w' A g ∧ g.length + tot g ≤ n ∧ s.size ≤ 2 ∧ t.size ≤ 2 ∧ Below w.heap.size w w'

set_option maxRecDepth 100000 in
theorem drawAvoidsIn_any (A : Option Addr) (len cap : Nat) (w : World) (hb : Bytes w A len) (hlc : len ≤ cap) (hl : cap ≤ 9223372036854775807) :
    Calls Tryz.prog 24 #[.slice A len cap] w (DrawnTwo 40 w) := by
  have HC := Lib.hid (open_any A len cap w hb hlc hl)
  clear hb
  go_enter Tryz.func24, Tryz.ntmps24
  go_wp2_with fail
  refine HC.out.mono ?_
  rintro e w1 ⟨A', len', cap', rfl, hrd, b1⟩
  have HR1 := Lib.hid hrd
  have HB := Lib.hid b1
  have hs1 := b1.size
  clear hrd b1
  go_wp2_with fail
  refine (two_any w.heap.size A' len' cap' 0 w1 HR1.out (by omega)).mono ?_
  rintro e w2 ⟨v, g, s, t, q, rfl, hown, hg, hs, ht, ho, _⟩
  obtain ⟨A2, c2, rfl, hc, hgr⟩ := own_gr (ownRow_base hown hs1)
  have HGR := Lib.hid hgr
  have HB2 := Lib.hid (Only.below HB.out ho)
  clear hown ho hgr
  go_wp2_with fail
  exact bodyPost_ret (v := .tuple #[.slice A2 g.length c2, .string s, .string t]) (by simp [results, Tryz.results24, go_sem]) rfl ⟨A2, c2, g, s, t, rfl, hc, HGR.out, hg, hs, ht, HB2.out⟩
set_option maxRecDepth 100000 in
theorem drawMeetOf_any (A : Option Addr) (len cap : Nat) (w : World) (hb : Bytes w A len) (hlc : len ≤ cap) (hl : cap ≤ 9223372036854775807) :
    Calls Tryz.prog 17 #[.slice A len cap] w (DrawnTwo 40 w) := by
  have HC := Lib.hid (open_any A len cap w hb hlc hl)
  clear hb
  go_enter Tryz.func17, Tryz.ntmps17
  go_wp2_with fail
  refine HC.out.mono ?_
  rintro e w1 ⟨A', len', cap', rfl, hrd, b1⟩
  have HR1 := Lib.hid hrd
  have HB := Lib.hid b1
  have hs1 := b1.size
  clear hrd b1
  go_wp2_with fail
  refine (two_any w.heap.size A' len' cap' 0 w1 HR1.out (by omega)).mono ?_
  rintro e w2 ⟨v, g, s, t, q, rfl, hown, hg, hs, ht, ho, _⟩
  obtain ⟨A2, c2, rfl, hc, hgr⟩ := own_gr (ownRow_base hown hs1)
  have HGR := Lib.hid hgr
  have HB2 := Lib.hid (Only.below HB.out ho)
  clear hown ho hgr
  go_wp2_with fail
  exact bodyPost_ret (v := .tuple #[.slice A2 g.length c2, .string s, .string t]) (by simp [results, Tryz.results17, go_sem]) rfl ⟨A2, c2, g, s, t, rfl, hc, HGR.out, hg, hs, ht, HB2.out⟩
end Go.Proofs.YtklnhbfpmmdhjabGreat
