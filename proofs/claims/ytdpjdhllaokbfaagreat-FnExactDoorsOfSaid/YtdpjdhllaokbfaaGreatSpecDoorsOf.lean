/-
  The model's DoorsOf.
-/
import Derived.Test.YtdpjdhllaokbfaaGreatSpecDoors
namespace Go.Proofs.YtdpjdhllaokbfaaGreat
open Go.RowKit Go.Sort

set_option maxRecDepth 100000 in
theorem specDoorsOf_any (A : Option Addr) (cap : Nat) (g : List Bl) (s : ByteArray) (w : World) (hg : Gr w A g) (hn : g.length + tot g ≤ 1048576) (hcap : g.length ≤ cap) :
    Calls Tryz.prog 22 #[.slice A g.length cap, .string s] w fun e w' => e = .returned (.tuple #[.string (namesAt g (doorsL g (partV g s))), .bool (!(partV g s).isEmpty)]) ∧ Below w.heap.size w w' := by
  have HL := Lib.hid (specPartOf_any A cap g s w hg hn hcap)
  have HG := Lib.hid hg
  clear hg
  cases hq : partV g s with
  | nil =>
    rw [hq] at HL
    have HL2 : Hid (Calls Tryz.prog 20 #[.slice A g.length cap, .string s] w fun e w' => e = .returned (.tuple #[.string ⟨#[]⟩, .bool false]) ∧ Below w.heap.size w w') := HL
    clear hq HL
    go_enter Tryz.func22, Tryz.ntmps22
    go_wp2_with fail
    refine HL2.out.mono ?_
    rintro e w1 ⟨rfl, b1⟩
    go_wp2_with fail
    go_ret2
    exact ⟨rfl, b1⟩
  | cons x xs =>
    have hv : validB g = true := by
      cases hl : liveOf g s with
      | none => rw [partV_dead hl] at hq; cases hq
      | some i => exact (liveOf_is hl).1
    obtain ⟨pt, hpt⟩ : ∃ pt, pt = namesAt g (partV g s) := ⟨_, rfl⟩
    have hb : (!(partV g s).isEmpty) = true := by rw [hq]; rfl
    rw [← hpt, hb] at HL
    have HD := Lib.hid (fun w (h : Gr w A g) => l10Doors_any A cap g (partV g s) pt w h hn hv (fun x hx => (partV_lt x hx).1) (by have := partV_len hv s; omega) hpt)
    rw [← hq]
    have HBB := Lib.hid hb
    clear hq hv hpt hb
    go_enter Tryz.func22, Tryz.ntmps22
    go_wp2_with fail
    refine HL.out.mono ?_
    rintro e w1 ⟨rfl, b1⟩
    have HB1 := Lib.hid b1
    clear b1
    go_wp2_with fail
    refine (HD.out w1 (HG.out.below HB1.out)).mono ?_
    rintro e w2 ⟨rfl, b2⟩
    have HB2 := Lib.hid (HB1.out.trans (b2.mono HB1.out.size))
    clear b2
    go_wp2_with fail
    go_ret2
    exact ⟨by rw [HBB.out]; rfl, HB2.out⟩
end Go.Proofs.YtdpjdhllaokbfaaGreat
