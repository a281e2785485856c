/-
  Contracts of the program's WayTo, StopsWith and CanStop.
-/
import Derived.Test.YteodlcgmncchpaaFirstWay
import Derived.Test.YteodlcgmncchpaaSpecWays
namespace Go.Proofs.Yteodlcgmncchpaa
open Go.RowKit Go.Sort Go.Shelf

theorem is_stop (w : World) : (Instr.typeAssert (.iface 63 (.agg #[])) 66 63 true).run Try.prog w = .ok (.tuple #[.agg #[], .bool true]) w := by kernel_rfl
theorem jump_no_stop (u : Value) (w : World) : (Instr.typeAssert (.iface 117 (.agg #[u])) 66 63 true).run Try.prog w = .ok (.tuple #[.agg #[], .bool false]) w := by kernel_rfl
theorem branch_no_stop (u v : Value) (w : World) : (Instr.typeAssert (.iface 119 (.agg #[u, v])) 66 63 true).run Try.prog w = .ok (.tuple #[.agg #[], .bool false]) w := by kernel_rfl

def stopB (g : List Bl) (i : Nat) : Bool := (nxt g i).isEmpty

theorem wants_stop (NB : Nat) (g : List Bl) (w : World) (hv : validB g = true) : Wants (stopB g) NB g 51 #[] w where
  enter := enters_of Try.func51 (by kernel_rfl) rfl
  goes := by
    intro W i hi _ hN
    have x2 := (hN i hi).cell 2
    have hl := (hN i hi).lt
    show Calls Try.prog 51 #[nptr NB i] W _
    rcases ends_of (NB := NB) hi (goes hv hi) with ⟨hn0, he⟩ | ⟨p, hp, hn1, he⟩ | ⟨p, q, hp, hq, hn2, he⟩
    · have x2' : W.cell? ⟨nb NB i, 2, none⟩ = some (.iface 63 (.agg #[])) := by rw [x2, he]; rfl
      have a1 := is_stop
      have HR := Lib.hid (show true = stopB g i by unfold stopB; rw [hn0]; rfl)
      clear x2 he hn0 hN
      go_enter Try.func51, Try.ntmps51
      go_wp2_with fail
      go_ret
      exact ⟨ret_bool HR.out, (Below.refl _ _).alloc (Nat.le_refl _) _⟩
    · have x2' : W.cell? ⟨nb NB i, 2, none⟩ = some (.iface 117 (.agg #[nptr NB p])) := by rw [x2, he]; rfl
      have a1 := jump_no_stop
      have HR := Lib.hid (show false = stopB g i by unfold stopB; rw [hn1]; rfl)
      clear x2 he hn1 hN
      go_enter Try.func51, Try.ntmps51
      go_wp2_with fail
      go_ret
      exact ⟨ret_bool HR.out, (Below.refl _ _).alloc (Nat.le_refl _) _⟩
    · have x2' : W.cell? ⟨nb NB i, 2, none⟩ = some (.iface 119 (.agg #[nptr NB p, nptr NB q])) := by rw [x2, he]; rfl
      have a1 := branch_no_stop
      have HR := Lib.hid (show false = stopB g i by unfold stopB; rw [hn2]; rfl)
      clear x2 he hn2 hN
      go_enter Try.func51, Try.ntmps51
      go_wp2_with fail
      go_ret
      exact ⟨ret_bool HR.out, (Below.refl _ _).alloc (Nat.le_refl _) _⟩

theorem stop_wanted {g : List Bl} (hv : validB g = true) {A : List Nat} (i : Nat) (h : ∃ c, Lab g A i c) : Wanted (stopB g) i ↔ Stops g i := by
  obtain ⟨c, hc⟩ := h
  have hi := hc.lt hv
  show stopB g i = true ↔ _
  unfold stopB
  rw [List.isEmpty_iff]
  exact ⟨fun h => ⟨hi, h⟩, fun h => h.2⟩

/-- What the program's search answers, and that a run comes there soon. -/
def WayPost2 (g : List Bl) (P : Nat → Prop) (w : World) (e : Ending) (w' : World) : Prop :=
  ∃ s ok, e = .returned (.tuple #[.string s, .bool ok]) ∧ WayAns g P s ok ∧ SoonAt g [] P s ok ∧ Below w.heap.size w w'

theorem SoonAt.same {g : List Bl} {A : List Nat} {P Q : Nat → Prop} {s : ByteArray} {ok : Bool} (h : SoonAt g A P s ok) (e : ∀ i, (∃ c, Lab g A i c) → (P i ↔ Q i)) : SoonAt g A Q s ok := fun ho => by
  obtain ⟨i, m, h1, h2, h3, h4⟩ := h ho
  exact ⟨i, m, (e i ⟨_, h2.1⟩).1 h1, h2, h3, h4⟩

set_option maxRecDepth 100000 in
theorem implStops_any (A : Option Addr) (cap : Nat) (g : List Bl) (w : World) (hg : Gr w A g) (hn : g.length + tot g ≤ 1048576) :
    Calls Try.prog 16 #[.slice A g.length cap] w (WayPost2 g (Stops g) w) := by
  by_cases hv : validB g = true
  · have HC := Lib.hid (nodesOf_yes A cap g w hg hn hv)
    have hpos := (valid_iff.1 hv).1
    have HV := Lib.hid hv
    clear hv
    go_enter Try.func16, Try.ntmps16
    go_wp2_with fail
    refine HC.out.mono ?_
    rintro e w1 ⟨NB, hle, rfl, hN, b1⟩
    have x0 := hN.ptr hpos
    have HN := Lib.hid hN
    have HB1 := Lib.hid b1
    clear hN b1
    go_wp2_with fail
    refine (firstWay_any (stopB g) NB g none 51 #[] w1 HV.out (fun a h => by cases h) (NodesIn.of HN.out) (wants_stop NB g w1 HV.out)).mono ?_
    rintro e w2 ⟨s, ok, rfl, hF, hS, b2⟩
    have HF := Lib.hid hF
    have HS := Lib.hid hS
    clear hF hS
    go_wp2_with fail
    go_ret2
    exact ⟨s, ok, rfl, .inl ⟨HV.out, HF.out.same fun i h => stop_wanted HV.out i h⟩, HS.out.same fun i h => stop_wanted HV.out i h, below_trans_self HB1.out b2⟩
  · have hv' : validB g = false := by simpa using hv
    have HC := Lib.hid (nodesOf_no A cap g w hg hn hv')
    have HA : Hid (WayAns g (Stops g) ⟨#[]⟩ false) := .inr ⟨hv', rfl, rfl⟩
    clear hv hv'
    go_enter Try.func16, Try.ntmps16
    go_wp2_with fail
    refine HC.out.mono ?_
    rintro e w1 ⟨rfl, b1⟩
    go_wp2_with fail
    go_ret2
    exact ⟨_, _, rfl, HA.out, soon_none _ _ _ _, b1⟩

theorem implCan_any (A : Option Addr) (cap : Nat) (g : List Bl) (w : World) (hg : Gr w A g) (hn : g.length + tot g ≤ 1048576) :
    Calls Try.prog 19 #[.slice A g.length cap] w fun e w' => ∃ s ok, e = .returned (.bool ok) ∧ WayAns g (Stops g) s ok ∧ Below w.heap.size w w' := by
  have HC := Lib.hid (implStops_any A cap g w hg hn)
  go_enter Try.func19, Try.ntmps19
  go_wp2_with fail
  refine HC.out.mono ?_
  rintro e w1 ⟨s, ok, rfl, hA, _, b1⟩
  have HA := Lib.hid hA
  clear hA
  go_wp2_with fail
  go_ret
  exact ⟨s, ok, rfl, HA.out, b1⟩

/-- Named like that. -/
def nameIs (g : List Bl) (nm : ByteArray) (i : Nat) : Bool := (nthName g i).toList == nm.toList

theorem wants_name (NB MB : Nat) (g : List Bl) (nm : ByteArray) (w : World) (hM : w.cell? ⟨MB, 0, none⟩ = some (.string nm)) (hl : MB < w.heap.size) : Wants (nameIs g nm) NB g 54 #[.pointer (some ⟨MB, 0, none⟩)] w where
  enter := enters_of Try.func54 (by kernel_rfl) rfl
  goes := by
    intro W i hi hB hN
    have x1 : W.cell? ⟨nb NB i, 1, none⟩ = some (.string g[i].1) := by have := (hN i hi).cell 1; simpa using this
    have x2 := (hB.cell (p := ⟨MB, 0, none⟩) hl).trans hM
    rw [← nthName_at hi] at x1
    show Calls Try.prog 54 #[nptr NB i, .pointer (some ⟨MB, 0, none⟩)] W _
    clear hB hN hM
    go_enter Try.func54, Try.ntmps54
    go_wp2_with fail
    go_quiet (fail)
    go_wp2_with fail
    go_ret
    exact ⟨rfl, below_drewN W _⟩

theorem name_wanted {g : List Bl} (hv : validB g = true) {A : List Nat} {nm : ByteArray} (i : Nat) (h : ∃ c, Lab g A i c) : Wanted (nameIs g nm) i ↔ Named g nm i := by
  obtain ⟨c, hc⟩ := h
  have hi := hc.lt hv
  show nameIs g nm i = true ↔ _
  unfold nameIs
  rw [beq_toList]
  exact ⟨fun h => ⟨hi, h⟩, fun h => h.2⟩

set_option maxRecDepth 100000 in
theorem implWayTo_any (A : Option Addr) (cap : Nat) (g : List Bl) (nm : ByteArray) (w : World) (hg : Gr w A g) (hn : g.length + tot g ≤ 1048576) :
    Calls Try.prog 21 #[.slice A g.length cap, .string nm] w (WayPost2 g (Named g nm) w) := by
  have hg0 := hg.below ((Below.refl _ w).alloc (Nat.le_refl _) (.cells #[.string nm] 9))
  by_cases hv : validB g = true
  · have HC := Lib.hid (nodesOf_yes A cap g _ hg0 hn hv)
    have hpos := (valid_iff.1 hv).1
    have HV := Lib.hid hv
    clear hv
    go_enter Try.func21, Try.ntmps21
    go_wp2_with fail
    refine HC.out.mono ?_
    rintro e w1 ⟨NB, hle, rfl, hN, b1⟩
    have x0 := hN.ptr hpos
    have HN := Lib.hid hN
    have hmk : (w.alloc (.cells #[.string nm] 9)).cell? ⟨w.heap.size, 0, none⟩ = some (.string nm) := (Blk.new w 9 #[.string nm]).cell 0
    have HM := Lib.hid ((b1.cell (p := ⟨w.heap.size, 0, none⟩) (by simp)).trans hmk)
    have HML := Lib.hid (show w.heap.size < w1.heap.size by have := b1.size; simp at this; omega)
    have HB1 := Lib.hid (((Below.refl _ w).alloc (Nat.le_refl _) (.cells #[.string nm] 9)).trans (b1.mono (by simp)))
    clear hN b1 hmk
    go_wp2_with fail
    refine (firstWay_any (nameIs g nm) NB g none 54 #[.pointer (some ⟨w.heap.size, 0, none⟩)] w1 HV.out (fun a h => by cases h) (NodesIn.of HN.out) (wants_name NB w.heap.size g nm w1 HM.out HML.out)).mono ?_
    rintro e w2 ⟨s, ok, rfl, hF, hS, b2⟩
    have HF := Lib.hid hF
    have HS := Lib.hid hS
    clear hF hS
    go_wp2_with fail
    go_ret2
    exact ⟨s, ok, rfl, .inl ⟨HV.out, HF.out.same fun i h => name_wanted HV.out i h⟩, HS.out.same fun i h => name_wanted HV.out i h, below_trans_self HB1.out b2⟩
  · have hv' : validB g = false := by simpa using hv
    have HC := Lib.hid (nodesOf_no A cap g _ hg0 hn hv')
    have HA : Hid (WayAns g (Named g nm) ⟨#[]⟩ false) := .inr ⟨hv', rfl, rfl⟩
    clear hv hv'
    go_enter Try.func21, Try.ntmps21
    go_wp2_with fail
    refine HC.out.mono ?_
    rintro e w1 ⟨rfl, b1⟩
    have HB1 := Lib.hid (((Below.refl _ w).alloc (Nat.le_refl _) (.cells #[.string nm] 9)).trans (b1.mono (by simp)))
    clear b1
    go_wp2_with fail
    go_ret2
    exact ⟨_, _, rfl, HA.out, soon_none _ _ _ _, HB1.out⟩

end Go.Proofs.Yteodlcgmncchpaa
