/-
  Contracts of the program's WayTo, StopsWith and CanStop.
-/
import Derived.Test.YtgkamcnbpiipoaaGreatWaysFrom
import Derived.Test.YtgkamcnbpiipoaaGreatSpecWays
namespace Go.Proofs.YtgkamcnbpiipoaaGreat
open Go.RowKit Go.Sort Go.Shelf

theorem is_stop (w : World) : (Instr.typeAssert (.iface 67 (.agg #[])) 62 67 true).run Tryz.prog w = .ok (.tuple #[.agg #[], .bool true]) w := by kernel_rfl
theorem jump_no_stop (u : Value) (w : World) : (Instr.typeAssert (.iface 103 (.agg #[u])) 62 67 true).run Tryz.prog w = .ok (.tuple #[.agg #[], .bool false]) w := by kernel_rfl
theorem branch_no_stop (u v : Value) (w : World) : (Instr.typeAssert (.iface 105 (.agg #[u, v])) 62 67 true).run Tryz.prog w = .ok (.tuple #[.agg #[], .bool false]) w := by kernel_rfl

def stopB (g : List Bl) (i : Nat) : Bool := (nxt g i).isEmpty

theorem stop_wanted {g : List Bl} (hv : validB g = true) {A : List Nat} (i : Nat) (h : ∃ c, Lab g A i c) : Wanted (stopB g) i ↔ Stops g i := by
  obtain ⟨c, hc⟩ := h
  have hi := hc.lt hv
  show stopB g i = true ↔ _
  unfold stopB
  rw [List.isEmpty_iff]
  exact ⟨fun h => ⟨hi, h⟩, fun h => h.2⟩

/-- What the program's search answers, and that a run comes there soon. -/
def WayPost2 (g : List Bl) (P : Nat → Prop) (w : World) (e : Ending) (w' : World) : Prop :=
  ∃ s ok, e = .returned (.tuple #[.string s, .bool ok]) ∧ WayAns g P s ok ∧ SoonAt g [] P s ok ∧ Below w.heap.size w w'

theorem SoonAt.same {g : List Bl} {A : List Nat} {P Q : Nat → Prop} {s : ByteArray} {ok : Bool} (h : SoonAt g A P s ok) (e : ∀ i, (∃ c, Lab g A i c) → (P i ↔ Q i)) : SoonAt g A Q s ok := fun ho => by
  obtain ⟨i, m, h1, h2, h3, h4⟩ := h ho
  exact ⟨i, m, (e i ⟨_, h2.1⟩).1 h1, h2, h3, h4⟩

/-- Named like that. -/
def nameIs (g : List Bl) (nm : ByteArray) (i : Nat) : Bool := (nthName g i).toList == nm.toList

theorem name_wanted {g : List Bl} (hv : validB g = true) {A : List Nat} {nm : ByteArray} (i : Nat) (h : ∃ c, Lab g A i c) : Wanted (nameIs g nm) i ↔ Named g nm i := by
  obtain ⟨c, hc⟩ := h
  have hi := hc.lt hv
  show nameIs g nm i = true ↔ _
  unfold nameIs
  rw [beq_toList]
  exact ⟨fun h => ⟨hi, h⟩, fun h => h.2⟩

theorem wants_stop (NB : Nat) (g : List Bl) (w : World) (hv : validB g = true) : Wants (stopB g) NB g 33 #[] w where
  enter := enters_of Tryz.func33 (by kernel_rfl) rfl
  goes := by
    intro W i hi _ hN
    have x2 := (hN i hi).cell 2
    have hl := (hN i hi).lt
    show Calls Tryz.prog 33 #[nptr NB i] W _
    rcases ends_of (NB := NB) hi (goes hv hi) with ⟨hn0, he⟩ | ⟨p, hp, hn1, he⟩ | ⟨p, q, hp, hq, hn2, he⟩
    · have x2' : W.cell? ⟨nb NB i, 2, none⟩ = some (.iface 67 (.agg #[])) := by rw [x2, he]; rfl
      have a1 := is_stop
      have HR := Lib.hid (show true = stopB g i by unfold stopB; rw [hn0]; rfl)
      clear x2 he hn0 hN
      go_enter Tryz.func33, Tryz.ntmps33
      go_wp2_with fail
      go_ret
      exact ⟨ret_bool HR.out, (Below.refl _ _).alloc (Nat.le_refl _) _⟩
    · have x2' : W.cell? ⟨nb NB i, 2, none⟩ = some (.iface 103 (.agg #[nptr NB p])) := by rw [x2, he]; rfl
      have a1 := jump_no_stop
      have HR := Lib.hid (show false = stopB g i by unfold stopB; rw [hn1]; rfl)
      clear x2 he hn1 hN
      go_enter Tryz.func33, Tryz.ntmps33
      go_wp2_with fail
      go_ret
      exact ⟨ret_bool HR.out, (Below.refl _ _).alloc (Nat.le_refl _) _⟩
    · have x2' : W.cell? ⟨nb NB i, 2, none⟩ = some (.iface 105 (.agg #[nptr NB p, nptr NB q])) := by rw [x2, he]; rfl
      have a1 := branch_no_stop
      have HR := Lib.hid (show false = stopB g i by unfold stopB; rw [hn2]; rfl)
      clear x2 he hn2 hN
      go_enter Tryz.func33, Tryz.ntmps33
      go_wp2_with fail
      go_ret
      exact ⟨ret_bool HR.out, (Below.refl _ _).alloc (Nat.le_refl _) _⟩

set_option maxRecDepth 100000 in
theorem implStops_any (A : Option Addr) (cap : Nat) (g : List Bl) (w : World) (hg : Gr w A g) (hn : g.length + tot g ≤ 1048576) :
    Calls Tryz.prog 15 #[.slice A g.length cap] w (WayPost2 g (Stops g) w) := by
  by_cases hv : validB g = true
  · have HC := Lib.hid (nodesOf_yes A cap g w hg hn hv)
    have hpos := (valid_iff.1 hv).1
    have HV := Lib.hid hv
    clear hv
    go_enter Tryz.func15, Tryz.ntmps15
    go_wp2_with fail
    refine HC.out.mono ?_
    rintro e w1 ⟨NB, hle, rfl, hN, b1⟩
    have x0 := hN.ptr hpos
    have HN := Lib.hid hN
    have HB1 := Lib.hid b1
    clear hN b1
    go_wp2_with fail
    refine (firstWay_any (stopB g) NB g none 33 #[] w1 HV.out (fun a h => by cases h) (NodesIn.of HN.out) (wants_stop NB g w1 HV.out)).mono ?_
    rintro e w2 ⟨s, ok, rfl, hF, hS, b2⟩
    have HF := Lib.hid hF
    have HS := Lib.hid hS
    clear hF hS
    go_wp2_with fail
    go_ret2
    exact ⟨s, ok, rfl, .inl ⟨HV.out, HF.out.same fun i h => stop_wanted HV.out i h⟩, HS.out.same fun i h => stop_wanted HV.out i h, below_trans_self HB1.out b2⟩
  · have hv' : validB g = false := by simpa using hv
    have HC := Lib.hid (nodesOf_no A cap g w hg hn hv')
    have HA : Hid (WayAns g (Stops g) ⟨#[]⟩ false) := .inr ⟨hv', rfl, rfl⟩
    clear hv hv'
    go_enter Tryz.func15, Tryz.ntmps15
    go_wp2_with fail
    refine HC.out.mono ?_
    rintro e w1 ⟨rfl, b1⟩
    go_wp2_with fail
    go_ret2
    exact ⟨_, _, rfl, HA.out, soon_none _ _ _ _, b1⟩



end Go.Proofs.YtgkamcnbpiipoaaGreat
