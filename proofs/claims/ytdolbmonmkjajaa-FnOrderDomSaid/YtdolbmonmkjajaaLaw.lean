/-
  For the laws: bytes that came in, opened; what was drawn, read; two lists of blocks compared; a letter looked for.
-/
import Derived.Test.YtdolbmonmkjajaaDraws
import Derived.Test.YtdolbmonmkjajaaValids
import Derived.Test.YtdolbmonmkjajaaBase
import Derived.ChangeSlices
namespace Go.Proofs.Ytdolbmonmkjajaa
open Go.ChangeShapes Go.WideShapes Go.ChangeAt Go.RowKit Go.Deep Go.Sort

theorem cellsByte : Try.prog.cellsOf 5 = 1 := by kernel_rfl

set_option maxRecDepth 100000 in
/-- A slice-of-bytes argument. -/
theorem open_bytes {H : Type} {enc : TypeId × Value → H} {W : World} {r : Reach} {b0 : Nat} {v : Value} {d : DataW H} {ps : List MemPlace}
    (hval : Value.okWide Try.prog W r b0 37 v) (h : DataW.Trod enc Try.prog W 0 (fun _ => true) true 37 v d ps) (hlt : ∀ x ∈ ps, x.block < W.heap.size) :
    ∃ (A : Option Addr) (len cap : Nat), v = .slice A len cap ∧ len ≤ cap ∧ cap ≤ 9223372036854775807 ∧ Bytes W A len := by
  obtain ⟨a0, len, cap, rfl⟩ := okWide_slice Try.underlying37 hval
  obtain ⟨fuel, hf⟩ := h
  rcases open_ints Try.underlying37 Try.underlying5 cellsByte hf with ⟨hcs, _⟩ | ⟨a, len', cap', zs, hcs, _, hl, hm, hz, hx, hc, hw⟩
  · simp [Value.cells] at hcs
    obtain ⟨rfl, rfl, rfl⟩ := hcs
    exact ⟨none, 0, 0, rfl, Nat.le_refl _, Nat.zero_le _, fun h => absurd h (by omega)⟩
  · simp [Value.cells] at hcs
    obtain ⟨rfl, rfl, rfl⟩ := hcs
    simp only [if_true] at hz
    refine ⟨some a, len, cap, rfl, hl, by simpa [maxLen] using hm, fun hn => ?_⟩
    have h0 := hc 0 (by omega)
    obtain ⟨b, off, spot⟩ := a
    have hspot : spot = none := by simpa [Addr.add] using World.cell?_spot h0
    subst hspot
    have hbW : b < W.heap.size := by
      have hx2 := (Prod.mk.inj hx).2
      have : MemPlace.cell b off ∈ ps := by
        rw [hx2]
        exact MemPlace.mem_row.2 ⟨0, by omega, by simp⟩
      exact hlt _ this
    refine ⟨b, off, rfl, hbW, fun k hk => ?_⟩
    have hck := hc k (by omega)
    rw [add_plain] at hck
    have hwf := hw (zs.getD k 0) (by rw [List.getD_eq_getElem?_getD, List.getElem?_eq_getElem (by omega)]; exact List.getElem_mem _)
    have hb : IntKind.u8.min ≤ zs.getD k 0 ∧ zs.getD k 0 ≤ IntKind.u8.max := by simpa [Lit.wf] using hwf
    have e0 : IntKind.u8.min = 0 := rfl
    have e1 : IntKind.u8.max = 255 := rfl
    rw [e0, e1] at hb
    refine ⟨UInt8.ofNat (zs.getD k 0).toNat, hck.trans ?_⟩
    congr 2
    rw [UInt8.toNat_ofNat']
    omega

/-- What was drawn, as it reads. -/
def Drawn (n : Nat) (w : World) (e : Ending) (w' : World) : Prop :=
  ∃ A cap g, e = .returned (.slice A g.length cap) ∧ g.length ≤ cap ∧ Gr w' A g ∧ g.length + tot g ≤ n ∧ Below w.heap.size w w'

theorem drawn_of {n : Nat} {w : World} {e : Ending} {w' : World} (h : DrawPost n w e w') : Drawn n w e w' := by
  obtain ⟨v, g, rfl, ho, hn, hB⟩ := h
  obtain ⟨A, cap, rfl, hc, hg⟩ := own_gr ho
  exact ⟨A, cap, g, rfl, hc, hg, hn, hB⟩

def DrawnPlace (n : Nat) (w : World) (e : Ending) (w' : World) : Prop :=
  ∃ A cap g s, e = .returned (.tuple #[.slice A g.length cap, .string s]) ∧ g.length ≤ cap ∧ Gr w' A g ∧ g.length + tot g ≤ n ∧ s.size ≤ 2 ∧ Below w.heap.size w w'

theorem drawnPlace_of {n : Nat} {w : World} {e : Ending} {w' : World} (h : DrawPlacePost n w e w') : DrawnPlace n w e w' := by
  obtain ⟨v, g, s, rfl, ho, hn, hs, hB⟩ := h
  obtain ⟨A, cap, rfl, hc, hg⟩ := own_gr ho
  exact ⟨A, cap, g, s, rfl, hc, hg, hn, hs, hB⟩

theorem below_drewN' (w : World) (n : Nat) {B : Nat} (_ : B ≤ w.heap.size) : Below B w (w.drewN n) := (below_drewN w n).mono ‹_›

theorem sjGraph_end {g h : List Bl} (hk : ∀ j (h1 : j < g.length) (h2 : j < h.length), g[j] = h[j]) : decide ((g.length : Int) = (h.length : Int)) = eqG g h := by
  by_cases e : g.length = h.length
  · have : g = h := List.ext_getElem e fun j h1 h2 => hk j h1 h2
    rw [eqG_iff.2 this, decide_eq_true (by omega)]
  · have : eqG g h = false := by
      cases hx : eqG g h with
      | false => rfl
      | true => exact absurd (congrArg List.length (eqG_iff.1 hx)) e
    rw [this, decide_eq_false (by omega)]


/-- Is this one byte of a text? -/
def hasB (s c : ByteArray) : Bool := (List.range s.size).any fun i => decide (s.extract i (i + 1) = c)

theorem hasB_yes {s c : ByteArray} {i : Nat} (hi : i < s.size) (h : s.extract i (i + 1) = c) : hasB s c = true := by
  unfold hasB; rw [List.any_eq_true]; exact ⟨i, List.mem_range.2 hi, by simpa using h⟩
theorem hasB_no {s c : ByteArray} (h : ∀ i, i < s.size → s.extract i (i + 1) ≠ c) : hasB s c = false := by
  unfold hasB; rw [List.any_eq_false]; intro i hi; simpa using h i (List.mem_range.1 hi)
theorem hasB_iff {s c : ByteArray} : hasB s c = true ↔ ∃ i, i < s.size ∧ s.extract i (i + 1) = c := by
  unfold hasB; rw [List.any_eq_true]
  constructor
  · rintro ⟨i, hi, h⟩; exact ⟨i, List.mem_range.1 hi, by simpa using h⟩
  · rintro ⟨i, hi, h⟩; exact ⟨i, List.mem_range.2 hi, by simpa using h⟩


theorem Bytes.below {w w' : World} {A : Option Addr} {len : Nat} (h : Bytes w A len) (hb : Below w.heap.size w w') : Bytes w' A len := by
  intro hn
  obtain ⟨b, off, rfl, hlt, hc⟩ := h hn
  have := hb.size
  exact ⟨b, off, rfl, by omega, fun k hk => by obtain ⟨c, e⟩ := hc k hk; exact ⟨c, (hb.cell (p := ⟨b, off + k, none⟩) hlt).trans e⟩⟩

end Go.Proofs.Ytdolbmonmkjajaa
