/-
  For the laws: bytes that came in, opened; a letter looked for.
-/
import Derived.Test.YtgkamcnbpiipoaaGreatRd
import Derived.Test.YtgkamcnbpiipoaaGreatBase
import Derived.ProofKit
import Derived.ChangeSlices
import Derived.Deep.SlicePairs
namespace Go.Proofs.YtgkamcnbpiipoaaGreat
open Go.ChangeShapes Go.WideShapes Go.ChangeAt Go.RowKit Go.Deep Go.Sort

theorem cellsByte : Tryz.prog.cellsOf 5 = 1 := by kernel_rfl

set_option maxRecDepth 100000 in
/-- A slice-of-bytes argument. -/
theorem open_bytes {H : Type} {enc : TypeId × Value → H} {W : World} {r : Reach} {b0 : Nat} {v : Value} {d : DataW H} {ps : List MemPlace}
    (hval : Value.okWide Tryz.prog W r b0 22 v) (h : DataW.Trod enc Tryz.prog W 0 (fun _ => true) true 22 v d ps) (hlt : ∀ x ∈ ps, x.block < W.heap.size) :
    ∃ (A : Option Addr) (len cap : Nat), v = .slice A len cap ∧ len ≤ cap ∧ cap ≤ 9223372036854775807 ∧ Bytes W A len := by
  obtain ⟨a0, len, cap, rfl⟩ := okWide_slice Tryz.underlying22 hval
  obtain ⟨fuel, hf⟩ := h
  rcases open_ints Tryz.underlying22 Tryz.underlying5 cellsByte hf with ⟨hcs, _⟩ | ⟨a, len', cap', zs, hcs, _, hl, hm, hz, hx, hc, hw⟩
  · simp [Value.cells] at hcs
    obtain ⟨rfl, rfl, rfl⟩ := hcs
    exact ⟨none, 0, 0, rfl, Nat.le_refl _, Nat.zero_le _, fun h => absurd h (by omega)⟩
  · simp [Value.cells] at hcs
    obtain ⟨rfl, rfl, rfl⟩ := hcs
    simp only [if_true] at hz
    refine ⟨some a, len, cap, rfl, hl, by simpa [maxLen] using hm, fun hn => ?_⟩
    have h0 := hc 0 (by omega)
    obtain ⟨b, off, spot⟩ := a
    have hspot : spot = none := by simpa [Addr.add] using World.cell?_spot h0
    subst hspot
    have hbW : b < W.heap.size := by
      have hx2 := (Prod.mk.inj hx).2
      have : MemPlace.cell b off ∈ ps := by
        rw [hx2]
        exact MemPlace.mem_row.2 ⟨0, by omega, by simp⟩
      exact hlt _ this
    refine ⟨b, off, rfl, hbW, fun k hk => ?_⟩
    have hck := hc k (by omega)
    rw [add_plain] at hck
    have hwf := hw (zs.getD k 0) (by rw [List.getD_eq_getElem?_getD, List.getElem?_eq_getElem (by omega)]; exact List.getElem_mem _)
    have hb : IntKind.u8.min ≤ zs.getD k 0 ∧ zs.getD k 0 ≤ IntKind.u8.max := by simpa [Lit.wf] using hwf
    have e0 : IntKind.u8.min = 0 := rfl
    have e1 : IntKind.u8.max = 255 := rfl
    rw [e0, e1] at hb
    refine ⟨UInt8.ofNat (zs.getD k 0).toNat, hck.trans ?_⟩
    congr 2
    rw [UInt8.toNat_ofNat']
    omega

/-- Is this one byte of a text? -/
def hasB (s c : ByteArray) : Bool := (List.range s.size).any fun i => decide (s.extract i (i + 1) = c)

theorem hasB_yes {s c : ByteArray} {i : Nat} (hi : i < s.size) (h : s.extract i (i + 1) = c) : hasB s c = true := by
  unfold hasB; rw [List.any_eq_true]; exact ⟨i, List.mem_range.2 hi, by simpa using h⟩
theorem hasB_no {s c : ByteArray} (h : ∀ i, i < s.size → s.extract i (i + 1) ≠ c) : hasB s c = false := by
  unfold hasB; rw [List.any_eq_false]; intro i hi; simpa using h i (List.mem_range.1 hi)
theorem hasB_iff {s c : ByteArray} : hasB s c = true ↔ ∃ i, i < s.size ∧ s.extract i (i + 1) = c := by
  unfold hasB; rw [List.any_eq_true]
  constructor
  · rintro ⟨i, hi, h⟩; exact ⟨i, List.mem_range.1 hi, by simpa using h⟩
  · rintro ⟨i, hi, h⟩; exact ⟨i, List.mem_range.2 hi, by simpa using h⟩


theorem Bytes.below {w w' : World} {A : Option Addr} {len : Nat} (h : Bytes w A len) (hb : Below w.heap.size w w') : Bytes w' A len := by
  intro hn
  obtain ⟨b, off, rfl, hlt, hc⟩ := h hn
  have := hb.size
  exact ⟨b, off, rfl, by omega, fun k hk => by obtain ⟨c, e⟩ := hc k hk; exact ⟨c, (hb.cell (p := ⟨b, off + k, none⟩) hlt).trans e⟩⟩
end Go.Proofs.YtgkamcnbpiipoaaGreat
