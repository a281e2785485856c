/-
  Contract of the model's count of jumps that go forward to a block.
-/
import Derived.Test.YtdolbmonmkjajaaJumpMath
import Derived.Test.YtdolbmonmkjajaaSpecDom
import Derived.Test.YtdolbmonmkjajaaValids
namespace Go.Proofs.Ytdolbmonmkjajaa
open Go.RowKit Go.Sort

/-- Where the letter of a block stands among names. -/
theorem idx_place {g : List Bl} (hv : validB g = true) {l : List Nat} (hl : ∀ i ∈ l, i < g.length) {t : Nat} (hm : t ∈ l) {c : UInt8} (ht : t < g.length) (hc : g[t].1 = ⟨#[c]⟩) : Lib.indexByte (namesAt g l).data.toList c = (placeIn l t : Int) := by
  obtain ⟨o, ho⟩ := Int.eq_ofNat_of_zero_le ((idx_namesAt hv hl ht hc).2 hm)
  have ho' : Lib.indexByte (namesAt g l).data.toList c = (o : Int) := ho
  obtain ⟨h1, h2⟩ := Lib.indexByte_some ho'
  have hp := placeIn_lt hm
  have hpt := placeIn_get hm
  obtain ⟨_, e1⟩ := namesAt_get hv hl hp
  have e2 : (namesAt g l).data.toList[placeIn l t]? = some c := by
    rw [e1]
    simp only [hpt, hc]; rfl
  have hle : o ≤ placeIn l t := Nat.le_of_not_lt fun h => h2 _ h e2
  have hol : o < l.length := by omega
  obtain ⟨h3, e3⟩ := namesAt_get hv hl hol
  rw [h1] at e3
  obtain ⟨d, hd, _⟩ := valid_one hv (List.getElem_mem h3)
  have hcd : c = d := by
    rw [hd] at e3
    simpa using e3
  have hx : l[o] = t := name_inj hv h3 ht (by rw [hd, hc, hcd])
  have hge : placeIn l t ≤ o := by
    rcases Nat.lt_or_ge o (placeIn l t) with h | h
    · have := List.not_of_lt_findIdx (xs := l) (p := fun y => decide (y = t)) h
      simp [hx] at this
    · exact h
  rw [ho']
  congr 1
  omega

end Go.Proofs.Ytdolbmonmkjajaa
