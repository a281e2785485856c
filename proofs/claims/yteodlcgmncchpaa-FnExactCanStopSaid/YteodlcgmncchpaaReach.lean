/-
  Names of blocks by their numbers, and where a letter stands in them: plain facts.
-/
import Derived.Test.YteodlcgmncchpaaRuns
namespace Go.Proofs.Yteodlcgmncchpaa
open Go.RowKit Go.Sort

theorem name_inj {g : List Bl} (hv : validB g = true) {i j : Nat} (hi : i < g.length) (hj : j < g.length) (h : g[i].1 = g[j].1) : i = j := by
  have key : ∀ i j (hi : i < g.length) (hj : j < g.length), i < j → g[i].1 ≠ g[j].1 := by
    intro i j hi hj hlt e
    obtain ⟨c, hc, hl⟩ := valid_one hv (List.getElem_mem hj)
    have hn := newsB_iff.1 (valid_iff.1 hv).2.2.1 j hj
    rw [hc, newB_one hl] at hn
    have hm : c ∈ (names (g.take j)).data.toList := mem_names.2 ⟨g[i], by
      rw [List.mem_take_iff_getElem]; exact ⟨i, by omega, rfl⟩, by rw [e, hc]; simp⟩
    rw [List.contains_iff_mem.2 hm] at hn
    cases hn
  rcases Nat.lt_trichotomy i j with hlt | e | hlt
  · exact absurd h (key i j hi hj hlt)
  · exact e
  · exact absurd h.symm (key j i hj hi hlt)

theorem posOf_name {g : List Bl} (hv : validB g = true) {i : Nat} (hi : i < g.length) : posOf g g[i].1 = some i :=
  posOf_some hi rfl fun j hj hlt e => by have := name_inj hv hj hi e; omega

theorem nxt_length {g : List Bl} {i : Nat} (hi : i < g.length) : (nxt g i).length = g[i].2.size := by
  unfold nxt; rw [List.length_map, nthNext_at hi, size_of_list]
where
  size_of_list {s : ByteArray} : s.data.toList.length = s.size := by rw [Array.length_toList]; rfl

theorem nxt_get {g : List Bl} (hv : validB g = true) {i : Nat} (hi : i < g.length) {k : Nat} (hk : k < g[i].2.size) :
    ∃ t, ∃ ht : t < g.length, (nxt g i)[k]? = some t ∧ posOf g ⟨#[g[i].2[k]'hk]⟩ = some t ∧ g[t].1 = ⟨#[g[i].2[k]'hk]⟩ := by
  obtain ⟨t, ht, hpos, hn⟩ := posOf_valid hv hi hk
  refine ⟨t, ht, ?_, hpos, hn⟩
  unfold nxt
  rw [List.getElem?_map, nthNext_at hi, byte_at _ k hk]
  simp only [Option.map_some, hpos, Option.getD_some]

theorem nxt_mem {g : List Bl} (hv : validB g = true) {i t : Nat} (hi : i < g.length) (ht : t < g.length) {c : UInt8} (hc : g[t].1 = ⟨#[c]⟩) : t ∈ nxt g i ↔ c ∈ g[i].2.data.toList := by
  constructor
  · intro h
    obtain ⟨k, hk, e⟩ := List.getElem_of_mem h
    rw [nxt_length hi] at hk
    obtain ⟨t', ht', hg', _, hn'⟩ := nxt_get hv hi hk
    rw [List.getElem?_eq_getElem (by rw [nxt_length hi]; exact hk), e] at hg'
    obtain rfl := Option.some.inj hg'
    rw [hc] at hn'
    have : c = g[i].2[k]'hk := by injection hn' with h; simpa using h
    rw [this]; exact List.mem_of_getElem? (byte_at _ k hk)
  · intro h
    obtain ⟨k, hk, e⟩ := List.getElem_of_mem h
    have hk' : k < g[i].2.size := by simpa using hk
    obtain ⟨t', ht', hg', _, hn'⟩ := nxt_get hv hi hk'
    have hb : g[i].2[k]'hk' = c := by
      have h1 := byte_at g[i].2 k hk'
      rw [List.getElem?_eq_getElem hk, e] at h1
      exact (Option.some.inj h1).symm
    rw [hb, ← hc] at hn'
    obtain rfl := name_inj hv ht' ht hn'
    exact List.mem_of_getElem? hg'

theorem mem_namesAt {g : List Bl} {c : UInt8} : ∀ {l : List Nat}, c ∈ (namesAt g l).data.toList ↔ ∃ i ∈ l, c ∈ (nthName g i).data.toList
  | [] => by simp [namesAt]
  | i :: l => by rw [namesAt, ba_append_toList, List.mem_append, mem_namesAt]; simp

/-- A block's letter stands among these names exactly if the block is among these. -/
theorem idx_namesAt {g : List Bl} (hv : validB g = true) {l : List Nat} (hl : ∀ i ∈ l, i < g.length) {t : Nat} (ht : t < g.length) {c : UInt8} (hc : g[t].1 = ⟨#[c]⟩) :
    0 ≤ Lib.indexByte (namesAt g l).data.toList c ↔ t ∈ l := by
  rw [idx_mem, mem_namesAt]
  constructor
  · rintro ⟨i, hi, hm⟩
    have hi' := hl i hi
    obtain ⟨d, hd, _⟩ := valid_one hv (List.getElem_mem hi')
    rw [nthName_at hi', hd] at hm
    have hcd : c = d := by simpa using hm
    subst hcd
    rw [← hc] at hd
    rw [← name_inj hv hi' ht hd]; exact hi
  · intro h
    exact ⟨t, h, by rw [nthName_at ht, hc]; simp⟩

/-- A letter that is no name stands in none. -/
theorem idx_namesAt_no {g : List Bl} (hv : validB g = true) {l : List Nat} (hl : ∀ i ∈ l, i < g.length) {c : UInt8} (hc : posOf g ⟨#[c]⟩ = none) : ¬ 0 ≤ Lib.indexByte (namesAt g l).data.toList c := by
  rw [idx_mem, mem_namesAt]
  rintro ⟨i, hi, hm⟩
  have hi' := hl i hi
  obtain ⟨d, hd, _⟩ := valid_one hv (List.getElem_mem hi')
  rw [nthName_at hi', hd] at hm
  have hcd : c = d := by simpa using hm
  subst hcd
  rw [← hd, posOf_name hv hi'] at hc
  cases hc

theorem namesAt_get {g : List Bl} (hv : validB g = true) : ∀ {l : List Nat}, (∀ i ∈ l, i < g.length) → ∀ {k : Nat} (hk : k < l.length), ∃ h : l[k] < g.length, (namesAt g l).data.toList[k]? = g[l[k]].1.data.toList[0]?
  | [], _, k, hk => by simp at hk
  | i :: l, hl, k, hk => by
    have hi := hl i (by simp)
    obtain ⟨c, hc, _⟩ := valid_one hv (List.getElem_mem hi)
    cases k with
    | zero =>
      refine ⟨hi, ?_⟩
      rw [namesAt, ba_append_toList, nthName_at hi]
      simp [hc]
    | succ k =>
      obtain ⟨h, e⟩ := namesAt_get hv (l := l) (fun j hj => hl j (by simp [hj])) (k := k) (by simpa using hk)
      refine ⟨h, ?_⟩
      rw [namesAt, ba_append_toList, nthName_at hi, hc]
      simpa using e

/-- The k-th of these names. -/
theorem namesAt_byte {g : List Bl} (hv : validB g = true) {l : List Nat} (hl : ∀ i ∈ l, i < g.length) {k : Nat} (hk : k < l.length) :
    ∃ h : l[k] < g.length, ∃ hk' : k < (namesAt g l).size, g[l[k]].1 = ⟨#[(namesAt g l)[k]'hk']⟩ := by
  obtain ⟨h, e⟩ := namesAt_get hv hl hk
  have hk' : k < (namesAt g l).size := by rw [namesAt_size hv l hl]; exact hk
  refine ⟨h, hk', ?_⟩
  obtain ⟨c, hc, _⟩ := valid_one hv (List.getElem_mem h)
  rw [byte_at _ k hk', hc] at e
  have : (namesAt g l)[k]'hk' = c := by simpa using e
  rw [this, hc]

theorem namesAt_cut {g : List Bl} (hv : validB g = true) {l : List Nat} (hl : ∀ i ∈ l, i < g.length) {k : Nat} (hk : k < l.length) :
    ∃ h : l[k] < g.length, (namesAt g l).extract k (k + 1) = g[l[k]].1 := by
  obtain ⟨h, hk', e⟩ := namesAt_byte hv hl hk
  exact ⟨h, by rw [ex_byte _ (a := k) (b := k + 1) (by omega) (by omega) (by omega), e]⟩

theorem namesAt_all (g : List Bl) : ∀ k, k ≤ g.length → namesAt g (List.range k) = names (g.take k)
  | 0, _ => by simp [namesAt, names]
  | k + 1, h => by rw [List.range_succ, namesAt_append, namesAt_all g k (by omega), namesAt_one, names_take g k (by omega), nthName_at (by omega)]

end Go.Proofs.Yteodlcgmncchpaa
