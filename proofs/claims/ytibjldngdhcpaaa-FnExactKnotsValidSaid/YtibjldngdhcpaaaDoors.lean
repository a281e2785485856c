/-
  Graphs with names of one letter, none twice, and next ones that are names (a valid graph's facts without its other rules): what can be come to.
-/
import Derived.Test.YtibjldngdhcpaaaRuns
namespace Go.Proofs.Ytibjldngdhcpaaa
open Go.RowKit Go.Sort

structure DG (g : List Bl) : Prop where
  pos : 0 < g.length
  one : ∀ i (h : i < g.length), ∃ c, g[i].1 = ⟨#[c]⟩ ∧ True
  inj : ∀ {i j : Nat} (hi : i < g.length) (hj : j < g.length), g[i].1 = g[j].1 → i = j
  nx : ∀ {k : Nat} (hk : k < g.length) {j : Nat} (hj : j < g[k].2.size), ∃ i, ∃ h : i < g.length, posOf g ⟨#[g[k].2[j]'hj]⟩ = some i ∧ g[i].1 = ⟨#[g[k].2[j]'hj]⟩

theorem posOf_name_d {g : List Bl} (hv : DG g) {i : Nat} (hi : i < g.length) : posOf g g[i].1 = some i :=
  posOf_some hi rfl fun j hj hlt e => by have := hv.inj hj hi e; omega

theorem nxt_get_d {g : List Bl} (hv : DG g) {i : Nat} (hi : i < g.length) {k : Nat} (hk : k < g[i].2.size) :
    ∃ t, ∃ ht : t < g.length, (nxt g i)[k]? = some t ∧ posOf g ⟨#[g[i].2[k]'hk]⟩ = some t ∧ g[t].1 = ⟨#[g[i].2[k]'hk]⟩ := by
  obtain ⟨t, ht, hpos, hn⟩ := hv.nx hi hk
  refine ⟨t, ht, ?_, hpos, hn⟩
  unfold nxt
  rw [List.getElem?_map, nthNext_at hi, byte_at _ k hk]
  simp only [Option.map_some, hpos, Option.getD_some]

theorem nxt_mem_d {g : List Bl} (hv : DG g) {i t : Nat} (hi : i < g.length) (ht : t < g.length) {c : UInt8} (hc : g[t].1 = ⟨#[c]⟩) : t ∈ nxt g i ↔ c ∈ g[i].2.data.toList := by
  constructor
  · intro h
    obtain ⟨k, hk, e⟩ := List.getElem_of_mem h
    rw [nxt_length hi] at hk
    obtain ⟨t', ht', hg', _, hn'⟩ := nxt_get_d hv hi hk
    rw [List.getElem?_eq_getElem (by rw [nxt_length hi]; exact hk), e] at hg'
    obtain rfl := Option.some.inj hg'
    rw [hc] at hn'
    have : c = g[i].2[k]'hk := by injection hn' with h; simpa using h
    rw [this]; exact List.mem_of_getElem? (byte_at _ k hk)
  · intro h
    obtain ⟨k, hk, e⟩ := List.getElem_of_mem h
    have hk' : k < g[i].2.size := by simpa using hk
    obtain ⟨t', ht', hg', _, hn'⟩ := nxt_get_d hv hi hk'
    have hb : g[i].2[k]'hk' = c := by
      have h1 := byte_at g[i].2 k hk'
      rw [List.getElem?_eq_getElem hk, e] at h1
      exact (Option.some.inj h1).symm
    rw [hb, ← hc] at hn'
    obtain rfl := hv.inj ht' ht hn'
    exact List.mem_of_getElem? hg'

theorem idx_namesAt_d {g : List Bl} (hv : DG g) {l : List Nat} (hl : ∀ i ∈ l, i < g.length) {t : Nat} (ht : t < g.length) {c : UInt8} (hc : g[t].1 = ⟨#[c]⟩) :
    0 ≤ Lib.indexByte (namesAt g l).data.toList c ↔ t ∈ l := by
  rw [idx_mem, mem_namesAt]
  constructor
  · rintro ⟨i, hi, hm⟩
    have hi' := hl i hi
    obtain ⟨d, hd, _⟩ := hv.one _ hi'
    rw [nthName_at hi', hd] at hm
    have hcd : c = d := by simpa using hm
    subst hcd
    rw [← hc] at hd
    rw [← hv.inj hi' ht hd]; exact hi
  · intro h
    exact ⟨t, h, by rw [nthName_at ht, hc]; simp⟩

theorem namesAt_size_d {g : List Bl} (hv : DG g) : ∀ (l : List Nat), (∀ i ∈ l, i < g.length) → (namesAt g l).size = l.length
  | [], _ => rfl
  | i :: l, h => by
    have hi := h i (by simp)
    obtain ⟨c, hc, _⟩ := hv.one _ hi
    have ih := namesAt_size_d hv l (fun j hj => h j (by simp [hj]))
    rw [namesAt, ByteArray.size_append, ih, nthName_at hi, hc]
    show 1 + l.length = l.length + 1
    omega

theorem namesAt_get_d {g : List Bl} (hv : DG g) : ∀ {l : List Nat}, (∀ i ∈ l, i < g.length) → ∀ {k : Nat} (hk : k < l.length), ∃ h : l[k] < g.length, (namesAt g l).data.toList[k]? = g[l[k]].1.data.toList[0]?
  | [], _, k, hk => by simp at hk
  | i :: l, hl, k, hk => by
    have hi := hl i (by simp)
    obtain ⟨c, hc, _⟩ := hv.one _ hi
    cases k with
    | zero =>
      refine ⟨hi, ?_⟩
      rw [namesAt, ba_append_toList, nthName_at hi]
      simp [hc]
    | succ k =>
      obtain ⟨h, e⟩ := namesAt_get_d hv (l := l) (fun j hj => hl j (by simp [hj])) (k := k) (by simpa using hk)
      refine ⟨h, ?_⟩
      rw [namesAt, ba_append_toList, nthName_at hi, hc]
      simpa using e

theorem namesAt_byte_d {g : List Bl} (hv : DG g) {l : List Nat} (hl : ∀ i ∈ l, i < g.length) {k : Nat} (hk : k < l.length) :
    ∃ h : l[k] < g.length, ∃ hk' : k < (namesAt g l).size, g[l[k]].1 = ⟨#[(namesAt g l)[k]'hk']⟩ := by
  obtain ⟨h, e⟩ := namesAt_get_d hv hl hk
  have hk' : k < (namesAt g l).size := by rw [namesAt_size_d hv l hl]; exact hk
  refine ⟨h, hk', ?_⟩
  obtain ⟨c, hc, _⟩ := hv.one _ h
  rw [byte_at _ k hk', hc] at e
  have : (namesAt g l)[k]'hk' = c := by simpa using e
  rw [this, hc]

theorem namesAt_cut_d {g : List Bl} (hv : DG g) {l : List Nat} (hl : ∀ i ∈ l, i < g.length) {k : Nat} (hk : k < l.length) :
    ∃ h : l[k] < g.length, (namesAt g l).extract k (k + 1) = g[l[k]].1 := by
  obtain ⟨h, hk', e⟩ := namesAt_byte_d hv hl hk
  exact ⟨h, by rw [ex_byte _ (a := k) (b := k + 1) (by omega) (by omega) (by omega), e]⟩

theorem nxt_lt_d {g : List Bl} (hv : DG g) {i : Nat} (hi : i < g.length) {t : Nat} (ht : t ∈ nxt g i) : t < g.length := by
  obtain ⟨k, hk, e⟩ := List.getElem_of_mem ht
  rw [nxt_length hi] at hk
  obtain ⟨t', ht', hg', _, _⟩ := nxt_get_d hv hi hk
  rw [List.getElem?_eq_getElem (by rw [nxt_length hi]; exact hk), e] at hg'
  rw [Option.some.inj hg']; exact ht'

theorem bfs_lt_d {g : List Bl} (hv : DG g) : ∀ k, ∀ x ∈ bfs g k, x < g.length
  | 0, x, hx => by simp [bfs] at hx; subst hx; exact hv.pos
  | k + 1, x, hx => by
    have ih := bfs_lt_d hv k
    by_cases h : k < (bfs g k).length
    · rw [bfs_step h, stepL_mem] at hx
      rcases hx with hx | hx
      · exact ih x hx
      · exact nxt_lt_d hv (ih _ (List.getElem_mem h)) hx
    · rw [bfs_stay (by omega)] at hx; exact ih x hx

theorem bfs_len_d {g : List Bl} (hv : DG g) (k : Nat) : (bfs g k).length ≤ g.length := nodup_lt_len _ _ (bfs_nodup g k) (bfs_lt_d hv k)

end Go.Proofs.Ytibjldngdhcpaaa
