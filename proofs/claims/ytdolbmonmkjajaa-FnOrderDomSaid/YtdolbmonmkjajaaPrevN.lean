/-
  Which blocks go on to one, by their numbers; a letter among names: plain facts.
-/
import Derived.Test.YtdolbmonmkjajaaPrevOf
import Derived.Test.YtdolbmonmkjajaaRuns
import Derived.Test.YtdolbmonmkjajaaLaw
namespace Go.Proofs.Ytdolbmonmkjajaa
open Go.RowKit Go.Sort

theorem hasB_namesAt {g : List Bl} (hv : validB g = true) {l : List Nat} (hl : ∀ i ∈ l, i < g.length) {i : Nat} (hi : i < g.length) : hasB (namesAt g l) g[i].1 = decide (i ∈ l) := by
  rw [Bool.eq_iff_iff, hasB_iff, decide_eq_true_iff]
  constructor
  · rintro ⟨k, hk, e⟩
    rw [namesAt_size hv l hl] at hk
    obtain ⟨h, e2⟩ := namesAt_cut hv hl hk
    rw [e2] at e
    rw [← name_inj hv h hi e]; exact List.getElem_mem hk
  · intro h
    obtain ⟨k, hk, e⟩ := List.getElem_of_mem h
    obtain ⟨h2, e2⟩ := namesAt_cut hv hl hk
    refine ⟨k, by rw [namesAt_size hv l hl]; exact hk, e2.trans ?_⟩
    congr 2

theorem hasB_next {g : List Bl} (hv : validB g = true) {i u : Nat} (hi : i < g.length) (hu : u < g.length) : hasB g[i].2 g[u].1 = decide (u ∈ nxt g i) := by
  obtain ⟨c, hc, _⟩ := valid_one hv (List.getElem_mem hu)
  rw [Bool.eq_iff_iff, hasB_iff, decide_eq_true_iff, nxt_mem hv hi hu hc]
  constructor
  · rintro ⟨k, hk, e⟩
    rw [ex_byte _ (a := k) (b := k + 1) (by omega) (by omega) (by omega), hc] at e
    have : g[i].2[k]'hk = c := by injection e with e; simpa using e
    rw [← this]; exact List.mem_of_getElem? (byte_at _ k hk)
  · intro h
    obtain ⟨k, hk, e⟩ := List.getElem_of_mem h
    have hk' : k < g[i].2.size := by simpa using hk
    have hb : g[i].2[k]'hk' = c := by
      have h1 := byte_at g[i].2 k hk'
      rw [List.getElem?_eq_getElem hk, e] at h1
      exact (Option.some.inj h1).symm
    exact ⟨k, hk', by rw [ex_byte _ (a := k) (b := k + 1) (by omega) (by omega) (by omega), hb, hc]⟩

theorem goesN_next {g : List Bl} (hv : validB g = true) {i u : Nat} (hi : i < g.length) (hu : u < g.length) : goesN g[u].1 g[i].2 = decide (u ∈ nxt g i) := by
  obtain ⟨c, hc, _⟩ := valid_one hv (List.getElem_mem hu)
  unfold goesN
  have e : g[u].1.data.toList.getD 0 0 = c := by rw [hc]; rfl
  rw [e, Bool.eq_iff_iff, decide_eq_true_iff, decide_eq_true_iff, idx_mem, nxt_mem hv hi hu hc]

/-- The blocks before the k-th that go on to block u. -/
def prevN (g : List Bl) (u k : Nat) : List Nat := (List.range k).filter fun j => decide (u ∈ nxt g j)

theorem prevN_yes {g : List Bl} {u k : Nat} (h : u ∈ nxt g k) : prevN g u (k + 1) = prevN g u k ++ [k] := by
  unfold prevN; rw [List.range_succ, List.filter_append, List.filter_cons, if_pos (by simpa using h)]; rfl
theorem prevN_no {g : List Bl} {u k : Nat} (h : u ∉ nxt g k) : prevN g u (k + 1) = prevN g u k := by
  unfold prevN; rw [List.range_succ, List.filter_append, List.filter_cons, if_neg (by simpa using h), List.filter_nil, List.append_nil]
theorem prevN_lt {g : List Bl} {u k : Nat} (hk : k ≤ g.length) : ∀ i ∈ prevN g u k, i < g.length := by
  intro i hi
  have := List.mem_range.1 (List.mem_filter.1 hi).1
  omega

theorem prevs_take {g : List Bl} (hv : validB g = true) {u : Nat} (hu : u < g.length) : ∀ k, k ≤ g.length → prevs (g.take k) g[u].1 = namesAt g (prevN g u k)
  | 0, _ => by simp [prevs, prevN, names, namesAt]
  | k + 1, h => by
    have ih := prevs_take hv hu k (by omega)
    have hk : k < g.length := by omega
    have hg := goesN_next hv hk hu
    by_cases hm : u ∈ nxt g k
    · rw [decide_eq_true hm] at hg
      rw [prevs_yes hk hg, prevN_yes hm, namesAt_append, namesAt_one, ih, nthName_at hk]
    · rw [decide_eq_false hm] at hg
      rw [prevs_no hk hg, prevN_no hm, ih]

theorem prevs_all {g : List Bl} (hv : validB g = true) {u : Nat} (hu : u < g.length) : prevs g g[u].1 = namesAt g (prevN g u g.length) := by
  have := prevs_take hv hu g.length (Nat.le_refl _)
  rwa [List.take_length] at this
end Go.Proofs.Ytdolbmonmkjajaa
