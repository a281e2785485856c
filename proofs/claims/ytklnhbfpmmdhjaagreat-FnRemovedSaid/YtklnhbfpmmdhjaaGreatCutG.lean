/-
  A graph without the jumps to one block: plain facts.
-/
import Derived.Test.YtklnhbfpmmdhjaaGreatDomLaws
import Derived.Test.YtklnhbfpmmdhjaaGreatPrevN
namespace Go.Proofs.YtklnhbfpmmdhjaaGreat

/-- A text without one letter. -/
def dropC (c : UInt8) (s : ByteArray) : ByteArray := ⟨(s.data.toList.filter fun x => x != c).toArray⟩
theorem dropC_list (c : UInt8) (s : ByteArray) : (dropC c s).data.toList = s.data.toList.filter fun x => x != c := by simp [dropC]
theorem dropC_size (c : UInt8) (s : ByteArray) : (dropC c s).size ≤ s.size := by
  rw [← list_of_size, ← list_of_size, dropC_list]; exact List.length_filter_le _ _

/-- A graph without the jumps to the block with a letter. -/
def cutG (c : UInt8) (g : List Bl) : List Bl := g.map fun b => (b.1, dropC c b.2)

theorem cutG_length (c : UInt8) (g : List Bl) : (cutG c g).length = g.length := by simp [cutG]
theorem cutG_at (c : UInt8) {g : List Bl} {k : Nat} (h : k < g.length) : (cutG c g)[k]'(by rw [cutG_length]; exact h) = (g[k].1, dropC c g[k].2) := by simp [cutG]
theorem cutG_names (c : UInt8) : ∀ g : List Bl, names (cutG c g) = names g
  | [] => rfl
  | b :: g => by
    show b.1 ++ names (cutG c g) = b.1 ++ names g
    rw [cutG_names c g]
theorem cutG_name (c : UInt8) (g : List Bl) (k : Nat) : nthName (cutG c g) k = nthName g k := by
  unfold nthName cutG; rw [List.map_map]; rfl
theorem cutG_next (c : UInt8) {g : List Bl} {k : Nat} (h : k < g.length) : nthNext (cutG c g) k = dropC c (nthNext g k) := by
  rw [nthNext_at (by rw [cutG_length]; exact h), nthNext_at h, cutG_at c h]
theorem cutG_pos (c : UInt8) (g : List Bl) (s : ByteArray) : posOf (cutG c g) s = posOf g s := by
  unfold posOf; simp only [cutG_length, cutG_name]

theorem nextB_list {t nm : ByteArray} : nextB t nm = true ↔ t.size ≤ 2 ∧ (∀ c ∈ t.data.toList, c ∈ nm.data.toList) ∧ t.data.toList.Nodup := by
  rw [nextB_iff]
  have hb := byte_at t
  have hsz := list_of_size (s := t)
  constructor
  · rintro ⟨h1, h2, h3⟩
    refine ⟨h1, fun c hc => ?_, ?_⟩
    · obtain ⟨k, hk, e⟩ := List.getElem_of_mem hc
      have hk' : k < t.size := by rw [← hsz]; exact hk
      have := h2 k hk'
      have e2 := hb k hk'
      rw [List.getElem?_eq_getElem hk, e] at e2
      rw [← Option.some.inj e2] at this
      exact idx_mem.1 this
    · show List.Pairwise (· ≠ ·) t.data.toList
      rw [List.pairwise_iff_getElem]
      intro i j hi hj hij e
      have hi0 : i = 0 := by omega
      have hj1 : j = 1 := by omega
      subst hi0; subst hj1
      have hs2 : t.size = 2 := by omega
      have e0 := hb 0 (by omega)
      have e1 := hb 1 (by omega)
      rw [List.getElem?_eq_getElem hi] at e0
      rw [List.getElem?_eq_getElem hj] at e1
      exact h3 hs2 ((Option.some.inj e0).symm.trans (e.trans (Option.some.inj e1)))
  · rintro ⟨h1, h2, h3⟩
    refine ⟨h1, fun k hk => idx_mem.2 (h2 _ (List.mem_of_getElem? (hb k hk))), fun h e => ?_⟩
    have e0 := hb 0 (by omega)
    have e1 := hb 1 (by omega)
    have l0 : 0 < t.data.toList.length := by omega
    have l1 : 1 < t.data.toList.length := by omega
    rw [List.getElem?_eq_getElem l0] at e0
    rw [List.getElem?_eq_getElem l1] at e1
    have h3' : List.Pairwise (· ≠ ·) t.data.toList := h3
    exact List.pairwise_iff_getElem.1 h3' 0 1 l0 l1 (by omega) ((Option.some.inj e0).trans (e.trans (Option.some.inj e1).symm))

theorem cutG_valid {g : List Bl} (hv : validB g = true) (c : UInt8) : validB (cutG c g) = true := by
  obtain ⟨h1, h2, h3, h4⟩ := valid_iff.1 hv
  refine valid_iff.2 ⟨by rw [cutG_length]; exact h1, by rw [cutG_length]; exact h2, newsB_iff.2 fun k h => ?_, nextsB_iff.2 fun k h => ?_⟩
  · rw [cutG_length] at h
    have e : (cutG c g).take k = cutG c (g.take k) := by unfold cutG; rw [List.map_take]
    rw [e, cutG_names, cutG_at c h]
    exact newsB_iff.1 h3 k h
  · rw [cutG_length] at h
    rw [cutG_names, cutG_at c h]
    obtain ⟨q1, q2, q3⟩ := nextB_list.1 (nextsB_iff.1 h4 k h)
    refine nextB_list.2 ⟨Nat.le_trans (dropC_size c _) q1, fun x hx => ?_, ?_⟩
    · rw [dropC_list] at hx; exact q2 x (List.mem_filter.1 hx).1
    · rw [dropC_list]; exact q3.filter _

theorem cutG_nxt {g : List Bl} (hv : validB g = true) {n i : Nat} (hn : n < g.length) (hi : i < g.length) {c : UInt8} (hc : g[n].1 = ⟨#[c]⟩) : nxt (cutG c g) i = (nxt g i).filter fun t => t != n := by
  unfold nxt
  rw [cutG_next c hi, dropC_list, List.filter_map]
  simp only [cutG_pos]
  congr 1
  refine List.filter_congr fun x hx => ?_
  rw [nthNext_at hi] at hx
  obtain ⟨k, hk, ec⟩ := List.getElem_of_mem hx
  have hk' : k < g[i].2.size := by rw [← list_of_size]; exact hk
  obtain ⟨t, ht, _, hpos, hnm⟩ := nxt_get hv hi hk'
  have hb : g[i].2[k]'hk' = x := by
    have h1 := byte_at g[i].2 k hk'
    rw [List.getElem?_eq_getElem hk, ec] at h1
    exact (Option.some.inj h1).symm
  rw [hb] at hpos hnm
  show (x != c) = ((posOf g ⟨#[x]⟩).getD 0 != n)
  rw [hpos]
  show (x != c) = (t != n)
  by_cases e : t = n
  · subst e
    have : x = c := by
      have := hnm.symm.trans hc
      injection this with this
      simpa using this
    subst this; simp
  · have : x ≠ c := fun h => e (name_inj hv ht hn (by rw [hnm, hc, h]))
    have h1 : (x != c) = true := by simpa using this
    have h2 : (t != n) = true := by simpa using e
    rw [h1, h2]

theorem cutG_rch {g : List Bl} (hv : validB g = true) {n : Nat} (hn : n < g.length) (h0 : n ≠ 0) {c : UInt8} (hc : g[n].1 = ⟨#[c]⟩) {x : Nat} : Rch (cutG c g) [] x ↔ Rch g [n] x := by
  constructor
  · intro h
    induction h with
    | start _ => exact .start (by simpa using fun e => h0 e.symm)
    | @step i t _ ht _ ih =>
      rw [cutG_nxt hv hn (ih.lt hv) hc, List.mem_filter] at ht
      exact .step ih ht.1 (by simpa using ht.2)
  · intro h
    induction h with
    | start _ => exact .start (by simp)
    | @step i t hi ht ha ih =>
      refine .step ih ?_ (by simp)
      rw [cutG_nxt hv hn (hi.lt hv) hc, List.mem_filter]
      exact ⟨ht, by simpa using ha⟩

/-- What one block dominates is not reached without it, and all else is. -/
theorem cutG_dm {g : List Bl} (hv : validB g = true) {n : Nat} (hn : n < g.length) (h0 : n ≠ 0) {c : UInt8} (hc : g[n].1 = ⟨#[c]⟩) (x : Nat) : dmB g n x = !decide (x ∈ reachS (cutG c g)) := by
  have h : x ∈ reachS (cutG c g) ↔ Rch g [n] x := (mem_reachS' (cutG_valid hv c)).trans (cutG_rch hv hn h0 hc)
  by_cases hr : Rch g [n] x
  · rw [decide_eq_true (h.2 hr)]
    refine Bool.eq_false_iff.2 fun e => ?_
    rcases (dmB_iff hv).1 e with q | q
    · exact hr.out (by simp [q])
    · exact q hr
  · rw [decide_eq_false fun q => hr (h.1 q)]
    exact (dmB_iff hv).2 (.inr hr)

theorem cutG_namesAt (c : UInt8) (g : List Bl) (l : List Nat) : namesAt (cutG c g) l = namesAt g l := by
  induction l with
  | nil => rfl
  | cons i l ih =>
    show nthName (cutG c g) i ++ namesAt (cutG c g) l = nthName g i ++ namesAt g l
    rw [ih, cutG_name]
end Go.Proofs.YtklnhbfpmmdhjaaGreat
