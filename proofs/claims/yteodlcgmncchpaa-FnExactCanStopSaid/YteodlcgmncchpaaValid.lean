/-
  When a list of blocks is a graph; plain facts.
-/
import Derived.Test.YteodlcgmncchpaaLeaf
import Derived.Test.YteodlcgmncchpaaGr
namespace Go.Proofs.Yteodlcgmncchpaa

/-- Where a block goes on: to no more than two blocks that are there, and not twice to one. -/
def nextB (next nm : ByteArray) : Bool :=
  decide (next.size ≤ 2) && (next.data.toList.all fun c => nm.data.toList.contains c) && !(next.size == 2 && next.data.toList.getD 0 0 == next.data.toList.getD 1 0)

/-- A name that is not among those before it. -/
def newB (pre s : ByteArray) : Bool := nameB s && !(pre.data.toList.contains (s.data.toList.getD 0 0))

def nthName (g : List Bl) (k : Nat) : ByteArray := (g.map (·.1)).getD k ⟨#[]⟩

def newsB (g : List Bl) : Bool := (List.range g.length).all fun k => newB (names (g.take k)) (nthName g k)
def nextsB (g : List Bl) : Bool := g.all fun b => nextB b.2 (names g)
def validB (g : List Bl) : Bool := decide (1 ≤ g.length) && decide (g.length ≤ 26) && newsB g && nextsB g

theorem nthName_at {g : List Bl} {k : Nat} (h : k < g.length) : nthName g k = g[k].1 := by
  unfold nthName
  rw [List.getD_eq_getElem?_getD, List.getElem?_map, List.getElem?_eq_getElem h]; rfl

theorem newsB_iff {g : List Bl} : newsB g = true ↔ ∀ k (h : k < g.length), newB (names (g.take k)) g[k].1 = true := by
  unfold newsB
  rw [List.all_eq_true]
  constructor
  · intro h k hk
    have := h k (List.mem_range.2 hk)
    rwa [nthName_at hk] at this
  · intro h k hk
    have hk' := List.mem_range.1 hk
    rw [nthName_at hk']
    exact h k hk'

theorem nextsB_iff {g : List Bl} : nextsB g = true ↔ ∀ k (h : k < g.length), nextB g[k].2 (names g) = true := by
  unfold nextsB
  rw [List.all_eq_true]
  constructor
  · intro h k hk
    exact h _ (List.getElem_mem _)
  · intro h b hb
    obtain ⟨k, hk, rfl⟩ := List.getElem_of_mem hb
    exact h k hk

theorem valid_iff {g : List Bl} : validB g = true ↔ 1 ≤ g.length ∧ g.length ≤ 26 ∧ newsB g = true ∧ nextsB g = true := by
  unfold validB; simp [and_assoc]

theorem valid_no {g : List Bl} (h : ¬ (1 ≤ g.length ∧ g.length ≤ 26 ∧ newsB g = true ∧ nextsB g = true)) : validB g = false :=
  Bool.eq_false_iff.2 fun e => h (valid_iff.1 e)

theorem valid_no_new {g : List Bl} {k : Nat} (hk : k < g.length) (h : newB (names (g.take k)) g[k].1 = false) : validB g = false :=
  valid_no fun e => by have := newsB_iff.1 e.2.2.1 k hk; rw [h] at this; cases this

theorem valid_no_next {g : List Bl} {k : Nat} (hk : k < g.length) (h : nextB g[k].2 (names g) = false) : validB g = false :=
  valid_no fun e => by have := nextsB_iff.1 e.2.2.2 k hk; rw [h] at this; cases this

theorem one_of_name {s : ByteArray} (h : nameB s = true) : ∃ c, s = ⟨#[c]⟩ ∧ letB c = true := by
  unfold nameB at h
  simp only [Bool.and_eq_true, beq_iff_eq] at h
  obtain ⟨h1, h2⟩ := h
  have hl : s.data.toList.length = 1 := by simpa using h1
  obtain ⟨c, hc⟩ := List.length_eq_one_iff.1 hl
  refine ⟨c, ba_ext (by rw [hc]), ?_⟩
  rw [hc] at h2
  simpa using h2

theorem newB_one {pre : ByteArray} {c : UInt8} (h : letB c = true) : newB pre ⟨#[c]⟩ = !(pre.data.toList.contains c) := by
  unfold newB nameB
  have e1 : ((⟨#[c]⟩ : ByteArray).size == 1) = true := rfl
  have e2 : (⟨#[c]⟩ : ByteArray).data.toList.getD 0 0 = c := rfl
  rw [e1, e2, h]; rfl

theorem contains_idx {l : List UInt8} {c : UInt8} : decide (0 ≤ Lib.indexByte l c) = l.contains c := by
  rw [Bool.eq_iff_iff, decide_eq_true_iff, idx_mem, List.contains_iff_mem]

theorem nextB_iff {next nm : ByteArray} : nextB next nm = true ↔ next.size ≤ 2 ∧ (∀ k (h : k < next.size), 0 ≤ Lib.indexByte nm.data.toList (next[k]'h)) ∧ (∀ h : next.size = 2, next[0]'(by omega) ≠ next[1]'(by omega)) := by
  unfold nextB
  simp only [Bool.and_eq_true, decide_eq_true_iff, Bool.not_eq_true', List.all_eq_true, and_assoc]
  refine and_congr_right fun h2 => and_congr ?_ ?_
  · constructor
    · intro h k hk
      have hm : next[k]'hk ∈ next.data.toList := by
        have := byte_at next k hk
        exact List.mem_of_getElem? this
      rw [idx_mem]
      simpa using h _ hm
    · intro h c hc
      obtain ⟨k, hk, rfl⟩ := List.getElem_of_mem hc
      have hk' : k < next.size := by simpa using hk
      have := h k hk'
      rw [idx_mem] at this
      rw [List.contains_iff_mem, Array.getElem_toList]
      exact this
  · constructor
    · intro h hs e
      have b0 := byte_at next 0 (by omega)
      have b1 := byte_at next 1 (by omega)
      rw [List.getD_eq_getElem?_getD, List.getD_eq_getElem?_getD, b0, b1] at h
      simp [hs, e] at h
    · intro h
      by_cases hs : next.size = 2
      · have b0 := byte_at next 0 (by omega)
        have b1 := byte_at next 1 (by omega)
        rw [List.getD_eq_getElem?_getD, List.getD_eq_getElem?_getD, b0, b1]
        have := h hs
        simp [hs, this]
      · simp [hs]

theorem mem_extract {t : ByteArray} {j : Nat} {c : UInt8} (h : j < t.size) : c ∈ (t.extract 0 j).data.toList ↔ ∃ i, ∃ h : i < j, t[i]'(by omega) = c := by
  rw [← Lib.toList_data, Lib.extract_toList]
  simp only [List.drop_zero, Nat.sub_zero]
  constructor
  · intro hm
    obtain ⟨i, hi, e⟩ := List.getElem_of_mem hm
    have hi' : i < j := by simp at hi; omega
    refine ⟨i, hi', ?_⟩
    have := byte_at t i (by omega)
    rw [List.getElem_take] at e
    rw [← e]
    have h2 : t.data.toList[i]? = some (t.data.toList[i]'(by simp at hi; simp; omega)) := List.getElem?_eq_getElem _
    rw [h2] at this
    exact (Option.some.inj this).symm
  · rintro ⟨i, hi, rfl⟩
    have := byte_at t i (by omega)
    have h2 : (t.data.toList.take j)[i]? = some (t[i]'(by omega)) := by rw [List.getElem?_take_of_lt hi]; exact this
    exact List.mem_of_getElem? h2

/-- What the model's inner loop asks at one place. -/
def placeB (t nm : ByteArray) (j : Nat) (h : j < t.size) : Bool := decide (0 ≤ Lib.indexByte nm.data.toList (t[j]'h)) && decide (Lib.indexByte (t.extract 0 j).data.toList (t[j]'h) < 0)

theorem nextB_places {t nm : ByteArray} (h2 : t.size ≤ 2) : nextB t nm = true ↔ ∀ j (h : j < t.size), placeB t nm j h = true := by
  rw [nextB_iff]
  unfold placeB
  simp only [Bool.and_eq_true, decide_eq_true_iff]
  constructor
  · rintro ⟨_, ha, hd⟩ j h
    refine ⟨ha j h, ?_⟩
    rw [idx_neg, mem_extract h]
    rintro ⟨i, hi, e⟩
    have hj : j = 1 := by omega
    subst hj
    have hi0 : i = 0 := by omega
    subst hi0
    exact hd (by omega) e
  · intro h
    refine ⟨h2, fun k hk => (h k hk).1, fun hs e => ?_⟩
    have := (h 1 (by omega)).2
    rw [idx_neg, mem_extract (by omega)] at this
    exact this ⟨0, by omega, e⟩

theorem nextB_no_place {t nm : ByteArray} {j : Nat} (h2 : t.size ≤ 2) (h : j < t.size) (hp : placeB t nm j h = false) : nextB t nm = false :=
  Bool.eq_false_iff.2 fun e => by have := (nextB_places h2).1 e j h; rw [hp] at this; cases this

theorem nextB_long {t nm : ByteArray} (h : ¬ t.size ≤ 2) : nextB t nm = false := Bool.eq_false_iff.2 fun e => h (nextB_iff.1 e).1

end Go.Proofs.Yteodlcgmncchpaa
