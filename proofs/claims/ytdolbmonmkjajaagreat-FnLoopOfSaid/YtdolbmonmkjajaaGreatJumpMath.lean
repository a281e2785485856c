/-
  Jumps in the way order, headers, loops, where ways meet: plain facts.
-/
import Derived.Test.YtdolbmonmkjajaaGreatDfs
import Derived.Test.YtdolbmonmkjajaaGreatSpread
import Derived.Test.YtdolbmonmkjajaaGreatPrevN
import Derived.Test.YtdolbmonmkjajaaGreatSpecReached
namespace Go.Proofs.YtdolbmonmkjajaaGreat

/-- Where an element stands. -/
def placeIn (l : List Nat) (x : Nat) : Nat := l.findIdx fun y => decide (y = x)

theorem placeIn_lt {l : List Nat} {x : Nat} (h : x ∈ l) : placeIn l x < l.length :=
  List.findIdx_lt_length_of_exists ⟨x, h, by simp⟩
theorem placeIn_get {l : List Nat} {x : Nat} (h : x ∈ l) : l[placeIn l x]'(placeIn_lt h) = x := by
  have := List.findIdx_getElem (xs := l) (p := fun y => decide (y = x)) (w := placeIn_lt h)
  exact of_decide_eq_true this
theorem placeIn_at {l : List Nat} (hn : l.Nodup) {k : Nat} (hk : k < l.length) : placeIn l l[k] = k := by
  have hm : l[k] ∈ l := List.getElem_mem hk
  exact (List.getElem_inj hn).1 (placeIn_get hm)
theorem placeIn_take {l : List Nat} (hn : l.Nodup) {x : Nat} (h : x ∈ l) (k : Nat) : x ∈ l.take k ↔ placeIn l x < k := by
  rw [List.mem_take_iff_getElem]
  constructor
  · rintro ⟨i, hi, e⟩
    have h1 : placeIn l x = i := by rw [← e]; exact placeIn_at hn (by omega)
    omega
  · intro hk
    have := placeIn_lt h
    exact ⟨placeIn l x, by omega, placeIn_get h⟩

/-- The place of a block in the way order. -/
def placeN (g : List Bl) (i : Nat) : Nat := placeIn (wayOrd g) i

/-- Which way a jump goes: 0 forward, 1 back to what dominates it, 2 back to another. -/
def kindN (g : List Bl) (i t : Nat) : Nat := if placeN g i < placeN g t then 0 else if dmB g t i then 1 else 2

theorem kind_fwd {g : List Bl} {i t : Nat} (h : placeN g i < placeN g t) : kindN g i t = 0 := by unfold kindN; rw [if_pos h]
theorem kind_tame {g : List Bl} {i t : Nat} (h : ¬ placeN g i < placeN g t) (hd : dmB g t i = true) : kindN g i t = 1 := by unfold kindN; rw [if_neg h, if_pos hd]
theorem kind_wild {g : List Bl} {i t : Nat} (h : ¬ placeN g i < placeN g t) (hd : dmB g t i = false) : kindN g i t = 2 := by unfold kindN; rw [if_neg h, hd]; rfl
theorem kind_lt (g : List Bl) (i t : Nat) : kindN g i t < 3 := by unfold kindN; split; omega; split <;> omega
theorem kind_back {g : List Bl} {i t : Nat} : kindN g i t ≠ 0 ↔ placeN g t ≤ placeN g i := by
  unfold kindN
  by_cases h : placeN g i < placeN g t
  · rw [if_pos h]; simp; omega
  · rw [if_neg h]
    constructor
    · intro _; omega
    · intro _; split <;> omega

/-- A set of kinds. -/
def fwdK (k : Nat) : Bool := k == 0
def tameK (k : Nat) : Bool := k == 1
def wildK (k : Nat) : Bool := k == 2
def backK (k : Nat) : Bool := k == 1 || k == 2
def allK (k : Nat) : Bool := k == 0 || (k == 1 || k == 2)

theorem allK_kind (g : List Bl) (i t : Nat) : allK (kindN g i t) = true := by
  have := kind_lt g i t
  unfold allK
  rcases Nat.lt_or_ge (kindN g i t) 1 with h | h
  · have : kindN g i t = 0 := by omega
    rw [this]; rfl
  · rcases Nat.lt_or_ge (kindN g i t) 2 with h | h
    · have : kindN g i t = 1 := by omega
      rw [this]; rfl
    · have : kindN g i t = 2 := by omega
      rw [this]; rfl
theorem backK_kind {g : List Bl} {i t : Nat} : backK (kindN g i t) = decide (placeN g t ≤ placeN g i) := by
  have h1 := kind_lt g i t
  by_cases h : placeN g t ≤ placeN g i
  · rw [decide_eq_true h]
    have := kind_back.2 h
    unfold backK
    rcases Nat.lt_or_ge (kindN g i t) 2 with h | h
    · have : kindN g i t = 1 := by omega
      rw [this]; rfl
    · have : kindN g i t = 2 := by omega
      rw [this]; rfl
  · rw [decide_eq_false h]
    rw [kind_fwd (by omega)]; rfl

/-- The jumps of some kinds in the way order. -/
def jumpsOf1 (g : List Bl) (K : Nat → Bool) (i : Nat) : List (Nat × Nat) := ((nxt g i).filter fun t => K (kindN g i t)).map fun t => (i, t)
def jumpL (g : List Bl) (K : Nat → Bool) : List (Nat × Nat) := (wayOrd g).flatMap (jumpsOf1 g K)

theorem mem_jumpL {g : List Bl} (hv : validB g = true) {K : Nat → Bool} {j : Nat × Nat} : j ∈ jumpL g K ↔ Rch g [] j.1 ∧ j.2 ∈ nxt g j.1 ∧ K (kindN g j.1 j.2) = true := by
  unfold jumpL jumpsOf1
  rw [List.mem_flatMap]
  constructor
  · rintro ⟨i, hi, hj⟩
    obtain ⟨t, ht, e⟩ := List.mem_map.1 hj
    obtain ⟨h1, h2⟩ := List.mem_filter.1 ht
    rw [← e]; exact ⟨(mem_wayOrd hv).1 hi, h1, h2⟩
  · rintro ⟨h1, h2, h3⟩
    exact ⟨j.1, (mem_wayOrd hv).2 h1, List.mem_map.2 ⟨j.2, List.mem_filter.2 ⟨h2, h3⟩, rfl⟩⟩

/-- From which blocks jumps of some kinds go to one, in the order of the graph. -/
def srcL (g : List Bl) (K : Nat → Bool) (t : Nat) : List Nat := (reachS g).filter fun i => decide (t ∈ nxt g i) && K (kindN g i t)
theorem mem_srcL {g : List Bl} (hv : validB g = true) {K : Nat → Bool} {t i : Nat} : i ∈ srcL g K t ↔ Rch g [] i ∧ t ∈ nxt g i ∧ K (kindN g i t) = true := by
  unfold srcL
  rw [List.mem_filter, mem_reachS' hv, Bool.and_eq_true_iff, decide_eq_true_iff]
theorem srcL_lt {g : List Bl} (K : Nat → Bool) (t : Nat) : ∀ i ∈ srcL g K t, i < g.length := fun i hi => srt_lt (g := g) (l := reach g) (Nat.le_refl _) i (List.mem_filter.1 hi).1
theorem srcL_len {g : List Bl} (K : Nat → Bool) (t : Nat) : (srcL g K t).length ≤ (reachS g).length := List.length_filter_le _ _

/-- To which blocks at least so many jumps of some kinds go, in the order of the graph. -/
def goalL (g : List Bl) (m : Nat) (K : Nat → Bool) : List Nat := (reachS g).filter fun t => decide (m ≤ (srcL g K t).length)
def headL (g : List Bl) : List Nat := goalL g 1 backK
def meetsL (g : List Bl) : List Nat := goalL g 2 fwdK

theorem goalL_lt {g : List Bl} (m : Nat) (K : Nat → Bool) : ∀ i ∈ goalL g m K, i < g.length := fun i hi => srt_lt (g := g) (l := reach g) (Nat.le_refl _) i (List.mem_filter.1 hi).1
theorem goalL_len {g : List Bl} (m : Nat) (K : Nat → Bool) : (goalL g m K).length ≤ (reachS g).length := List.length_filter_le _ _

theorem mem_headL {g : List Bl} (hv : validB g = true) {t : Nat} : t ∈ headL g ↔ Rch g [] t ∧ ∃ i, Rch g [] i ∧ t ∈ nxt g i ∧ backK (kindN g i t) = true := by
  unfold headL goalL
  rw [List.mem_filter, mem_reachS' hv, decide_eq_true_iff]
  constructor
  · rintro ⟨h1, h2⟩
    obtain ⟨i, hi⟩ := List.exists_mem_of_length_pos h2
    exact ⟨h1, i, (mem_srcL hv).1 hi⟩
  · rintro ⟨h1, i, hi⟩
    exact ⟨h1, List.length_pos_of_mem ((mem_srcL hv).2 hi)⟩

/-- The headers are the blocks to which jumps go back, sorted. -/
theorem head_srt {g : List Bl} (hv : validB g = true) : srt g ((jumpL g backK).map (·.2)) g.length = headL g := by
  unfold srt headL goalL reachS
  rw [List.filter_filter]
  refine List.filter_congr fun t ht => ?_
  rw [Bool.eq_iff_iff, decide_eq_true_iff, List.mem_map, Bool.and_eq_true_iff]
  have hh := mem_headL hv (t := t)
  unfold headL goalL at hh
  rw [List.mem_filter, mem_reachS' hv] at hh
  constructor
  · rintro ⟨j, hj, rfl⟩
    obtain ⟨h1, h2, h3⟩ := (mem_jumpL hv).1 hj
    have hr : Rch g [] j.2 := .step h1 h2 (by simp)
    have := hh.2 ⟨hr, j.1, h1, h2, h3⟩
    exact ⟨this.2, decide_eq_true ((mem_reach hv).2 hr)⟩
  · rintro ⟨h1, h2⟩
    obtain ⟨_, i, hi, hn, hk⟩ := hh.1 ⟨(mem_reach hv).1 (of_decide_eq_true h2), h1⟩
    exact ⟨(i, t), (mem_jumpL hv).2 ⟨hi, hn, hk⟩, rfl⟩

/-- What lies behind in a loop: nothing behind its header. -/
def folL (g : List Bl) (h x : Nat) : List Nat := if x = h then [] else srcL g allK x
theorem folL_lt {g : List Bl} (h x : Nat) : ∀ t ∈ folL g h x, t < g.length := fun t ht => by
  unfold folL at ht; split at ht
  · simp at ht
  · exact srcL_lt _ _ t ht

/-- The loop of a header, in the order of the graph. -/
def loopL (g : List Bl) (h : Nat) : List Nat := srt g (spread (folL g h) (srcL g tameK h ++ [h]) g.length) g.length

theorem loopL_lt {g : List Bl} (h : Nat) : ∀ i ∈ loopL g h, i < g.length := srt_lt (Nat.le_refl _)

theorem mem_loopL {g : List Bl} {h x : Nat} (hl : h < g.length) : x ∈ loopL g h ↔ FoundBy (folL g h) (srcL g tameK h ++ [h]) x := by
  have hs : ∀ t ∈ srcL g tameK h ++ [h], t < g.length := fun t ht => by
    rcases List.mem_append.1 ht with ht | ht
    · exact srcL_lt _ _ t ht
    · rw [List.mem_singleton.1 ht]; exact hl
  have hf : ∀ i, i < g.length → ∀ t ∈ folL g h i, t < g.length := fun i _ => folL_lt h i
  unfold loopL srt
  rw [List.mem_filter, List.mem_range, decide_eq_true_iff, mem_spread hs hf]
  exact ⟨fun k => k.2, fun k => ⟨spread_lt hs hf x ((mem_spread hs hf).2 k), k⟩⟩

theorem found_same {f : Nat → List Nat} {s s' : List Nat} (h : ∀ x, x ∈ s ↔ x ∈ s') {x : Nat} : FoundBy f s x ↔ FoundBy f s' x := by
  constructor
  · intro k
    induction k with
    | start q => exact .start ((h _).1 q)
    | step _ q ih => exact .step ih q
  · intro k
    induction k with
    | start q => exact .start ((h _).2 q)
    | step _ q ih => exact .step ih q

theorem found_fol {f f' : Nat → List Nat} {s : List Nat} (h : ∀ x y, y ∈ f x ↔ y ∈ f' x) {x : Nat} : FoundBy f s x ↔ FoundBy f' s x := by
  constructor
  · intro k
    induction k with
    | start q => exact .start q
    | step _ q ih => exact .step ih ((h _ _).1 q)
  · intro k
    induction k with
    | start q => exact .start q
    | step _ q ih => exact .step ih ((h _ _).2 q)

/-- In how many loops a block lies. -/
def depthN (g : List Bl) (n : Nat) : Nat := (headL g).countP fun h => decide (n ∈ loopL g h)

/-- Jumps that go forward to a block, counted in the way order up to it. -/
theorem fwd_count {g : List Bl} (hv : validB g = true) (t : Nat) : (((wayOrd g).take (placeN g t)).filter fun i => decide (t ∈ nxt g i)).length = (srcL g fwdK t).length := by
  have hn := wayOrd_nodup hv
  refine List.Perm.length_eq ((List.perm_ext_iff_of_nodup ?_ ?_).2 fun i => ?_)
  · exact (hn.sublist (List.take_sublist _ _)).filter _
  · exact List.Pairwise.filter _ (List.Pairwise.filter _ List.nodup_range)
  · rw [List.mem_filter, decide_eq_true_iff, mem_srcL hv]
    constructor
    · rintro ⟨h1, h2⟩
      have hi : i ∈ wayOrd g := (List.take_subset _ _) h1
      have := (placeIn_take hn hi _).1 h1
      exact ⟨(mem_wayOrd hv).1 hi, h2, by rw [kind_fwd this]; rfl⟩
    · rintro ⟨h1, h2, h3⟩
      have hi := (mem_wayOrd hv).2 h1
      refine ⟨(placeIn_take hn hi _).2 ?_, h2⟩
      have : kindN g i t = 0 := by simpa [fwdK] using h3
      rcases Nat.lt_or_ge (placeN g i) (placeN g t) with h | h
      · exact h
      · exact absurd this (kind_back.2 h)
end Go.Proofs.YtdolbmonmkjajaaGreat
