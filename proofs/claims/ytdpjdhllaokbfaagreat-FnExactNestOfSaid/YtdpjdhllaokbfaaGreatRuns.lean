/-
  Where blocks go on by their numbers; runs and searches as lists of numbers: plain facts.
-/
import Derived.Test.YtdpjdhllaokbfaaGreatNodes
namespace Go.Proofs.YtdpjdhllaokbfaaGreat
open Go.RowKit Go.Sort

/-- The numbers of the blocks to which block i goes on. -/
def nxt (g : List Bl) (i : Nat) : List Nat := (nthNext g i).data.toList.map fun c => (posOf g ⟨#[c]⟩).getD 0

/-- How a block goes on. -/
inductive Goes (g : List Bl) (i : Nat) (s : ByteArray) : Prop where
  | stop (h : nxt g i = []) (hs : s.size = 0) : Goes g i s
  | jump (p : Nat) (hp : p < g.length) (h : nxt g i = [p]) (hs : s.size = 1) (ho : posOf g s = some p) (hn : g[p].1 = s) : Goes g i s
  | branch (p q : Nat) (hp : p < g.length) (hq : q < g.length) (h : nxt g i = [p, q]) (hs : s.size = 2)
      (ho : posOf g (s.extract 0 1) = some p) (hn : g[p].1 = s.extract 0 1) (ho' : posOf g (s.extract 1 s.size) = some q) (hn' : g[q].1 = s.extract 1 s.size) (hne : p ≠ q) : Goes g i s

theorem list_of_size {s : ByteArray} : s.data.toList.length = s.size := by rw [Array.length_toList]; rfl

theorem goes {g : List Bl} (hv : validB g = true) {i : Nat} (hi : i < g.length) : Goes g i g[i].2 := by
  have h2 := nextB_iff.1 (nextsB_iff.1 (valid_iff.1 hv).2.2.2 i hi)
  have hl := list_of_size (s := g[i].2)
  have en : nxt g i = g[i].2.data.toList.map fun c => (posOf g ⟨#[c]⟩).getD 0 := by unfold nxt; rw [nthNext_at hi]
  by_cases e1 : g[i].2.size = 1
  · obtain ⟨p, hp, hpos, hs⟩ := posOf_valid hv hi (j := 0) (by omega)
    have hb := one_byte e1
    refine .jump p hp ?_ e1 (by rw [hb]; exact hpos) (by rw [hb]; exact hs)
    rw [en]
    obtain ⟨c, hc⟩ := List.length_eq_one_iff.1 (hl.trans e1)
    have h0 := byte_at g[i].2 0 (by omega)
    rw [hc] at h0 ⊢
    have h0' : c = g[i].2[0]'(by omega) := by simpa using h0
    simp only [List.map_cons, List.map_nil]
    rw [h0', hpos]; rfl
  · by_cases e2 : g[i].2.size = 2
    · obtain ⟨p, hp, hpos, hs⟩ := posOf_valid hv hi (j := 0) (by omega)
      obtain ⟨q, hq, hpos', hs'⟩ := posOf_valid hv hi (j := 1) (by omega)
      have x0 := ex_byte g[i].2 (a := 0) (b := 1) (by omega) (by omega) rfl
      have x1 := ex_byte g[i].2 (a := 1) (b := g[i].2.size) (by omega) (by omega) (by omega)
      refine .branch p q hp hq ?_ e2 (by rw [x0]; exact hpos) (by rw [x0]; exact hs) (by rw [x1]; exact hpos') (by rw [x1]; exact hs') ?_
      · rw [en]
        have hl2 := hl.trans e2
        have h0 := byte_at g[i].2 0 (by omega)
        have h1 := byte_at g[i].2 1 (by omega)
        match hm : g[i].2.data.toList, hl2 with
        | [a, b], _ =>
          rw [hm] at h0 h1
          have h0' : a = g[i].2[0]'(by omega) := by simpa using h0
          have h1' : b = g[i].2[1]'(by omega) := by simpa using h1
          simp only [List.map_cons, List.map_nil]
          rw [h0', hpos, h1', hpos']; rfl
      · intro e
        subst e
        rw [hs] at hs'
        exact h2.2.2 e2 (by simpa using hs')
    · have e0 : g[i].2.size = 0 := by have := h2.1; omega
      refine .stop ?_ e0
      rw [en, List.eq_nil_of_length_eq_zero (hl.trans e0)]; rfl

theorem nxt_lt {g : List Bl} (hv : validB g = true) {i : Nat} (hi : i < g.length) {t : Nat} (ht : t ∈ nxt g i) : t < g.length := by
  rcases goes hv hi with ⟨h, _⟩ | ⟨p, hp, h, _⟩ | ⟨p, q, hp, hq, h, _⟩
  · rw [h] at ht; simp at ht
  · rw [h] at ht; simp at ht; omega
  · rw [h] at ht; simp at ht; omega

theorem ends_of {NB : Nat} {g : List Bl} {i : Nat} (hi : i < g.length) (h : Goes g i g[i].2) :
    (nxt g i = [] ∧ ends NB g i = .iface 138 (.agg #[])) ∨
    (∃ p, p < g.length ∧ nxt g i = [p] ∧ ends NB g i = .iface 134 (.agg #[nptr NB p])) ∨
    (∃ p q, p < g.length ∧ q < g.length ∧ nxt g i = [p, q] ∧ ends NB g i = .iface 136 (.agg #[nptr NB p, nptr NB q])) := by
  unfold ends endV
  rw [nthNext_at hi]
  rcases h with ⟨h, hs⟩ | ⟨p, hp, h, hs, ho, _⟩ | ⟨p, q, hp, hq, h, hs, ho, _, ho', _, _⟩
  · refine .inl ⟨h, ?_⟩
    rw [if_neg (by omega), if_neg (by omega)]
  · refine .inr (.inl ⟨p, hp, h, ?_⟩)
    rw [if_pos hs, ho]; rfl
  · refine .inr (.inr ⟨p, q, hp, hq, h, ?_⟩)
    rw [if_neg (by omega), if_pos hs, ho, ho']; rfl

/-! ### Runs -/

/-- At most m steps of a run from block i with these choices: the blocks, each with how the run ends if it comes to no more. -/
def runL (g : List Bl) : Nat → Nat → List UInt8 → List (Nat × Nat)
  | 0, _, _ => []
  | m + 1, i, left =>
    match nxt g i with
    | [] => [(i, 0)]
    | [j] => (i, 2) :: runL g m j left
    | j :: k :: _ =>
      match left with
      | [] => [(i, 1)]
      | c :: l => (i, 2) :: runL g m (if c = 108 then j else k) l

theorem runL_stop {g : List Bl} {m i : Nat} {left : List UInt8} (h : nxt g i = []) : runL g (m + 1) i left = [(i, 0)] := by simp only [runL, h]
theorem runL_jump {g : List Bl} {m i j : Nat} {left : List UInt8} (h : nxt g i = [j]) : runL g (m + 1) i left = (i, 2) :: runL g m j left := by simp only [runL, h]
theorem runL_ask {g : List Bl} {m i j k : Nat} (h : nxt g i = [j, k]) : runL g (m + 1) i [] = [(i, 1)] := by simp only [runL, h]
theorem runL_go {g : List Bl} {m i j k : Nat} {c : UInt8} {l : List UInt8} (h : nxt g i = [j, k]) : runL g (m + 1) i (c :: l) = (i, 2) :: runL g m (if c = 108 then j else k) l := by simp only [runL, h]

theorem runL_le (g : List Bl) : ∀ (m i : Nat) (left : List UInt8), (runL g m i left).length ≤ m
  | 0, _, _ => Nat.le_refl 0
  | m + 1, i, left => by
    have ih := runL_le g m
    unfold runL
    split
    · simp
    · simp [ih]
    · split
      · simp
      · simp [ih]

theorem runL_lt {g : List Bl} (hv : validB g = true) : ∀ (m i : Nat) (left : List UInt8), i < g.length → ∀ x ∈ runL g m i left, x.1 < g.length
  | 0, _, _, _, x, hx => by simp [runL] at hx
  | m + 1, i, left, hi, x, hx => by
    have ih := runL_lt hv m
    unfold runL at hx
    split at hx
    · simp at hx; subst hx; exact hi
    · rename_i j hj
      rcases List.mem_cons.1 hx with rfl | hx
      · exact hi
      · exact ih _ _ (nxt_lt hv hi (by rw [hj]; simp)) x hx
    · rename_i j k r hj
      split at hx
      · simp at hx; subst hx; exact hi
      · rcases List.mem_cons.1 hx with rfl | hx
        · exact hi
        · refine ih _ _ ?_ x hx
          split
          · exact nxt_lt hv hi (by rw [hj]; simp)
          · exact nxt_lt hv hi (by rw [hj]; simp)

/-- A run of a graph. -/
def runOf (g : List Bl) (choices : ByteArray) : List (Nat × Nat) := runL g 60 0 choices.data.toList

/-- The names of blocks by their numbers. -/
def namesAt (g : List Bl) : List Nat → ByteArray
  | [] => ⟨#[]⟩
  | i :: l => nthName g i ++ namesAt g l

theorem namesAt_append (g : List Bl) (a b : List Nat) : namesAt g (a ++ b) = namesAt g a ++ namesAt g b := by
  induction a with
  | nil => exact (ba_empty_append _).symm
  | cons n a ih => simp only [List.cons_append, namesAt, ih, ba_append_assoc]

theorem namesAt_one (g : List Bl) (i : Nat) : namesAt g [i] = nthName g i := ba_append_empty _

theorem namesAt_size {g : List Bl} (hv : validB g = true) : ∀ (l : List Nat), (∀ i ∈ l, i < g.length) → (namesAt g l).size = l.length
  | [], _ => rfl
  | i :: l, h => by
    have hi := h i (by simp)
    obtain ⟨c, hc, _⟩ := valid_one hv (List.getElem_mem hi)
    have ih := namesAt_size hv l (fun j hj => h j (by simp [hj]))
    rw [namesAt, ByteArray.size_append, ih, nthName_at hi, hc]
    show 1 + l.length = l.length + 1
    omega

/-- What a run returns. -/
def traceOf (g : List Bl) (choices : ByteArray) : ByteArray := namesAt g ((runOf g choices).map (·.1))
def lastEnd (xs : List (Nat × Nat)) : Nat := (xs.getLast?.map (·.2)).getD 0
def endOf (g : List Bl) (choices : ByteArray) : Nat := lastEnd (runOf g choices)

theorem lastEnd_snoc (xs : List (Nat × Nat)) (x : Nat × Nat) : lastEnd (xs ++ [x]) = x.2 := by simp [lastEnd]

/-- While a run goes on: the blocks before, where it is, and the choices that are left. -/
structure Going (g : List Bl) (choices : ByteArray) (pre : List (Nat × Nat)) (i : Nat) (left : List UInt8) : Prop where
  all : runOf g choices = pre ++ runL g (60 - pre.length) i left
  two : ∀ x ∈ pre, x.2 = 2
  lt : i < g.length
  rest : left <:+ choices.data.toList

theorem Going.start {g : List Bl} (hv : validB g = true) (choices : ByteArray) : Going g choices [] 0 choices.data.toList :=
  ⟨rfl, by simp, (valid_iff.1 hv).1, List.suffix_refl _⟩

theorem Going.stop {g : List Bl} {choices : ByteArray} {pre : List (Nat × Nat)} {i : Nat} {left : List UInt8} (h : Going g choices pre i left) (hl : pre.length < 60) (hn : nxt g i = []) :
    runOf g choices = pre ++ [(i, 0)] := by
  obtain ⟨m, hm⟩ : ∃ m, 60 - pre.length = m + 1 := ⟨59 - pre.length, by omega⟩
  rw [h.all, hm, runL_stop hn]

theorem Going.ask {g : List Bl} {choices : ByteArray} {pre : List (Nat × Nat)} {i j k : Nat} (h : Going g choices pre i []) (hl : pre.length < 60) (hn : nxt g i = [j, k]) :
    runOf g choices = pre ++ [(i, 1)] := by
  obtain ⟨m, hm⟩ : ∃ m, 60 - pre.length = m + 1 := ⟨59 - pre.length, by omega⟩
  rw [h.all, hm, runL_ask hn]

theorem Going.jump {g : List Bl} (hv : validB g = true) {choices : ByteArray} {pre : List (Nat × Nat)} {i j : Nat} {left : List UInt8} (h : Going g choices pre i left) (hl : pre.length < 60) (hn : nxt g i = [j]) :
    Going g choices (pre ++ [(i, 2)]) j left := by
  obtain ⟨m, hm⟩ : ∃ m, 60 - pre.length = m + 1 := ⟨59 - pre.length, by omega⟩
  refine ⟨?_, fun x hx => ?_, nxt_lt hv h.lt (by rw [hn]; simp), h.rest⟩
  · rw [h.all, hm, runL_jump hn, show 60 - (pre ++ [((i : Nat), (2 : Nat))]).length = m by simp only [List.length_append, List.length_cons, List.length_nil]; omega]; simp
  · rcases List.mem_append.1 hx with hx | hx
    · exact h.two x hx
    · simp at hx; subst hx; rfl

theorem Going.go {g : List Bl} (hv : validB g = true) {choices : ByteArray} {pre : List (Nat × Nat)} {i j k : Nat} {c : UInt8} {left : List UInt8} (h : Going g choices pre i (c :: left)) (hl : pre.length < 60) (hn : nxt g i = [j, k]) :
    Going g choices (pre ++ [(i, 2)]) (if c = 108 then j else k) left := by
  obtain ⟨m, hm⟩ : ∃ m, 60 - pre.length = m + 1 := ⟨59 - pre.length, by omega⟩
  refine ⟨?_, fun x hx => ?_, ?_, (List.suffix_cons c left).trans h.rest⟩
  · rw [h.all, hm, runL_go hn, show 60 - (pre ++ [((i : Nat), (2 : Nat))]).length = m by simp only [List.length_append, List.length_cons, List.length_nil]; omega]; simp
  · rcases List.mem_append.1 hx with hx | hx
    · exact h.two x hx
    · simp at hx; subst hx; rfl
  · split
    · exact nxt_lt hv h.lt (by rw [hn]; simp)
    · exact nxt_lt hv h.lt (by rw [hn]; simp)

theorem Going.full {g : List Bl} {choices : ByteArray} {pre : List (Nat × Nat)} {i : Nat} {left : List UInt8} (h : Going g choices pre i left) (hl : 60 ≤ pre.length) : runOf g choices = pre := by
  have : 60 - pre.length = 0 := by omega
  rw [h.all, this]; simp [runL]

theorem runOf_le (g : List Bl) (choices : ByteArray) : (runOf g choices).length ≤ 60 := runL_le g 60 0 _

/-! ### What can be come to -/

def stepL (o ts : List Nat) : List Nat := ts.foldl (fun o t => if t ∈ o then o else o ++ [t]) o

theorem stepL_nil (o : List Nat) : stepL o [] = o := rfl
theorem stepL_cons (o : List Nat) (t : Nat) (ts : List Nat) : stepL o (t :: ts) = stepL (if t ∈ o then o else o ++ [t]) ts := rfl
theorem stepL_snoc (o : List Nat) (t : Nat) (ts : List Nat) : stepL o (ts ++ [t]) = if t ∈ stepL o ts then stepL o ts else stepL o ts ++ [t] := by
  unfold stepL; rw [List.foldl_append]; rfl

theorem stepL_prefix (ts : List Nat) : ∀ o, o <+: stepL o ts := by
  induction ts with
  | nil => intro o; exact List.prefix_refl _
  | cons t ts ih =>
    intro o
    rw [stepL_cons]
    split
    · exact ih o
    · exact (List.prefix_append o [t]).trans (ih _)

theorem stepL_mem (ts : List Nat) : ∀ o x, x ∈ stepL o ts ↔ x ∈ o ∨ x ∈ ts := by
  induction ts with
  | nil => intro o x; simp [stepL_nil]
  | cons t ts ih =>
    intro o x
    rw [stepL_cons, ih]
    split
    · rename_i h
      constructor
      · rintro (h1 | h1)
        · exact .inl h1
        · exact .inr (by simp [h1])
      · rintro (h1 | h1)
        · exact .inl h1
        · rcases List.mem_cons.1 h1 with rfl | h1
          · exact .inl h
          · exact .inr h1
    · rw [List.mem_append, List.mem_singleton, List.mem_cons, or_assoc]

theorem stepL_nodup (ts : List Nat) : ∀ o, o.Nodup → (stepL o ts).Nodup := by
  induction ts with
  | nil => intro o h; exact h
  | cons t ts ih =>
    intro o h
    rw [stepL_cons]
    split
    · exact ih o h
    · rename_i hn
      refine ih _ (List.nodup_append.2 ⟨h, by simp, fun a ha b hb => ?_⟩)
      simp at hb; subst hb
      intro e; subst e; exact hn ha

/-- Blocks in the order in which they are found, when those of k of them have been looked at. -/
def bfs (g : List Bl) : Nat → List Nat
  | 0 => [0]
  | k + 1 => match (bfs g k)[k]? with
    | none => bfs g k
    | some n => stepL (bfs g k) (nxt g n)

theorem bfs_step {g : List Bl} {k : Nat} (h : k < (bfs g k).length) : bfs g (k + 1) = stepL (bfs g k) (nxt g (bfs g k)[k]) := by
  simp only [bfs, List.getElem?_eq_getElem h]

theorem bfs_stay {g : List Bl} {k : Nat} (h : (bfs g k).length ≤ k) : bfs g (k + 1) = bfs g k := by
  simp only [bfs, List.getElem?_eq_none h]

theorem bfs_nodup (g : List Bl) : ∀ k, (bfs g k).Nodup
  | 0 => by simp [bfs]
  | k + 1 => by
    by_cases h : k < (bfs g k).length
    · rw [bfs_step h]; exact stepL_nodup _ _ (bfs_nodup g k)
    · rw [bfs_stay (by omega)]; exact bfs_nodup g k

theorem bfs_lt {g : List Bl} (hv : validB g = true) : ∀ k, ∀ x ∈ bfs g k, x < g.length
  | 0, x, hx => by simp [bfs] at hx; subst hx; exact (valid_iff.1 hv).1
  | k + 1, x, hx => by
    have ih := bfs_lt hv k
    by_cases h : k < (bfs g k).length
    · rw [bfs_step h, stepL_mem] at hx
      rcases hx with hx | hx
      · exact ih x hx
      · exact nxt_lt hv (ih _ (List.getElem_mem h)) hx
    · rw [bfs_stay (by omega)] at hx; exact ih x hx

theorem nodup_lt_len : ∀ (n : Nat) (l : List Nat), l.Nodup → (∀ x ∈ l, x < n) → l.length ≤ n := by
  intro n l hn hl
  have := List.Nodup.length_le_of_subset (l₁ := l) (l₂ := List.range n) hn (fun x hx => List.mem_range.2 (hl x hx))
  simpa using this

theorem bfs_len {g : List Bl} (hv : validB g = true) (k : Nat) : (bfs g k).length ≤ g.length := nodup_lt_len _ _ (bfs_nodup g k) (bfs_lt hv k)

theorem bfs_prefix (g : List Bl) (k : Nat) : bfs g k <+: bfs g (k + 1) := by
  by_cases h : k < (bfs g k).length
  · rw [bfs_step h]; exact stepL_prefix _ _
  · rw [bfs_stay (by omega)]; exact List.prefix_refl _

theorem bfs_more {g : List Bl} {k : Nat} (h : (bfs g k).length ≤ k) : ∀ m, bfs g (k + m) = bfs g k
  | 0 => rfl
  | m + 1 => by
    have ih := bfs_more h m
    rw [← Nat.add_assoc, bfs_stay (by rw [ih]; omega), ih]

theorem bfs_prefixes (g : List Bl) (k : Nat) : ∀ m, bfs g k <+: bfs g (k + m)
  | 0 => List.prefix_refl _
  | m + 1 => (bfs_prefixes g k m).trans (bfs_prefix g (k + m))

/-- All that can be come to, in the order in which it is found. -/
def reach (g : List Bl) : List Nat := bfs g g.length

theorem reach_done {g : List Bl} {k : Nat} (hk : k ≤ g.length) (h : (bfs g k).length ≤ k) : bfs g k = reach g := by
  have := bfs_more h (g.length - k)
  unfold reach
  rw [← this]; congr 1; omega

theorem bfs_reach {g : List Bl} {k : Nat} (hk : k ≤ g.length) : bfs g k <+: reach g := by
  have := bfs_prefixes g k (g.length - k)
  unfold reach
  rwa [show k + (g.length - k) = g.length by omega] at this

theorem bfs_get {g : List Bl} {k : Nat} (hk : k ≤ g.length) (h : k < (bfs g k).length) : (bfs g k).take (k + 1) = (reach g).take (k + 1) := by
  obtain ⟨t, ht⟩ := bfs_reach (g := g) hk
  rw [← ht, List.take_append_of_le_length (by omega)]

theorem reach_lt {g : List Bl} (hv : validB g = true) {x : Nat} (hx : x ∈ reach g) : x < g.length := bfs_lt hv _ x hx
theorem reach_nodup (g : List Bl) : (reach g).Nodup := bfs_nodup g _
theorem reach_len {g : List Bl} (hv : validB g = true) : (reach g).length ≤ g.length := bfs_len hv _

/-- The same, in the order of the graph. -/
def reachS (g : List Bl) : List Nat := (List.range g.length).filter fun i => decide (i ∈ reach g)

end Go.Proofs.YtdpjdhllaokbfaaGreat

/-
  Names of blocks by their numbers, and where a letter stands in them: plain facts.
-/
namespace Go.Proofs.YtdpjdhllaokbfaaGreat
open Go.RowKit Go.Sort

theorem name_inj {g : List Bl} (hv : validB g = true) {i j : Nat} (hi : i < g.length) (hj : j < g.length) (h : g[i].1 = g[j].1) : i = j := by
  have key : ∀ i j (hi : i < g.length) (hj : j < g.length), i < j → g[i].1 ≠ g[j].1 := by
    intro i j hi hj hlt e
    obtain ⟨c, hc, hl⟩ := valid_one hv (List.getElem_mem hj)
    have hn := newsB_iff.1 (valid_iff.1 hv).2.2.1 j hj
    rw [hc, newB_one hl] at hn
    have hm : c ∈ (names (g.take j)).data.toList := mem_names.2 ⟨g[i], by
      rw [List.mem_take_iff_getElem]; exact ⟨i, by omega, rfl⟩, by rw [e, hc]; simp⟩
    rw [List.contains_iff_mem.2 hm] at hn
    cases hn
  rcases Nat.lt_trichotomy i j with hlt | e | hlt
  · exact absurd h (key i j hi hj hlt)
  · exact e
  · exact absurd h.symm (key j i hj hi hlt)

theorem posOf_name {g : List Bl} (hv : validB g = true) {i : Nat} (hi : i < g.length) : posOf g g[i].1 = some i :=
  posOf_some hi rfl fun j hj hlt e => by have := name_inj hv hj hi e; omega

theorem nxt_length {g : List Bl} {i : Nat} (hi : i < g.length) : (nxt g i).length = g[i].2.size := by
  unfold nxt; rw [List.length_map, nthNext_at hi, size_of_list]
where
  size_of_list {s : ByteArray} : s.data.toList.length = s.size := by rw [Array.length_toList]; rfl

theorem nxt_get {g : List Bl} (hv : validB g = true) {i : Nat} (hi : i < g.length) {k : Nat} (hk : k < g[i].2.size) :
    ∃ t, ∃ ht : t < g.length, (nxt g i)[k]? = some t ∧ posOf g ⟨#[g[i].2[k]'hk]⟩ = some t ∧ g[t].1 = ⟨#[g[i].2[k]'hk]⟩ := by
  obtain ⟨t, ht, hpos, hn⟩ := posOf_valid hv hi hk
  refine ⟨t, ht, ?_, hpos, hn⟩
  unfold nxt
  rw [List.getElem?_map, nthNext_at hi, byte_at _ k hk]
  simp only [Option.map_some, hpos, Option.getD_some]

theorem nxt_mem {g : List Bl} (hv : validB g = true) {i t : Nat} (hi : i < g.length) (ht : t < g.length) {c : UInt8} (hc : g[t].1 = ⟨#[c]⟩) : t ∈ nxt g i ↔ c ∈ g[i].2.data.toList := by
  constructor
  · intro h
    obtain ⟨k, hk, e⟩ := List.getElem_of_mem h
    rw [nxt_length hi] at hk
    obtain ⟨t', ht', hg', _, hn'⟩ := nxt_get hv hi hk
    rw [List.getElem?_eq_getElem (by rw [nxt_length hi]; exact hk), e] at hg'
    obtain rfl := Option.some.inj hg'
    rw [hc] at hn'
    have : c = g[i].2[k]'hk := by injection hn' with h; simpa using h
    rw [this]; exact List.mem_of_getElem? (byte_at _ k hk)
  · intro h
    obtain ⟨k, hk, e⟩ := List.getElem_of_mem h
    have hk' : k < g[i].2.size := by simpa using hk
    obtain ⟨t', ht', hg', _, hn'⟩ := nxt_get hv hi hk'
    have hb : g[i].2[k]'hk' = c := by
      have h1 := byte_at g[i].2 k hk'
      rw [List.getElem?_eq_getElem hk, e] at h1
      exact (Option.some.inj h1).symm
    rw [hb, ← hc] at hn'
    obtain rfl := name_inj hv ht' ht hn'
    exact List.mem_of_getElem? hg'

theorem mem_namesAt {g : List Bl} {c : UInt8} : ∀ {l : List Nat}, c ∈ (namesAt g l).data.toList ↔ ∃ i ∈ l, c ∈ (nthName g i).data.toList
  | [] => by simp [namesAt]
  | i :: l => by rw [namesAt, ba_append_toList, List.mem_append, mem_namesAt]; simp

/-- A block's letter stands among these names exactly if the block is among these. -/
theorem idx_namesAt {g : List Bl} (hv : validB g = true) {l : List Nat} (hl : ∀ i ∈ l, i < g.length) {t : Nat} (ht : t < g.length) {c : UInt8} (hc : g[t].1 = ⟨#[c]⟩) :
    0 ≤ Lib.indexByte (namesAt g l).data.toList c ↔ t ∈ l := by
  rw [idx_mem, mem_namesAt]
  constructor
  · rintro ⟨i, hi, hm⟩
    have hi' := hl i hi
    obtain ⟨d, hd, _⟩ := valid_one hv (List.getElem_mem hi')
    rw [nthName_at hi', hd] at hm
    have hcd : c = d := by simpa using hm
    subst hcd
    rw [← hc] at hd
    rw [← name_inj hv hi' ht hd]; exact hi
  · intro h
    exact ⟨t, h, by rw [nthName_at ht, hc]; simp⟩

/-- A letter that is no name stands in none. -/
theorem idx_namesAt_no {g : List Bl} (hv : validB g = true) {l : List Nat} (hl : ∀ i ∈ l, i < g.length) {c : UInt8} (hc : posOf g ⟨#[c]⟩ = none) : ¬ 0 ≤ Lib.indexByte (namesAt g l).data.toList c := by
  rw [idx_mem, mem_namesAt]
  rintro ⟨i, hi, hm⟩
  have hi' := hl i hi
  obtain ⟨d, hd, _⟩ := valid_one hv (List.getElem_mem hi')
  rw [nthName_at hi', hd] at hm
  have hcd : c = d := by simpa using hm
  subst hcd
  rw [← hd, posOf_name hv hi'] at hc
  cases hc

theorem namesAt_get {g : List Bl} (hv : validB g = true) : ∀ {l : List Nat}, (∀ i ∈ l, i < g.length) → ∀ {k : Nat} (hk : k < l.length), ∃ h : l[k] < g.length, (namesAt g l).data.toList[k]? = g[l[k]].1.data.toList[0]?
  | [], _, k, hk => by simp at hk
  | i :: l, hl, k, hk => by
    have hi := hl i (by simp)
    obtain ⟨c, hc, _⟩ := valid_one hv (List.getElem_mem hi)
    cases k with
    | zero =>
      refine ⟨hi, ?_⟩
      rw [namesAt, ba_append_toList, nthName_at hi]
      simp [hc]
    | succ k =>
      obtain ⟨h, e⟩ := namesAt_get hv (l := l) (fun j hj => hl j (by simp [hj])) (k := k) (by simpa using hk)
      refine ⟨h, ?_⟩
      rw [namesAt, ba_append_toList, nthName_at hi, hc]
      simpa using e

/-- The k-th of these names. -/
theorem namesAt_byte {g : List Bl} (hv : validB g = true) {l : List Nat} (hl : ∀ i ∈ l, i < g.length) {k : Nat} (hk : k < l.length) :
    ∃ h : l[k] < g.length, ∃ hk' : k < (namesAt g l).size, g[l[k]].1 = ⟨#[(namesAt g l)[k]'hk']⟩ := by
  obtain ⟨h, e⟩ := namesAt_get hv hl hk
  have hk' : k < (namesAt g l).size := by rw [namesAt_size hv l hl]; exact hk
  refine ⟨h, hk', ?_⟩
  obtain ⟨c, hc, _⟩ := valid_one hv (List.getElem_mem h)
  rw [byte_at _ k hk', hc] at e
  have : (namesAt g l)[k]'hk' = c := by simpa using e
  rw [this, hc]

theorem namesAt_cut {g : List Bl} (hv : validB g = true) {l : List Nat} (hl : ∀ i ∈ l, i < g.length) {k : Nat} (hk : k < l.length) :
    ∃ h : l[k] < g.length, (namesAt g l).extract k (k + 1) = g[l[k]].1 := by
  obtain ⟨h, hk', e⟩ := namesAt_byte hv hl hk
  exact ⟨h, by rw [ex_byte _ (a := k) (b := k + 1) (by omega) (by omega) (by omega), e]⟩

theorem namesAt_all (g : List Bl) : ∀ k, k ≤ g.length → namesAt g (List.range k) = names (g.take k)
  | 0, _ => by simp [namesAt, names]
  | k + 1, h => by rw [List.range_succ, namesAt_append, namesAt_all g k (by omega), namesAt_one, names_take g k (by omega), nthName_at (by omega)]

end Go.Proofs.YtdpjdhllaokbfaaGreat
