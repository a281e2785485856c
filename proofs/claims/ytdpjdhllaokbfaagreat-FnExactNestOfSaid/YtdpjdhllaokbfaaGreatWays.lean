/-
  The choices that lead to a block, as numbers; which ones are the least: plain facts.
-/
import Derived.Test.YtdpjdhllaokbfaaGreatRuns
import Derived.Test.YtdpjdhllaokbfaaGreatIter
import Derived.Deep.LoopGhost
namespace Go.Proofs.YtdpjdhllaokbfaaGreat
open Go.RowKit Go.Sort

/-- Choices as a number: a leading 1, then 0 for l and 1 for r. -/
def code (s : List UInt8) : Nat := s.foldl (fun n c => 2 * n + (if c = 108 then 0 else 1)) 1

theorem code_nil : code [] = 1 := rfl
theorem code_l (s : List UInt8) : code (s ++ [108]) = 2 * code s := by simp [code]
theorem code_r (s : List UInt8) : code (s ++ [114]) = 2 * code s + 1 := by simp [code]
theorem isLR_nil : isLR [] = true := rfl
theorem isLR_l {s : List UInt8} (h : isLR s = true) : isLR (s ++ [108]) = true := by simp [isLR] at h ⊢; exact h
theorem isLR_r {s : List UInt8} (h : isLR s = true) : isLR (s ++ [114]) = true := by simp [isLR] at h ⊢; exact h

theorem code_from (s : List UInt8) : ∀ n, s.foldl (fun n c => 2 * n + (if (c : UInt8) = 108 then 0 else 1)) n = n * 2 ^ s.length + (s.foldl (fun n c => 2 * n + (if (c : UInt8) = 108 then 0 else 1)) 0) := by
  induction s with
  | nil => intro n; simp
  | cons c s ih =>
    intro n
    simp only [List.foldl_cons, List.length_cons]
    generalize (if c = 108 then 0 else 1) = b
    rw [ih (2 * n + b), ih (2 * 0 + b), Nat.pow_succ]
    generalize 2 ^ s.length = p
    have h1 : (2 * n + b) * p = n * (p * 2) + b * p := by rw [Nat.add_mul, Nat.mul_comm p 2, ← Nat.mul_assoc, Nat.mul_comm n 2]
    have h2 : (2 * 0 + b) * p = b * p := by simp
    omega

def tailCode (s : List UInt8) : Nat := s.foldl (fun n c => 2 * n + (if (c : UInt8) = 108 then 0 else 1)) 0

theorem code_eq (s : List UInt8) : code s = 2 ^ s.length + tailCode s := by
  unfold code tailCode
  rw [code_from]; omega

theorem tailCode_cons (c : UInt8) (s : List UInt8) : tailCode (c :: s) = (if c = 108 then 0 else 2 ^ s.length) + tailCode s := by
  unfold tailCode
  simp only [List.foldl_cons]
  rw [code_from]
  split <;> omega

theorem tailCode_lt (s : List UInt8) : tailCode s < 2 ^ s.length := by
  induction s with
  | nil => simp [tailCode]
  | cons c s ih => rw [tailCode_cons, List.length_cons, Nat.pow_succ]; split <;> omega

theorem code_pos (s : List UInt8) : 1 ≤ code s := by rw [code_eq]; have := Nat.pow_pos (n := s.length) (show 0 < 2 by decide); omega

theorem code_shorter {s t : List UInt8} (h : s.length < t.length) : code s < code t := by
  rw [code_eq, code_eq]
  have h1 := tailCode_lt s
  have h2 : 2 ^ (s.length + 1) ≤ 2 ^ t.length := Nat.pow_le_pow_right (by decide) h
  rw [Nat.pow_succ] at h2
  omega

theorem code_inj : ∀ {s t : List UInt8}, isLR s = true → isLR t = true → code s = code t → s = t := by
  have key : ∀ (s t : List UInt8), s.length = t.length → isLR s = true → isLR t = true → tailCode s = tailCode t → s = t := by
    intro s
    induction s with
    | nil => intro t hl _ _ _; exact (List.eq_nil_of_length_eq_zero hl.symm).symm
    | cons c s ih =>
      intro t hl hs ht h
      cases t with
      | nil => simp at hl
      | cons d t =>
        have hl' : s.length = t.length := by simpa using hl
        rw [tailCode_cons, tailCode_cons, hl'] at h
        have b1 := tailCode_lt s
        have b2 := tailCode_lt t
        rw [hl'] at b1
        simp only [isLR, List.all_cons, Bool.and_eq_true, Bool.or_eq_true, beq_iff_eq] at hs ht
        rcases hs.1 with rfl | rfl <;> rcases ht.1 with rfl | rfl
        · rw [ih t hl' hs.2 ht.2 (by simpa using h)]
        · simp at h; omega
        · simp at h; omega
        · rw [ih t hl' hs.2 ht.2 (by simpa using h)]
  intro s t hs ht h
  have hl : s.length = t.length := by
    rcases Nat.lt_trichotomy s.length t.length with hlt | e | hlt
    · have := code_shorter hlt; omega
    · exact e
    · have := code_shorter hlt; omega
  refine key s t hl hs ht ?_
  rw [code_eq, code_eq, hl] at h; omega

/-- The order of the numbers is that of the choices. -/
theorem code_lex : ∀ {s t : List UInt8}, s.length = t.length → isLR s = true → isLR t = true → (code s < code t ↔ s < t) := by
  have key : ∀ (s t : List UInt8), s.length = t.length → isLR s = true → isLR t = true → (tailCode s < tailCode t ↔ s < t) := by
    intro s
    induction s with
    | nil =>
      intro t hl _ _
      rw [(List.eq_nil_of_length_eq_zero hl.symm)]
      simp
    | cons c s ih =>
      intro t hl hs ht
      cases t with
      | nil => simp at hl
      | cons d t =>
        have hl' : s.length = t.length := by simpa using hl
        have b1 := tailCode_lt s
        have b2 := tailCode_lt t
        rw [hl'] at b1
        simp only [isLR, List.all_cons, Bool.and_eq_true, Bool.or_eq_true, beq_iff_eq] at hs ht
        rw [tailCode_cons, tailCode_cons, hl', List.cons_lt_cons_iff]
        have i := ih t hl' hs.2 ht.2
        rcases hs.1 with rfl | rfl <;> rcases ht.1 with rfl | rfl
        · rw [← i]; simp
        · constructor
          · intro _; exact .inl (by decide)
          · intro _; simp; omega
        · constructor
          · intro h; simp at h; omega
          · rintro (h | h)
            · exact absurd h (by decide)
            · exact absurd h.1 (by decide)
        · rw [← i]; simp
  intro s t hl hs ht
  rw [code_eq, code_eq, hl, ← key s t hl hs ht]
  omega

/-- With choices of this number a run comes to a block, and by none of A. -/
inductive Lab (g : List Bl) (A : List Nat) : Nat → Nat → Prop where
  | start (ha : 0 ∉ A) : Lab g A 0 1
  | jump {i c t : Nat} (h : Lab g A i c) (hn : nxt g i = [t]) (ha : t ∉ A) : Lab g A t c
  | left {i c t u : Nat} (h : Lab g A i c) (hn : nxt g i = [t, u]) (ha : t ∉ A) : Lab g A t (2 * c)
  | right {i c t u : Nat} (h : Lab g A i c) (hn : nxt g i = [t, u]) (ha : u ∉ A) : Lab g A u (2 * c + 1)

theorem Lab.pos {g : List Bl} {A : List Nat} {i c : Nat} (h : Lab g A i c) : 1 ≤ c := by
  induction h with
  | start _ => exact Nat.le_refl 1
  | jump _ _ _ ih => exact ih
  | left _ _ _ ih => omega
  | right _ _ _ ih => omega

theorem Lab.lt {g : List Bl} {A : List Nat} (hv : validB g = true) {i c : Nat} (h : Lab g A i c) : i < g.length := by
  induction h with
  | start _ => exact (valid_iff.1 hv).1
  | jump _ hn _ ih => exact nxt_lt hv ih (by rw [hn]; simp)
  | left _ hn _ ih => exact nxt_lt hv ih (by rw [hn]; simp)
  | right _ hn _ ih => exact nxt_lt hv ih (by rw [hn]; simp)

theorem Lab.out {g : List Bl} {A : List Nat} {i c : Nat} (h : Lab g A i c) : i ∉ A := by
  cases h with
  | start ha => exact ha
  | jump _ _ ha => exact ha
  | left _ _ ha => exact ha
  | right _ _ ha => exact ha

/-- The least number. -/
def Best (g : List Bl) (A : List Nat) (i c : Nat) : Prop := Lab g A i c ∧ ∀ c', Lab g A i c' → c ≤ c'

theorem Best.unique {g : List Bl} {A : List Nat} {i c c' : Nat} (h : Best g A i c) (h' : Best g A i c') : c = c' := Nat.le_antisymm (h.2 _ h'.1) (h'.2 _ h.1)

open Classical in
theorem best_of_lab {g : List Bl} {A : List Nat} {i c : Nat} (h : Lab g A i c) : ∃ c', Best g A i c' := by
  obtain ⟨c', h1, h2⟩ := exists_least (p := fun c => Lab g A i c) ⟨c, h⟩
  exact ⟨c', h1, h2⟩

/-- Numbers that nothing shortens are the least ones. -/
theorem closed_best {g : List Bl} {A : List Nat} {d : Nat → Option Nat} (hl : ∀ i c, d i = some c → Lab g A i c) (h0 : 0 ∉ A → ∃ c, d 0 = some c ∧ c ≤ 1)
    (hj : ∀ i c t, d i = some c → nxt g i = [t] → t ∉ A → ∃ c', d t = some c' ∧ c' ≤ c)
    (hb : ∀ i c t u, d i = some c → nxt g i = [t, u] → (t ∉ A → ∃ c', d t = some c' ∧ c' ≤ 2 * c) ∧ (u ∉ A → ∃ c', d u = some c' ∧ c' ≤ 2 * c + 1)) :
    (∀ i c, d i = some c → Best g A i c) ∧ (∀ i, d i = none → ∀ c, ¬ Lab g A i c) := by
  have key : ∀ i c, Lab g A i c → ∃ c', d i = some c' ∧ c' ≤ c := by
    intro i c h
    induction h with
    | start ha => exact h0 ha
    | jump _ hn ha ih =>
      obtain ⟨c', h1, h2⟩ := ih
      obtain ⟨c2, h3, h4⟩ := hj _ _ _ h1 hn ha
      exact ⟨c2, h3, by omega⟩
    | left _ hn ha ih =>
      obtain ⟨c', h1, h2⟩ := ih
      obtain ⟨c2, h3, h4⟩ := (hb _ _ _ _ h1 hn).1 ha
      exact ⟨c2, h3, by omega⟩
    | right _ hn ha ih =>
      obtain ⟨c', h1, h2⟩ := ih
      obtain ⟨c2, h3, h4⟩ := (hb _ _ _ _ h1 hn).2 ha
      exact ⟨c2, h3, by omega⟩
  refine ⟨fun i c h => ⟨hl i c h, fun c' h' => ?_⟩, fun i h c hc => ?_⟩
  · obtain ⟨c2, h1, h2⟩ := key i c' h'
    rw [h] at h1
    obtain rfl := Option.some.inj h1
    exact h2
  · obtain ⟨c', h1, _⟩ := key i c hc
    rw [h] at h1; cases h1

/-! ### The search by a queue -/

/-- The queue of a search: what has its number, what is to come, and the number that was looked at last. -/
structure Seek (g : List Bl) (A : List Nat) (d : Nat → Option Nat) (q : List (Nat × Nat)) (c0 : Nat) : Prop where
  lab : ∀ i c, d i = some c → Lab g A i c ∧ c ≤ c0
  qlab : ∀ x ∈ q, x.1 ∉ A → Lab g A x.1 x.2
  up : q.Pairwise fun x y => x.2 < y.2
  bound : ∀ x ∈ q, c0 < x.2 ∧ x.2 ≤ 2 * c0 + 1
  start : 0 ∉ A → (∃ c, d 0 = some c ∧ c ≤ 1) ∨ (0, 1) ∈ q
  jump : ∀ i c t, d i = some c → nxt g i = [t] → t ∉ A → ∃ c', d t = some c' ∧ c' ≤ c
  branch : ∀ i c t u, d i = some c → nxt g i = [t, u] → (t ∉ A → (∃ c', d t = some c' ∧ c' ≤ 2 * c) ∨ (t, 2 * c) ∈ q) ∧ (u ∉ A → (∃ c', d u = some c' ∧ c' ≤ 2 * c + 1) ∨ (u, 2 * c + 1) ∈ q)

theorem Seek.first (g : List Bl) (A : List Nat) : Seek g A (fun _ => none) [(0, 1)] 0 where
  lab := fun _ _ h => by cases h
  qlab := fun x hx ha => by simp at hx; subst hx; exact .start ha
  up := by simp
  bound := fun x hx => by simp at hx; subst hx; simp
  start := fun _ => .inr (by simp)
  jump := fun _ _ _ h => by cases h
  branch := fun _ _ _ _ h => by cases h

theorem Seek.done {g : List Bl} {A : List Nat} {d : Nat → Option Nat} {c0 : Nat} (h : Seek g A d [] c0) : (∀ i c, d i = some c → Best g A i c) ∧ (∀ i, d i = none → ∀ c, ¬ Lab g A i c) := by
  refine closed_best (fun i c hi => (h.lab i c hi).1) (fun ha => (h.start ha).elim id fun h => by simp at h) h.jump fun i c t u hi hn => ?_
  obtain ⟨h1, h2⟩ := h.branch i c t u hi hn
  exact ⟨fun ha => (h1 ha).elim id fun h => by simp at h, fun ha => (h2 ha).elim id fun h => by simp at h⟩

/-- Within a chain of jumps: block n is at hand with number c; the numbers before c are settled. -/
structure Chain (g : List Bl) (A : List Nat) (d : Nat → Option Nat) (q : List (Nat × Nat)) (c n : Nat) : Prop where
  lab : ∀ i c', d i = some c' → Lab g A i c' ∧ c' ≤ c
  here : n ∉ A → Lab g A n c
  pos : 1 ≤ c
  qlab : ∀ x ∈ q, x.1 ∉ A → Lab g A x.1 x.2
  up : q.Pairwise fun x y => x.2 < y.2
  bound : ∀ x ∈ q, c < x.2 ∧ x.2 < 2 * c
  start : 0 ∉ A → (∃ c', d 0 = some c' ∧ c' ≤ 1) ∨ (0 = n ∧ c = 1)
  jump : ∀ i c' t, d i = some c' → nxt g i = [t] → t ∉ A → (∃ c2, d t = some c2 ∧ c2 ≤ c') ∨ (t = n ∧ c' = c)
  branch : ∀ i c' t u, d i = some c' → nxt g i = [t, u] → (t ∉ A → (∃ c2, d t = some c2 ∧ c2 ≤ 2 * c') ∨ (t, 2 * c') ∈ q ∨ (t = n ∧ 2 * c' = c)) ∧ (u ∉ A → (∃ c2, d u = some c2 ∧ c2 ≤ 2 * c' + 1) ∨ (u, 2 * c' + 1) ∈ q ∨ (u = n ∧ 2 * c' + 1 = c))

theorem Seek.pop {g : List Bl} {A : List Nat} {d : Nat → Option Nat} {x : Nat × Nat} {q : List (Nat × Nat)} {c0 : Nat} (h : Seek g A d (x :: q) c0) : Chain g A d q x.2 x.1 := by
  have hb := h.bound x (by simp)
  have hu := List.pairwise_cons.1 h.up
  refine ⟨fun i c' hi => ?_, h.qlab x (by simp), by omega, fun y hy => h.qlab y (by simp [hy]), hu.2, fun y hy => ⟨hu.1 y hy, ?_⟩, fun ha => ?_, fun i c' t hi hn ha => .inl (h.jump i c' t hi hn ha), fun i c' t u hi hn => ?_⟩
  · have := h.lab i c' hi; exact ⟨this.1, by omega⟩
  · have := (h.bound y (by simp [hy])).2; omega
  · rcases h.start ha with hs | hs
    · exact .inl hs
    · rcases List.mem_cons.1 hs with e | e
      · exact .inr (by rw [← e]; exact ⟨rfl, rfl⟩)
      · have h2 := hu.1 _ e
        exact absurd h2 (by simp; omega)
  · obtain ⟨h1, h2⟩ := h.branch i c' t u hi hn
    refine ⟨fun ha => ?_, fun ha => ?_⟩
    · rcases h1 ha with h1 | h1
      · exact .inl h1
      · rcases List.mem_cons.1 h1 with e | e
        · exact .inr (.inr (by rw [← e]; exact ⟨rfl, rfl⟩))
        · exact .inr (.inl e)
    · rcases h2 ha with h2 | h2
      · exact .inl h2
      · rcases List.mem_cons.1 h2 with e | e
        · exact .inr (.inr (by rw [← e]; exact ⟨rfl, rfl⟩))
        · exact .inr (.inl e)

/-- The block at hand has its number already, or is to be avoided. -/
theorem Chain.seen {g : List Bl} {A : List Nat} {d : Nat → Option Nat} {q : List (Nat × Nat)} {c n : Nat} (h : Chain g A d q c n) (hn : n ∈ A ∨ ∃ c1, d n = some c1) : Seek g A d q c := by
  have hn' : n ∉ A → ∃ c1, d n = some c1 ∧ c1 ≤ c := fun ha => by
    rcases hn with hn | ⟨c1, hn⟩
    · exact absurd hn ha
    · exact ⟨c1, hn, (h.lab n c1 hn).2⟩
  refine ⟨h.lab, h.qlab, h.up, fun x hx => ?_, fun ha => ?_, fun i c' t hi ht ha => ?_, fun i c' t u hi ht => ?_⟩
  · have := h.bound x hx; omega
  · rcases h.start ha with h | ⟨rfl, rfl⟩
    · exact .inl h
    · exact .inl (hn' ha)
  · rcases h.jump i c' t hi ht ha with h | ⟨rfl, rfl⟩
    · exact h
    · exact hn' ha
  · obtain ⟨a, b⟩ := h.branch i c' t u hi ht
    refine ⟨fun ha => ?_, fun ha => ?_⟩
    · rcases a ha with a | a | ⟨rfl, e⟩
      · exact .inl a
      · exact .inr a
      · obtain ⟨c1, h1, h2⟩ := hn' ha
        exact .inl ⟨c1, h1, by omega⟩
    · rcases b ha with b | b | ⟨rfl, e⟩
      · exact .inl b
      · exact .inr b
      · obtain ⟨c1, h1, h2⟩ := hn' ha
        exact .inl ⟨c1, h1, by omega⟩

/-- The numbers before the one at hand are settled. -/
theorem Chain.before {g : List Bl} {A : List Nat} {d : Nat → Option Nat} {q : List (Nat × Nat)} {c n : Nat} (h : Chain g A d q c n) : ∀ i c', Lab g A i c' → c' < c → ∃ c2, d i = some c2 ∧ c2 ≤ c' := by
  intro i c' hl
  induction hl with
  | start ha =>
    intro hlt
    rcases h.start ha with h | ⟨_, e⟩
    · exact h
    · omega
  | jump _ hn ha ih =>
    intro hlt
    obtain ⟨c2, h1, h2⟩ := ih hlt
    rcases h.jump _ _ _ h1 hn ha with ⟨c3, h3, h4⟩ | ⟨_, e⟩
    · exact ⟨c3, h3, by omega⟩
    · omega
  | left h0 hn ha ih =>
    intro hlt
    have := h0.pos
    obtain ⟨c2, h1, h2⟩ := ih (by omega)
    rcases (h.branch _ _ _ _ h1 hn).1 ha with ⟨c3, h3, h4⟩ | h3 | ⟨_, e⟩
    · exact ⟨c3, h3, by omega⟩
    · have := (h.bound _ h3).1; simp at this; omega
    · omega
  | right h0 hn ha ih =>
    intro hlt
    have := h0.pos
    obtain ⟨c2, h1, h2⟩ := ih (by omega)
    rcases (h.branch _ _ _ _ h1 hn).2 ha with ⟨c3, h3, h4⟩ | h3 | ⟨_, e⟩
    · exact ⟨c3, h3, by omega⟩
    · have := (h.bound _ h3).1; simp at this; omega
    · omega

/-- A block that had no number gets its least one. -/
theorem Chain.best {g : List Bl} {A : List Nat} {d : Nat → Option Nat} {q : List (Nat × Nat)} {c n : Nat} (h : Chain g A d q c n) (hn : d n = none) (ha : n ∉ A) : Best g A n c := by
  refine ⟨h.here ha, fun c' hc' => ?_⟩
  rcases Nat.lt_or_ge c' c with hlt | hge
  · obtain ⟨c2, h1, _⟩ := h.before n c' hc' hlt
    rw [hn] at h1; cases h1
  · exact hge

def put (d : Nat → Option Nat) (n c : Nat) : Nat → Option Nat := fun i => if i = n then some c else d i
theorem put_same (d : Nat → Option Nat) (n c : Nat) : put d n c n = some c := by simp [put]
theorem put_other (d : Nat → Option Nat) {n i : Nat} (c : Nat) (h : i ≠ n) : put d n c i = d i := by simp [put, h]
theorem put_old {d : Nat → Option Nat} {n c i c' : Nat} (hn : d n = none) (h : d i = some c') : put d n c i = some c' := by
  rw [put_other]; exact h; intro e; rw [e, hn] at h; cases h

/-- It gets it; what it goes on to is looked at next, or waits. -/
theorem Chain.mark {g : List Bl} {A : List Nat} {d : Nat → Option Nat} {q : List (Nat × Nat)} {c n : Nat} (h : Chain g A d q c n) (hn : d n = none) (hna : n ∉ A) :
    (nxt g n = [] → Seek g A (put d n c) q c) ∧ (∀ t, nxt g n = [t] → Chain g A (put d n c) q c t) ∧ (∀ t u, nxt g n = [t, u] → Seek g A (put d n c) (q ++ [(t, 2 * c), (u, 2 * c + 1)]) c) := by
  have hhere := h.here hna
  have hlab : ∀ i c', put d n c i = some c' → Lab g A i c' ∧ c' ≤ c := by
    intro i c' hi
    by_cases e : i = n
    · subst e; rw [put_same] at hi; obtain rfl := Option.some.inj hi; exact ⟨hhere, Nat.le_refl _⟩
    · rw [put_other d c e] at hi; exact h.lab i c' hi
  have old : ∀ {t m : Nat}, (∃ c2, d t = some c2 ∧ c2 ≤ m) → ∃ c2, put d n c t = some c2 ∧ c2 ≤ m := fun ⟨c2, h1, h2⟩ => ⟨c2, put_old hn h1, h2⟩
  have hpos := h.pos
  have hstart : 0 ∉ A → ∃ c', put d n c 0 = some c' ∧ c' ≤ 1 := fun ha => by
    rcases h.start ha with h | ⟨e, e2⟩
    · exact old h
    · exact ⟨c, by rw [e]; exact put_same d n c, by omega⟩
  refine ⟨fun h0 => ?_, fun t ht => ?_, fun t u ht => ?_⟩
  · refine ⟨hlab, h.qlab, h.up, fun x hx => by have := h.bound x hx; omega, fun ha => .inl (hstart ha), fun i c' t hi ht ha => ?_, fun i c' t u hi ht => ?_⟩
    · by_cases e : i = n
      · subst e; rw [h0] at ht; cases ht
      · rw [put_other d c e] at hi
        rcases h.jump i c' t hi ht ha with h1 | ⟨rfl, rfl⟩
        · exact old h1
        · exact ⟨c', put_same d t c', Nat.le_refl _⟩
    · by_cases e : i = n
      · subst e; rw [h0] at ht; cases ht
      · rw [put_other d c e] at hi
        obtain ⟨a, b⟩ := h.branch i c' t u hi ht
        refine ⟨fun ha => ?_, fun ha => ?_⟩
        · rcases a ha with a | a | ⟨rfl, e⟩
          · exact .inl (old a)
          · exact .inr a
          · exact .inl ⟨c, put_same d t c, by omega⟩
        · rcases b ha with b | b | ⟨rfl, e⟩
          · exact .inl (old b)
          · exact .inr b
          · exact .inl ⟨c, put_same d u c, by omega⟩
  · refine ⟨hlab, fun ha => .jump hhere ht ha, hpos, h.qlab, h.up, h.bound, fun ha => .inl (hstart ha), fun i c' t' hi ht' ha => ?_, fun i c' t' u hi ht' => ?_⟩
    · by_cases e : i = n
      · subst e
        rw [put_same] at hi
        obtain rfl := Option.some.inj hi
        rw [ht] at ht'; injection ht' with e1 _
        exact .inr ⟨e1.symm, rfl⟩
      · rw [put_other d c e] at hi
        rcases h.jump i c' t' hi ht' ha with h1 | ⟨rfl, rfl⟩
        · exact .inl (old h1)
        · exact .inl ⟨c', put_same d t' c', Nat.le_refl _⟩
    · by_cases e : i = n
      · subst e; rw [ht] at ht'; cases ht'
      · rw [put_other d c e] at hi
        obtain ⟨a, b⟩ := h.branch i c' t' u hi ht'
        refine ⟨fun ha => ?_, fun ha => ?_⟩
        · rcases a ha with a | a | ⟨rfl, e⟩
          · exact .inl (old a)
          · exact .inr (.inl a)
          · exact .inl ⟨c, put_same d t' c, by omega⟩
        · rcases b ha with b | b | ⟨rfl, e⟩
          · exact .inl (old b)
          · exact .inr (.inl b)
          · exact .inl ⟨c, put_same d u c, by omega⟩
  · refine ⟨hlab, fun x hx => ?_, ?_, fun x hx => ?_, fun ha => .inl (hstart ha), fun i c' t' hi ht' ha => ?_, fun i c' t' u' hi ht' => ?_⟩
    · rcases List.mem_append.1 hx with hx | hx
      · exact h.qlab x hx
      · simp only [List.mem_cons, List.not_mem_nil, or_false] at hx
        rcases hx with rfl | rfl
        · exact fun ha => .left hhere ht ha
        · exact fun ha => .right hhere ht ha
    · refine List.pairwise_append.2 ⟨h.up, by simp, fun x hx y hy => ?_⟩
      have hb := h.bound x hx
      simp only [List.mem_cons, List.not_mem_nil, or_false] at hy
      rcases hy with rfl | rfl
      · exact hb.2
      · show x.2 < 2 * c + 1
        omega
    · rcases List.mem_append.1 hx with hx | hx
      · have := h.bound x hx; omega
      · simp only [List.mem_cons, List.not_mem_nil, or_false] at hx
        rcases hx with rfl | rfl
        · show c < 2 * c ∧ 2 * c ≤ 2 * c + 1
          omega
        · show c < 2 * c + 1 ∧ 2 * c + 1 ≤ 2 * c + 1
          omega
    · by_cases e : i = n
      · subst e; rw [ht] at ht'; cases ht'
      · rw [put_other d c e] at hi
        rcases h.jump i c' t' hi ht' ha with h1 | ⟨rfl, rfl⟩
        · exact old h1
        · exact ⟨c', put_same d t' c', Nat.le_refl _⟩
    · by_cases e : i = n
      · subst e
        rw [put_same] at hi
        obtain rfl := Option.some.inj hi
        rw [ht] at ht'
        injection ht' with e1 e2
        injection e2 with e2 _
        subst e1 e2
        exact ⟨fun _ => .inr (by simp), fun _ => .inr (by simp)⟩
      · rw [put_other d c e] at hi
        obtain ⟨a, b⟩ := h.branch i c' t' u' hi ht'
        refine ⟨fun ha => ?_, fun ha => ?_⟩
        · rcases a ha with a | a | ⟨rfl, e⟩
          · exact .inl (old a)
          · exact .inr (by simp [a])
          · exact .inl ⟨c, put_same d t' c, by omega⟩
        · rcases b ha with b | b | ⟨rfl, e⟩
          · exact .inl (old b)
          · exact .inr (by simp [b])
          · exact .inl ⟨c, put_same d u' c, by omega⟩

end Go.Proofs.YtdpjdhllaokbfaaGreat

/-
  The ways that a search hands out, one behind the other; what is the first of the wanted ones: plain facts.
-/
namespace Go.Proofs.YtdpjdhllaokbfaaGreat
open Go.RowKit Go.Sort

/-- The number of choices that are a string. -/
def cd (s : ByteArray) : Nat := code s.data.toList
def lrS (s : ByteArray) : Bool := isLR s.data.toList
def chL : ByteArray := ⟨#[108]⟩
def chR : ByteArray := ⟨#[114]⟩

theorem data_app (s t : ByteArray) : (s ++ t).data.toList = s.data.toList ++ t.data.toList := by rw [ByteArray.data_append, Array.toList_append]
theorem cd_nil : cd ⟨#[]⟩ = 1 := rfl
theorem cd_l (s : ByteArray) : cd (s ++ chL) = 2 * cd s := by unfold cd; rw [data_app]; exact code_l _
theorem cd_r (s : ByteArray) : cd (s ++ chR) = 2 * cd s + 1 := by unfold cd; rw [data_app]; exact code_r _
theorem lrS_nil : lrS ⟨#[]⟩ = true := rfl
theorem lrS_l {s : ByteArray} (h : lrS s = true) : lrS (s ++ chL) = true := by unfold lrS at h ⊢; rw [data_app]; exact isLR_l h
theorem lrS_r {s : ByteArray} (h : lrS s = true) : lrS (s ++ chR) = true := by unfold lrS at h ⊢; rw [data_app]; exact isLR_r h
theorem cd_inj {s t : ByteArray} (hs : lrS s = true) (ht : lrS t = true) (h : cd s = cd t) : s = t := ba_ext (code_inj hs ht h)
theorem cd_pos (s : ByteArray) : 1 ≤ cd s := code_pos _
theorem cd_size (s : ByteArray) : 2 ^ s.size ≤ cd s := by
  unfold cd; rw [code_eq, list_of_size]; omega

/-- The number that a block has among those that were handed out. -/
def dOf (pre : List (Nat × ByteArray)) : Nat → Option Nat := fun i => (pre.find? fun x => x.1 == i).map fun x => cd x.2

theorem dOf_nil : dOf [] = fun _ => none := rfl
theorem dOf_none {pre : List (Nat × ByteArray)} {i : Nat} : dOf pre i = none ↔ i ∉ pre.map (·.1) := by
  unfold dOf
  simp only [Option.map_eq_none_iff, List.find?_eq_none, List.mem_map, not_exists, not_and, beq_iff_eq]
theorem dOf_some {pre : List (Nat × ByteArray)} {i c : Nat} (h : dOf pre i = some c) : ∃ s, (i, s) ∈ pre ∧ c = cd s := by
  unfold dOf at h
  obtain ⟨x, hx, rfl⟩ := Option.map_eq_some_iff.1 h
  have h1 := List.mem_of_find?_eq_some hx
  have h2 := List.find?_some hx
  simp only [beq_iff_eq] at h2
  exact ⟨x.2, by rw [← h2]; exact h1, rfl⟩
theorem dOf_snoc {pre : List (Nat × ByteArray)} {n : Nat} (s : ByteArray) (h : n ∉ pre.map (·.1)) : dOf (pre ++ [(n, s)]) = put (dOf pre) n (cd s) := by
  funext i
  have hn := dOf_none.2 h
  unfold dOf at hn ⊢
  rw [List.find?_append]
  by_cases e : i = n
  · subst e
    rw [put_same]
    rw [Option.map_eq_none_iff] at hn
    rw [hn]; simp
  · rw [put_other _ _ e]
    have : ([(n, s)] : List (Nat × ByteArray)).find? (fun x => x.1 == i) = none := by simp [Ne.symm e]
    rw [this, Option.or_none]

/-- A run comes to block i at its m-th block when it has made the choices s. -/
inductive Path (g : List Bl) (A : List Nat) : Nat → ByteArray → Nat → Prop where
  | start (ha : 0 ∉ A) : Path g A 0 ⟨#[]⟩ 1
  | jump {i t m : Nat} {s : ByteArray} (h : Path g A i s m) (hn : nxt g i = [t]) (ha : t ∉ A) : Path g A t s (m + 1)
  | left {i t u m : Nat} {s : ByteArray} (h : Path g A i s m) (hn : nxt g i = [t, u]) (ha : t ∉ A) : Path g A t (s ++ chL) (m + 1)
  | right {i t u m : Nat} {s : ByteArray} (h : Path g A i s m) (hn : nxt g i = [t, u]) (ha : u ∉ A) : Path g A u (s ++ chR) (m + 1)

/-- What is handed out next. -/
structure NextWay (g : List Bl) (A : List Nat) (pre : List (Nat × ByteArray)) (x : Nat × ByteArray) : Prop where
  best : Best g A x.1 (cd x.2)
  lr : lrS x.2 = true
  before : ∀ j c, Lab g A j c → c < cd x.2 → ∃ s, (j, s) ∈ pre
  lt : x.1 < g.length
  short : x.2.size < g.length
  path : ∃ m, m ≤ g.length ∧ Path g A x.1 x.2 m

def AllWays (g : List Bl) (A : List Nat) (xs : List (Nat × ByteArray)) : Prop := ∀ j c, Lab g A j c → ∃ s, (j, s) ∈ xs

/-- What holds at each time. -/
structure Known (g : List Bl) (A : List Nat) (pre qs : List (Nat × ByteArray)) : Prop where
  nodup : (pre.map (·.1)).Nodup
  lt : ∀ x ∈ pre, x.1 < g.length
  qlt : ∀ x ∈ qs, x.1 < g.length
  lr : ∀ x ∈ qs, lrS x.2 = true
  short : ∀ x ∈ qs, x.2.size ≤ pre.length
  paths : ∀ x ∈ qs, x.1 ∉ A → ∃ m, m ≤ pre.length + 1 ∧ Path g A x.1 x.2 m

theorem Known.len {g : List Bl} {A : List Nat} {pre qs : List (Nat × ByteArray)} (h : Known g A pre qs) : pre.length ≤ g.length := by
  have := nodup_lt_len g.length _ h.nodup fun i hi => by
    obtain ⟨x, hx, rfl⟩ := List.mem_map.1 hi
    exact h.lt x hx
  simpa using this

def codes (qs : List (Nat × ByteArray)) : List (Nat × Nat) := qs.map fun x => (x.1, cd x.2)

/-- Between two chains. -/
structure Outer (g : List Bl) (A : List Nat) (pre qs : List (Nat × ByteArray)) : Prop where
  known : Known g A pre qs
  seek : ∃ c0, Seek g A (dOf pre) (codes qs) c0

/-- Within a chain. -/
structure Inner (g : List Bl) (A : List Nat) (pre qs : List (Nat × ByteArray)) (n : Nat) (s : ByteArray) : Prop where
  known : Known g A pre qs
  chain : Chain g A (dOf pre) (codes qs) (cd s) n
  nlt : n < g.length
  slr : lrS s = true
  sshort : s.size ≤ pre.length
  spath : n ∉ A → ∃ m, m ≤ pre.length + 1 ∧ Path g A n s m

section
variable {g : List Bl} {A : List Nat} {pre qs : List (Nat × ByteArray)} {n : Nat} {s : ByteArray}

theorem Outer.first (hv : validB g = true) (A : List Nat) : Outer g A [] [(0, ⟨#[]⟩)] :=
  ⟨⟨by simp, by simp, fun x hx => by simp at hx; subst hx; exact (valid_iff.1 hv).1, fun x hx => by simp at hx; subst hx; rfl, fun x hx => by simp at hx; subst hx; simp [ByteArray.size], fun x hx ha => by simp at hx; subst hx; exact ⟨1, by simp, .start ha⟩⟩, 0, Seek.first g A⟩

theorem Outer.pop (h : Outer g A pre ((n, s) :: qs)) : Inner g A pre qs n s := by
  obtain ⟨k, c0, hs⟩ := h
  exact ⟨⟨k.nodup, k.lt, fun x hx => k.qlt x (by simp [hx]), fun x hx => k.lr x (by simp [hx]), fun x hx => k.short x (by simp [hx]), fun x hx => k.paths x (by simp [hx])⟩, hs.pop, k.qlt (n, s) (by simp), k.lr (n, s) (by simp), k.short (n, s) (by simp), k.paths (n, s) (by simp)⟩

theorem Inner.seen (h : Inner g A pre qs n s) (hn : n ∈ A ++ pre.map (·.1)) : Outer g A pre qs := by
  refine ⟨h.known, _, h.chain.seen ?_⟩
  rcases List.mem_append.1 hn with hn | hn
  · exact .inl hn
  · refine .inr ?_
    cases hd : dOf pre n with
    | none => exact absurd hn (dOf_none.1 hd)
    | some c => exact ⟨c, rfl⟩

theorem Inner.grow (h : Inner g A pre qs n s) (hn : n ∉ A ++ pre.map (·.1)) : Known g A (pre ++ [(n, s)]) qs := by
  have h2 : n ∉ pre.map (·.1) := fun e => hn (List.mem_append_right _ e)
  refine ⟨?_, fun x hx => ?_, h.known.qlt, h.known.lr, fun x hx => ?_, fun x hx ha => ?_⟩
  · rw [List.map_append]
    refine List.nodup_append.2 ⟨h.known.nodup, by simp, fun a ha b hb => ?_⟩
    simp at hb; subst hb
    intro e; subst e; exact h2 ha
  · rcases List.mem_append.1 hx with hx | hx
    · exact h.known.lt x hx
    · simp at hx; subst hx; exact h.nlt
  · have := h.known.short x hx
    rw [List.length_append]; omega
  · obtain ⟨m, hm, hp⟩ := h.known.paths x hx ha
    exact ⟨m, by rw [List.length_append]; omega, hp⟩

theorem Inner.next (h : Inner g A pre qs n s) (hn : n ∉ A ++ pre.map (·.1)) : NextWay g A pre (n, s) := by
  have h1 : n ∉ A := fun e => hn (List.mem_append_left _ e)
  have h2 : n ∉ pre.map (·.1) := fun e => hn (List.mem_append_right _ e)
  have hl := (h.grow hn).len
  rw [List.length_append] at hl
  simp only [List.length_cons, List.length_nil] at hl
  refine ⟨h.chain.best (dOf_none.2 h2) h1, h.slr, fun j c hj hc => ?_, h.nlt, ?_, ?_⟩
  · obtain ⟨c2, h3, _⟩ := h.chain.before j c hj hc
    obtain ⟨t, ht, _⟩ := dOf_some h3
    exact ⟨t, ht⟩
  · have := h.sshort; show s.size < g.length; omega
  · obtain ⟨m, hm, hp⟩ := h.spath h1
    exact ⟨m, by omega, hp⟩

theorem Inner.stop (h : Inner g A pre qs n s) (hn : n ∉ A ++ pre.map (·.1)) (h0 : nxt g n = []) : Outer g A (pre ++ [(n, s)]) qs := by
  have h1 : n ∉ A := fun e => hn (List.mem_append_left _ e)
  have h2 : n ∉ pre.map (·.1) := fun e => hn (List.mem_append_right _ e)
  refine ⟨h.grow hn, cd s, ?_⟩
  rw [dOf_snoc s h2]
  exact (h.chain.mark (dOf_none.2 h2) h1).1 h0

theorem Inner.jump (hv : validB g = true) (h : Inner g A pre qs n s) (hn : n ∉ A ++ pre.map (·.1)) {t : Nat} (h0 : nxt g n = [t]) : Inner g A (pre ++ [(n, s)]) qs t s := by
  have h1 : n ∉ A := fun e => hn (List.mem_append_left _ e)
  have h2 : n ∉ pre.map (·.1) := fun e => hn (List.mem_append_right _ e)
  refine ⟨h.grow hn, ?_, nxt_lt hv h.nlt (by rw [h0]; simp), h.slr, by have := h.sshort; rw [List.length_append]; omega, fun ha => ?_⟩
  · rw [dOf_snoc s h2]
    exact (h.chain.mark (dOf_none.2 h2) h1).2.1 t h0
  · obtain ⟨m, hm, hp⟩ := h.spath h1
    exact ⟨m + 1, by rw [List.length_append]; simp only [List.length_cons, List.length_nil]; omega, .jump hp h0 ha⟩

theorem Inner.branch (hv : validB g = true) (h : Inner g A pre qs n s) (hn : n ∉ A ++ pre.map (·.1)) {t u : Nat} (h0 : nxt g n = [t, u]) : Outer g A (pre ++ [(n, s)]) (qs ++ [(t, s ++ chL), (u, s ++ chR)]) := by
  have h1 : n ∉ A := fun e => hn (List.mem_append_left _ e)
  have h2 : n ∉ pre.map (·.1) := fun e => hn (List.mem_append_right _ e)
  have k := h.grow hn
  have hs := h.sshort
  have hz1 : (s ++ chL).size = s.size + 1 := by rw [ByteArray.size_append]; rfl
  have hz2 : (s ++ chR).size = s.size + 1 := by rw [ByteArray.size_append]; rfl
  obtain ⟨m, hm, hp⟩ := h.spath h1
  refine ⟨⟨k.nodup, k.lt, fun x hx => ?_, fun x hx => ?_, fun x hx => ?_, fun x hx ha => ?_⟩, cd s, ?_⟩
  · rcases List.mem_append.1 hx with hx | hx
    · exact k.qlt x hx
    · simp only [List.mem_cons, List.not_mem_nil, or_false] at hx
      rcases hx with rfl | rfl
      · exact nxt_lt hv h.nlt (by rw [h0]; simp)
      · exact nxt_lt hv h.nlt (by rw [h0]; simp)
  · rcases List.mem_append.1 hx with hx | hx
    · exact k.lr x hx
    · simp only [List.mem_cons, List.not_mem_nil, or_false] at hx
      rcases hx with rfl | rfl
      · exact lrS_l h.slr
      · exact lrS_r h.slr
  · rcases List.mem_append.1 hx with hx | hx
    · exact k.short x hx
    · simp only [List.mem_cons, List.not_mem_nil, or_false] at hx
      rw [List.length_append]
      rcases hx with rfl | rfl
      · show (s ++ chL).size ≤ _
        rw [hz1]; simp only [List.length_cons, List.length_nil]; omega
      · show (s ++ chR).size ≤ _
        rw [hz2]; simp only [List.length_cons, List.length_nil]; omega
  · rcases List.mem_append.1 hx with hx | hx
    · exact k.paths x hx ha
    · simp only [List.mem_cons, List.not_mem_nil, or_false] at hx
      rw [List.length_append]
      simp only [List.length_cons, List.length_nil]
      rcases hx with rfl | rfl
      · exact ⟨m + 1, by omega, .left hp h0 ha⟩
      · exact ⟨m + 1, by omega, .right hp h0 ha⟩
  · rw [dOf_snoc s h2]
    have := (h.chain.mark (dOf_none.2 h2) h1).2.2 t u h0
    have e : codes (qs ++ [(t, s ++ chL), (u, s ++ chR)]) = codes qs ++ [(t, 2 * cd s), (u, 2 * cd s + 1)] := by
      unfold codes; rw [List.map_append]; simp only [List.map_cons, List.map_nil, cd_l, cd_r]
    rw [e]; exact this

theorem Outer.done (h : Outer g A pre []) : AllWays g A pre := by
  obtain ⟨_, c0, hs⟩ := h
  intro j c hj
  cases hd : dOf pre j with
  | none => exact absurd hj (hs.done.2 j hd c)
  | some c' =>
    obtain ⟨t, ht, _⟩ := dOf_some hd
    exact ⟨t, ht⟩
end

/-- What the search for the first of those that are wanted answers. -/
def FirstWay (g : List Bl) (A : List Nat) (P : Nat → Prop) (s : ByteArray) (ok : Bool) : Prop :=
  (ok = true ∧ lrS s = true ∧ s.size < g.length ∧ ∃ i, P i ∧ Best g A i (cd s) ∧ ∀ j c, P j → Lab g A j c → cd s ≤ c) ∨ (ok = false ∧ s = ⟨#[]⟩ ∧ ∀ j c, P j → ¬ Lab g A j c)

theorem FirstWay.unique {g : List Bl} {A : List Nat} {P : Nat → Prop} {s s' : ByteArray} {ok ok' : Bool} (h : FirstWay g A P s ok) (h' : FirstWay g A P s' ok') : s = s' ∧ ok = ok' := by
  rcases h with ⟨rfl, h1, _, i, hi, hb, hm⟩ | ⟨rfl, rfl, hn⟩ <;> rcases h' with ⟨rfl, h1', _, i', hi', hb', hm'⟩ | ⟨rfl, rfl, hn'⟩
  · exact ⟨cd_inj h1 h1' (Nat.le_antisymm (hm _ _ hi' hb'.1) (hm' _ _ hi hb.1)), rfl⟩
  · exact absurd hb.1 (hn' _ _ hi)
  · exact absurd hb'.1 (hn _ _ hi')
  · exact ⟨rfl, rfl⟩

theorem FirstWay.same {g : List Bl} {A : List Nat} {P Q : Nat → Prop} {s : ByteArray} {ok : Bool} (h : FirstWay g A P s ok) (e : ∀ i, (∃ c, Lab g A i c) → (P i ↔ Q i)) : FirstWay g A Q s ok := by
  rcases h with ⟨rfl, h1, h2, i, hi, hb, hm⟩ | ⟨rfl, rfl, hn⟩
  · exact .inl ⟨rfl, h1, h2, i, (e i ⟨_, hb.1⟩).1 hi, hb, fun j c hj hl => hm j c ((e j ⟨c, hl⟩).2 hj) hl⟩
  · exact .inr ⟨rfl, rfl, fun j c hj hl => hn j c ((e j ⟨c, hl⟩).2 hj) hl⟩

/-- The first one that is wanted, behind those that were not. -/
theorem first_hit {g : List Bl} {A : List Nat} {P : Nat → Prop} {pre : List (Nat × ByteArray)} {x : Nat × ByteArray} (hp : ∀ y ∈ pre, ¬ P y.1) (hx : NextWay g A pre x) (hP : P x.1) : FirstWay g A P x.2 true :=
  .inl ⟨rfl, hx.lr, hx.short, x.1, hP, hx.best, fun j c hj hl => by
    rcases Nat.lt_or_ge c (cd x.2) with h | h
    · obtain ⟨s, hs⟩ := hx.before j c hl h
      exact absurd hj (hp _ hs)
    · exact h⟩

/-- With the choices that were found a run comes to a wanted one soon. -/
def SoonAt (g : List Bl) (A : List Nat) (P : Nat → Prop) (s : ByteArray) (ok : Bool) : Prop := ok = true → ∃ i m, P i ∧ Best g A i (cd s) ∧ m ≤ g.length ∧ Path g A i s m

theorem soon_hit {g : List Bl} {A : List Nat} {P : Nat → Prop} {pre : List (Nat × ByteArray)} {x : Nat × ByteArray} (hx : NextWay g A pre x) (hP : P x.1) : SoonAt g A P x.2 true := fun _ => by
  obtain ⟨m, hm, hp⟩ := hx.path
  exact ⟨x.1, m, hP, hx.best, hm, hp⟩

theorem soon_none (g : List Bl) (A : List Nat) (P : Nat → Prop) (s : ByteArray) : SoonAt g A P s false := fun h => by cases h

theorem first_none {g : List Bl} {A : List Nat} {P : Nat → Prop} {xs : List (Nat × ByteArray)} (hp : ∀ y ∈ xs, ¬ P y.1) (hx : AllWays g A xs) : FirstWay g A P ⟨#[]⟩ false :=
  .inr ⟨rfl, rfl, fun j c hj hl => by
    obtain ⟨s, hs⟩ := hx j c hl
    exact hp _ hs hj⟩

end Go.Proofs.YtdpjdhllaokbfaaGreat

/-
  The search of the model: passes over all jumps until nothing gets better: plain facts.
-/
namespace Go.Proofs.YtdpjdhllaokbfaaGreat
open Go.RowKit Go.Sort

/-- The choices behind jump k of m. -/
def wayc (m k : Nat) (s : ByteArray) : ByteArray := if m = 2 then s ++ (if k = 0 then chL else chR) else s

theorem wayc_one {m : Nat} (h : m ≠ 2) (k : Nat) (s : ByteArray) : wayc m k s = s := by unfold wayc; rw [if_neg h]
theorem wayc_l (s : ByteArray) : wayc 2 0 s = s ++ chL := rfl
theorem wayc_r (s : ByteArray) : wayc 2 1 s = s ++ chR := rfl

/-- The choices that are known, for each block. -/
abbrev Sg := Nat → Option ByteArray
def atS (σ : Sg) (i : Nat) : ByteArray := (σ i).getD ⟨#[]⟩
def putS (σ : Sg) (t : Nat) (s : ByteArray) : Sg := fun i => if i = t then some s else σ i
theorem putS_same (σ : Sg) (t : Nat) (s : ByteArray) : putS σ t s t = some s := by simp [putS]
theorem putS_other (σ : Sg) {t i : Nat} (s : ByteArray) (h : i ≠ t) : putS σ t s i = σ i := by simp [putS, h]
theorem atS_some {σ : Sg} {i : Nat} {s : ByteArray} (h : σ i = some s) : atS σ i = s := by simp [atS, h]
theorem atS_none {σ : Sg} {i : Nat} (h : σ i = none) : atS σ i = ⟨#[]⟩ := by simp [atS, h]

/-- How many have some, and what is left to get better. -/
def cnt (σ : Sg) : Nat → Nat
  | 0 => 0
  | n + 1 => cnt σ n + if (σ n).isSome then 1 else 0
def phi : Option ByteArray → Nat
  | none => 134217728
  | some s => cd s
def pot (σ : Sg) : Nat → Nat
  | 0 => 0
  | n + 1 => pot σ n + phi (σ n)

theorem cnt_le (σ : Sg) : ∀ n, cnt σ n ≤ n
  | 0 => Nat.le_refl 0
  | n + 1 => by have := cnt_le σ n; unfold cnt; split <;> omega

theorem cnt_put_out (σ : Sg) (t : Nat) (s : ByteArray) : ∀ n, n ≤ t → cnt (putS σ t s) n = cnt σ n
  | 0, _ => rfl
  | n + 1, h => by unfold cnt; rw [cnt_put_out σ t s n (by omega), putS_other σ s (by omega)]

theorem cnt_put_old (σ : Sg) (t : Nat) (s : ByteArray) (h : (σ t).isSome = true) : ∀ n, cnt (putS σ t s) n = cnt σ n
  | 0 => rfl
  | n + 1 => by
    unfold cnt
    rw [cnt_put_old σ t s h n]
    by_cases e : n = t
    · subst e; rw [putS_same, h]; rfl
    · rw [putS_other σ s e]

theorem cnt_put_new (σ : Sg) (t : Nat) (s : ByteArray) (h : (σ t).isSome = false) : ∀ n, t < n → cnt (putS σ t s) n = cnt σ n + 1
  | 0, hn => absurd hn (by omega)
  | n + 1, hn => by
    unfold cnt
    by_cases e : n = t
    · subst e; rw [cnt_put_out σ n s n (Nat.le_refl _), putS_same, h]; rfl
    · rw [cnt_put_new σ t s h n (by omega), putS_other σ s e]; omega

theorem pot_put_out (σ : Sg) (t : Nat) (s : ByteArray) : ∀ n, n ≤ t → pot (putS σ t s) n = pot σ n
  | 0, _ => rfl
  | n + 1, h => by unfold pot; rw [pot_put_out σ t s n (by omega), putS_other σ s (by omega)]

theorem pot_put (σ : Sg) (t : Nat) (s : ByteArray) : ∀ n, t < n → pot (putS σ t s) n + phi (σ t) = pot σ n + cd s
  | 0, hn => absurd hn (by omega)
  | n + 1, hn => by
    unfold pot
    by_cases e : n = t
    · subst e; rw [pot_put_out σ n s n (Nat.le_refl _), putS_same]; show _ + cd s + _ = _; omega
    · have := pot_put σ t s n (by omega)
      rw [putS_other σ s e]; omega

/-- What is known is so. -/
structure Sound (g : List Bl) (A : List Nat) (σ : Sg) : Prop where
  ok : ∀ i s, σ i = some s → Lab g A i (cd s) ∧ lrS s = true ∧ cd s < 2 ^ cnt σ g.length
  zero : 0 ∉ A → ∃ s, σ 0 = some s ∧ cd s ≤ 1

def beginS (A : List Nat) : Sg := fun i => if i = 0 ∧ 0 ∉ A then some ⟨#[]⟩ else none

theorem cnt_pos {σ : Sg} {i : Nat} (h : (σ i).isSome = true) : ∀ n, i < n → 1 ≤ cnt σ n
  | 0, hn => absurd hn (by omega)
  | n + 1, hn => by
    unfold cnt
    by_cases e : n = i
    · subst e; rw [if_pos h]; omega
    · have := cnt_pos h n (by omega); omega

theorem Sound.begin {g : List Bl} (hv : validB g = true) (A : List Nat) : Sound g A (beginS A) := by
  refine ⟨fun i s h => ?_, fun ha => ⟨⟨#[]⟩, by simp [beginS, ha], by rw [cd_nil]; exact Nat.le_refl _⟩⟩
  have hh := h
  unfold beginS at h
  split at h
  · rename_i hc
    obtain rfl := Option.some.inj h
    obtain ⟨rfl, ha⟩ := hc
    refine ⟨.start ha, rfl, ?_⟩
    have h1 := cnt_pos (σ := beginS A) (i := 0) (by rw [hh]; rfl) g.length (valid_iff.1 hv).1
    have h2 : 2 ^ 1 ≤ 2 ^ cnt (beginS A) g.length := Nat.pow_le_pow_right (by decide) h1
    rw [cd_nil]; omega
  · cases h

theorem Sound.small {g : List Bl} {A : List Nat} {σ : Sg} (h : Sound g A σ) (h26 : g.length ≤ 26) {i : Nat} {s : ByteArray} (hi : σ i = some s) : cd s < 67108864 ∧ s.size < g.length := by
  have h1 := (h.ok i s hi).2.2
  have h2 : 2 ^ cnt σ g.length ≤ 2 ^ 26 := Nat.pow_le_pow_right (by decide) (by have := cnt_le σ g.length; omega)
  have h3 : cd s < 67108864 := by omega
  refine ⟨h3, ?_⟩
  have h4 := cd_size s
  rcases Nat.lt_or_ge s.size g.length with h5 | h5
  · exact h5
  · have h6 : 2 ^ cnt σ g.length ≤ 2 ^ s.size := Nat.pow_le_pow_right (by decide) (by have := cnt_le σ g.length; omega)
    omega

/-- A jump that makes nothing better. -/
def Sat (g : List Bl) (A : List Nat) (σ : Sg) (i k : Nat) : Prop :=
  ∀ s t, σ i = some s → (nxt g i)[k]? = some t → t ∉ A → ∃ s', σ t = some s' ∧ cd s' ≤ cd (wayc (nxt g i).length k s)

/-- Within a pass that began with σ0: jumps before k of block i have been looked at; b: something got better. -/
structure Pass (g : List Bl) (A : List Nat) (σ0 σ : Sg) (b : Bool) (i k : Nat) : Prop where
  sound : Sound g A σ
  no : b = false → σ = σ0 ∧ ∀ i' k', (i' < i ∨ i' = i ∧ k' < k) → Sat g A σ i' k'
  yes : b = true → pot σ g.length < pot σ0 g.length

section
variable {g : List Bl} {A : List Nat} {σ0 σ : Sg} {b : Bool} {i k t : Nat}

theorem Pass.start (h : Sound g A σ) : Pass g A σ σ false 0 0 := ⟨h, fun _ => ⟨rfl, fun i' k' h => by omega⟩, fun h => by cases h⟩

theorem Pass.line (h : Pass g A σ0 σ b i (nxt g i).length) : Pass g A σ0 σ b (i + 1) 0 := by
  refine ⟨h.sound, fun hb => ⟨(h.no hb).1, fun i' k' hk => ?_⟩, h.yes⟩
  by_cases e : i' < i
  · exact (h.no hb).2 i' k' (.inl e)
  · obtain rfl : i' = i := by omega
    by_cases e2 : k' < (nxt g i').length
    · exact (h.no hb).2 i' k' (.inr ⟨rfl, e2⟩)
    · intro s t _ ht
      rw [List.getElem?_eq_none (by omega)] at ht; cases ht

theorem Pass.one (h : Pass g A σ0 σ b i k) (hs : Sat g A σ i k) : Pass g A σ0 σ b i (k + 1) := by
  refine ⟨h.sound, fun hb => ⟨(h.no hb).1, fun i' k' hk => ?_⟩, h.yes⟩
  by_cases e : i' = i ∧ k' = k
  · rw [e.1, e.2]; exact hs
  · exact (h.no hb).2 i' k' (by omega)

/-- Nothing gets better: block i has none, or t is to be avoided, or has better ones. -/
theorem Pass.skip (h : Pass g A σ0 σ b i k) (ht : (nxt g i)[k]? = some t) (hc : σ i = none ∨ t ∈ A ∨ ∃ s s', σ i = some s ∧ σ t = some s' ∧ cd s' ≤ cd (wayc (nxt g i).length k s)) : Pass g A σ0 σ b i (k + 1) := by
  refine h.one fun s t' hs ht' ha => ?_
  rw [ht] at ht'
  obtain rfl := Option.some.inj ht'
  rcases hc with hc | hc | ⟨s1, s', h1, h2, h3⟩
  · rw [hc] at hs; cases hs
  · exact absurd hc ha
  · rw [h1] at hs
    obtain rfl := Option.some.inj hs
    exact ⟨s', h2, h3⟩

theorem nxt_in (hv : validB g = true) (hi : i < g.length) (ht : (nxt g i)[k]? = some t) : t < g.length := nxt_lt hv hi (List.mem_of_getElem? ht)

theorem lab_way (hv : validB g = true) (hi : i < g.length) {s : ByteArray} (hl : Lab g A i (cd s)) (hr : lrS s = true) (ht : (nxt g i)[k]? = some t) (ha : t ∉ A) :
    Lab g A t (cd (wayc (nxt g i).length k s)) ∧ lrS (wayc (nxt g i).length k s) = true ∧ cd (wayc (nxt g i).length k s) ≤ 2 * cd s + 1 := by
  have hp := cd_pos s
  rcases goes hv hi with ⟨h, _⟩ | ⟨p, _, h, _⟩ | ⟨p, q, _, _, h, _⟩
  · rw [h] at ht; cases ht
  · rw [h] at ht
    obtain ⟨rfl, rfl⟩ : k = 0 ∧ p = t := by
      cases k with
      | zero => exact ⟨rfl, Option.some.inj ht⟩
      | succ k => cases ht
    rw [h, wayc_one (by simp)]
    exact ⟨.jump hl h ha, hr, by omega⟩
  · rw [h] at ht ⊢
    cases k with
    | zero =>
      obtain rfl := Option.some.inj ht
      show Lab g A p (cd (s ++ chL)) ∧ lrS (s ++ chL) = true ∧ cd (s ++ chL) ≤ _
      rw [cd_l]
      exact ⟨.left hl h ha, lrS_l hr, by omega⟩
    | succ k =>
      cases k with
      | zero =>
        obtain rfl := Option.some.inj ht
        show Lab g A q (cd (s ++ chR)) ∧ lrS (s ++ chR) = true ∧ cd (s ++ chR) ≤ _
        rw [cd_r]
        exact ⟨.right hl h ha, lrS_r hr, Nat.le_refl _⟩
      | succ k => cases ht

/-- Something gets better. -/
theorem Pass.better (hv : validB g = true) (h : Pass g A σ0 σ b i k) {s : ByteArray} (hi : σ i = some s) (ht : (nxt g i)[k]? = some t) (ha : t ∉ A)
    (hc : σ t = none ∨ ∃ s', σ t = some s' ∧ cd (wayc (nxt g i).length k s) < cd s') : Pass g A σ0 (putS σ t (wayc (nxt g i).length k s)) true i (k + 1) := by
  have h26 := (valid_iff.1 hv).2.1
  obtain ⟨hl, hr, h1⟩ := h.sound.ok i s hi
  have hil := hl.lt hv
  have htl := nxt_in hv hil ht
  obtain ⟨w1, w2, w3⟩ := lab_way hv hil hl hr ht ha
  obtain ⟨w, hw⟩ : ∃ w, w = wayc (nxt g i).length k s := ⟨_, rfl⟩
  rw [← hw] at w1 w2 w3 hc ⊢
  have hbig : 2 ^ cnt σ g.length ≤ 2 ^ 26 := Nat.pow_le_pow_right (by decide) (by have := cnt_le σ g.length; omega)
  have hpot := pot_put σ t w g.length htl
  have hle0 : pot σ g.length ≤ pot σ0 g.length := by
    cases b with
    | false => rw [(h.no rfl).1]; exact Nat.le_refl _
    | true => have := h.yes rfl; omega
  have hlow : cd w < phi (σ t) := by
    rcases hc with hc | ⟨s', hc, hlt⟩
    · rw [hc]; show cd w < 134217728; omega
    · rw [hc]; exact hlt
  refine ⟨⟨fun j u hj => ?_, fun h0 => ?_⟩, fun hb => (by cases hb), fun _ => by omega⟩
  · by_cases e : j = t
    · subst e
      rw [putS_same] at hj
      obtain rfl := Option.some.inj hj
      refine ⟨w1, w2, ?_⟩
      rcases hc with hc | ⟨s', hc, hlt⟩
      · rw [cnt_put_new σ j _ (by rw [hc]; rfl) _ htl, Nat.pow_succ]; omega
      · rw [cnt_put_old σ j _ (by rw [hc]; rfl)]
        have := (h.sound.ok j s' hc).2.2; omega
    · rw [putS_other _ _ e] at hj
      obtain ⟨a1, a2, a3⟩ := h.sound.ok j u hj
      refine ⟨a1, a2, Nat.lt_of_lt_of_le a3 (Nat.pow_le_pow_right (by decide) ?_)⟩
      rcases hc with hc | ⟨s', hc, _⟩
      · rw [cnt_put_new σ t _ (by rw [hc]; rfl) _ htl]; omega
      · rw [cnt_put_old σ t _ (by rw [hc]; rfl)]; exact Nat.le_refl _
  · obtain ⟨u, hu, hu1⟩ := h.sound.zero h0
    by_cases e : 0 = t
    · subst e
      rcases hc with hc | ⟨s', hc, hlt⟩
      · rw [hc] at hu; cases hu
      · rw [hc] at hu
        obtain rfl := Option.some.inj hu
        exact ⟨w, putS_same _ _ _, by omega⟩
    · exact ⟨u, by rw [putS_other _ _ e]; exact hu, hu1⟩

/-- What is known in the end. -/
structure Final (g : List Bl) (A : List Nat) (σ : Sg) : Prop where
  some_ : ∀ i s, σ i = some s → lrS s = true ∧ s.size < g.length ∧ Best g A i (cd s)
  none_ : ∀ i, σ i = none → ∀ c, ¬ Lab g A i c

theorem Pass.final (hv : validB g = true) (h : Pass g A σ0 σ false g.length 0) : Final g A σ := by
  have h26 := (valid_iff.1 hv).2.1
  have hs := (h.no rfl).2
  have inv : ∀ {i c}, (σ i).map cd = some c → ∃ s, σ i = some s ∧ cd s = c := fun h => Option.map_eq_some_iff.1 h
  obtain ⟨c1, c2⟩ := closed_best (g := g) (A := A) (d := fun i => (σ i).map cd) (fun i c hi => by
      obtain ⟨s, h1, rfl⟩ := inv hi
      exact (h.sound.ok i s h1).1) (fun h0 => by
      obtain ⟨s, h1, h2⟩ := h.sound.zero h0
      exact ⟨cd s, by rw [h1]; rfl, h2⟩) (fun i c t hi hn ha => by
      obtain ⟨s, h1, rfl⟩ := inv hi
      have hil := (h.sound.ok i s h1).1.lt hv
      obtain ⟨s', h2, h3⟩ := hs i 0 (.inl hil) s t h1 (by rw [hn]; rfl) ha
      rw [hn, wayc_one (by simp)] at h3
      exact ⟨cd s', by rw [h2]; rfl, h3⟩) (fun i c t u hi hn => by
      obtain ⟨s, h1, rfl⟩ := inv hi
      have hil := (h.sound.ok i s h1).1.lt hv
      refine ⟨fun ha => ?_, fun ha => ?_⟩
      · obtain ⟨s', h2, h3⟩ := hs i 0 (.inl hil) s t h1 (by rw [hn]; rfl) ha
        rw [hn] at h3
        exact ⟨cd s', by rw [h2]; rfl, by rw [← cd_l]; exact h3⟩
      · obtain ⟨s', h2, h3⟩ := hs i 1 (.inl hil) s u h1 (by rw [hn]; rfl) ha
        rw [hn] at h3
        exact ⟨cd s', by rw [h2]; rfl, by rw [← cd_r]; exact h3⟩)
  exact ⟨fun i s hi => ⟨(h.sound.ok i s hi).2.1, (h.sound.small h26 hi).2, c1 i (cd s) (by rw [hi]; rfl)⟩, fun i hi => c2 i (by rw [hi]; rfl)⟩
end

/-- The one block that is wanted. -/
theorem Final.one {g : List Bl} {A : List Nat} {σ : Sg} (h : Final g A σ) (i : Nat) : FirstWay g A (fun j => j = i) (atS σ i) (σ i).isSome := by
  cases hi : σ i with
  | none => exact .inr ⟨rfl, atS_none hi, fun j c hj => by rw [hj]; exact h.none_ i hi c⟩
  | some s =>
    obtain ⟨h1, h2, h3⟩ := h.some_ i s hi
    rw [atS_some hi]
    exact .inl ⟨rfl, h1, h2, i, rfl, h3, fun j c hj hl => by rw [hj] at hl; exact h3.2 c hl⟩

/-- The best of those before block i that stop. -/
abbrev StopBefore (g : List Bl) (i : Nat) : Nat → Prop := fun j => j < i ∧ nxt g j = []

theorem stops_start (g : List Bl) (A : List Nat) : FirstWay g A (StopBefore g 0) ⟨#[]⟩ false := .inr ⟨rfl, rfl, fun j c hj => by have := hj.1; omega⟩

theorem stops_skip {g : List Bl} {A : List Nat} {i : Nat} {s : ByteArray} {ok : Bool} (h : FirstWay g A (StopBefore g i) s ok) (hn : nxt g i ≠ []) : FirstWay g A (StopBefore g (i + 1)) s ok :=
  h.same fun j _ => ⟨fun e => ⟨by omega, e.2⟩, fun e => ⟨by
    rcases Nat.lt_or_ge j i with h | h
    · exact h
    · obtain rfl : j = i := by omega
      exact absurd e.2 hn, e.2⟩⟩

theorem stops_none {g : List Bl} {A : List Nat} {σ : Sg} (hf : Final g A σ) {i : Nat} {s : ByteArray} {ok : Bool} (h : FirstWay g A (StopBefore g i) s ok) (hn : σ i = none) : FirstWay g A (StopBefore g (i + 1)) s ok :=
  h.same fun j hj => ⟨fun e => ⟨by omega, e.2⟩, fun e => ⟨by
    rcases Nat.lt_or_ge j i with h | h
    · exact h
    · obtain rfl : j = i := by omega
      obtain ⟨c, hc⟩ := hj
      exact absurd hc (hf.none_ j hn c), e.2⟩⟩

theorem stops_worse {g : List Bl} {A : List Nat} {σ : Sg} (hf : Final g A σ) {i : Nat} {s t : ByteArray} (h : FirstWay g A (StopBefore g i) s true) (hi : σ i = some t) (hc : cd s ≤ cd t) : FirstWay g A (StopBefore g (i + 1)) s true := by
  rcases h with ⟨_, h1, h2, j, hj, hb, hm⟩ | ⟨h, _⟩
  · refine .inl ⟨rfl, h1, h2, j, ⟨by have := hj.1; omega, hj.2⟩, hb, fun k c hk hl => ?_⟩
    rcases Nat.lt_or_ge k i with h | h
    · exact hm k c ⟨h, hk.2⟩ hl
    · obtain rfl : k = i := by have := hk.1; omega
      have := (hf.some_ k t hi).2.2.2 c hl; omega
  · cases h

theorem stops_better {g : List Bl} {A : List Nat} {σ : Sg} (hf : Final g A σ) {i : Nat} {s t : ByteArray} {ok : Bool} (h : FirstWay g A (StopBefore g i) s ok) (hi : σ i = some t) (hn : nxt g i = []) (hc : ok = true → cd t < cd s) : FirstWay g A (StopBefore g (i + 1)) t true := by
  obtain ⟨h1, h2, h3⟩ := hf.some_ i t hi
  refine .inl ⟨rfl, h1, h2, i, ⟨by omega, hn⟩, h3, fun k c hk hl => ?_⟩
  rcases Nat.lt_or_ge k i with hlt | hge
  · rcases h with ⟨rfl, _, _, _, _, _, hm⟩ | ⟨_, _, hno⟩
    · have := hm k c ⟨hlt, hk.2⟩ hl
      have := hc rfl; omega
    · exact absurd hl (hno k c ⟨hlt, hk.2⟩)
  · obtain rfl : k = i := by have := hk.1; omega
    exact h3.2 c hl

end Go.Proofs.YtdpjdhllaokbfaaGreat

/-
  What can be come to without coming by some blocks: plain facts.
-/
namespace Go.Proofs.YtdpjdhllaokbfaaGreat
open Go.RowKit Go.Sort

/-- What can be come to, and not by A. -/
inductive Rch (g : List Bl) (A : List Nat) : Nat → Prop where
  | start (ha : 0 ∉ A) : Rch g A 0
  | step {i t : Nat} (h : Rch g A i) (hn : t ∈ nxt g i) (ha : t ∉ A) : Rch g A t

theorem Rch.out {g : List Bl} {A : List Nat} {i : Nat} (h : Rch g A i) : i ∉ A := by
  cases h with
  | start ha => exact ha
  | step _ _ ha => exact ha

theorem Rch.lt {g : List Bl} {A : List Nat} (hv : validB g = true) {i : Nat} (h : Rch g A i) : i < g.length := by
  induction h with
  | start _ => exact (valid_iff.1 hv).1
  | step _ hn _ ih => exact nxt_lt hv ih hn

theorem Lab.rch {g : List Bl} {A : List Nat} {i c : Nat} (h : Lab g A i c) : Rch g A i := by
  induction h with
  | start ha => exact .start ha
  | jump _ hn ha ih => exact .step ih (by rw [hn]; simp) ha
  | left _ hn ha ih => exact .step ih (by rw [hn]; simp) ha
  | right _ hn ha ih => exact .step ih (by rw [hn]; simp) ha

theorem Rch.lab {g : List Bl} {A : List Nat} (hv : validB g = true) {i : Nat} (h : Rch g A i) : ∃ c, Lab g A i c := by
  induction h with
  | start ha => exact ⟨1, .start ha⟩
  | step h0 hn ha ih =>
    obtain ⟨c, hc⟩ := ih
    rcases goes hv (h0.lt hv) with ⟨h, _⟩ | ⟨p, _, h, _⟩ | ⟨p, q, _, _, h, _⟩
    · rw [h] at hn; simp at hn
    · rw [h] at hn
      obtain rfl : _ = p := by simpa using hn
      exact ⟨c, .jump hc h ha⟩
    · rw [h] at hn
      simp only [List.mem_cons, List.not_mem_nil, or_false] at hn
      rcases hn with rfl | rfl
      · exact ⟨_, .left hc h ha⟩
      · exact ⟨_, .right hc h ha⟩

def stepW (A o ts : List Nat) : List Nat := ts.foldl (fun o t => if t ∈ o ∨ t ∈ A then o else o ++ [t]) o

theorem stepW_nil (A o : List Nat) : stepW A o [] = o := rfl
theorem stepW_cons (A o : List Nat) (t : Nat) (ts : List Nat) : stepW A o (t :: ts) = stepW A (if t ∈ o ∨ t ∈ A then o else o ++ [t]) ts := rfl
theorem stepW_snoc (A o : List Nat) (t : Nat) (ts : List Nat) : stepW A o (ts ++ [t]) = if t ∈ stepW A o ts ∨ t ∈ A then stepW A o ts else stepW A o ts ++ [t] := by
  unfold stepW; rw [List.foldl_append]; rfl

theorem stepW_prefix (A ts : List Nat) : ∀ o, o <+: stepW A o ts := by
  induction ts with
  | nil => intro o; exact List.prefix_refl _
  | cons t ts ih =>
    intro o
    rw [stepW_cons]
    split
    · exact ih o
    · exact (List.prefix_append o [t]).trans (ih _)

theorem stepW_mem (A ts : List Nat) : ∀ o x, x ∈ stepW A o ts ↔ x ∈ o ∨ (x ∈ ts ∧ x ∉ A) := by
  induction ts with
  | nil => intro o x; simp [stepW_nil]
  | cons t ts ih =>
    intro o x
    rw [stepW_cons, ih]
    split
    · rename_i h
      constructor
      · rintro (h1 | h1)
        · exact .inl h1
        · exact .inr ⟨by simp [h1.1], h1.2⟩
      · rintro (h1 | ⟨h1, h2⟩)
        · exact .inl h1
        · rcases List.mem_cons.1 h1 with rfl | h1
          · exact h.elim .inl fun h => absurd h h2
          · exact .inr ⟨h1, h2⟩
    · rename_i h
      rw [List.mem_append, List.mem_singleton, List.mem_cons]
      constructor
      · rintro ((h1 | rfl) | ⟨h1, h2⟩)
        · exact .inl h1
        · exact .inr ⟨.inl rfl, fun e => h (.inr e)⟩
        · exact .inr ⟨.inr h1, h2⟩
      · rintro (h1 | ⟨rfl | h1, h2⟩)
        · exact .inl (.inl h1)
        · exact .inl (.inr rfl)
        · exact .inr ⟨h1, h2⟩

theorem stepW_nodup (A ts : List Nat) : ∀ o, o.Nodup → (stepW A o ts).Nodup := by
  induction ts with
  | nil => intro o h; exact h
  | cons t ts ih =>
    intro o h
    rw [stepW_cons]
    split
    · exact ih o h
    · rename_i hn
      refine ih _ (List.nodup_append.2 ⟨h, by simp, fun a ha b hb => ?_⟩)
      simp at hb; subst hb
      intro e; subst e; exact hn (.inl ha)

/-- Blocks in the order in which they are found, when those of k of them have been looked at. -/
def bfsW (g : List Bl) (A : List Nat) : Nat → List Nat
  | 0 => [0]
  | k + 1 => match (bfsW g A k)[k]? with
    | none => bfsW g A k
    | some n => stepW A (bfsW g A k) (nxt g n)

section
variable {g : List Bl} {A : List Nat}

theorem bfsW_step {k : Nat} (h : k < (bfsW g A k).length) : bfsW g A (k + 1) = stepW A (bfsW g A k) (nxt g (bfsW g A k)[k]) := by
  simp only [bfsW, List.getElem?_eq_getElem h]

theorem bfsW_stay {k : Nat} (h : (bfsW g A k).length ≤ k) : bfsW g A (k + 1) = bfsW g A k := by
  simp only [bfsW, List.getElem?_eq_none h]

theorem bfsW_nodup : ∀ k, (bfsW g A k).Nodup
  | 0 => by simp [bfsW]
  | k + 1 => by
    by_cases h : k < (bfsW g A k).length
    · rw [bfsW_step h]; exact stepW_nodup _ _ _ (bfsW_nodup k)
    · rw [bfsW_stay (by omega)]; exact bfsW_nodup k

theorem bfsW_rch (h0 : 0 ∉ A) : ∀ k, ∀ x ∈ bfsW g A k, Rch g A x
  | 0, x, hx => by simp [bfsW] at hx; subst hx; exact .start h0
  | k + 1, x, hx => by
    have ih := bfsW_rch h0 k
    by_cases h : k < (bfsW g A k).length
    · rw [bfsW_step h, stepW_mem] at hx
      rcases hx with hx | hx
      · exact ih x hx
      · exact .step (ih _ (List.getElem_mem h)) hx.1 hx.2
    · rw [bfsW_stay (by omega)] at hx; exact ih x hx

theorem bfsW_lt (hv : validB g = true) (h0 : 0 ∉ A) (k : Nat) : ∀ x ∈ bfsW g A k, x < g.length := fun x hx => (bfsW_rch h0 k x hx).lt hv

theorem bfsW_len (hv : validB g = true) (h0 : 0 ∉ A) (k : Nat) : (bfsW g A k).length ≤ g.length := nodup_lt_len _ _ (bfsW_nodup k) (bfsW_lt hv h0 k)

theorem bfsW_prefix (k : Nat) : bfsW g A k <+: bfsW g A (k + 1) := by
  by_cases h : k < (bfsW g A k).length
  · rw [bfsW_step h]; exact stepW_prefix _ _ _
  · rw [bfsW_stay (by omega)]; exact List.prefix_refl _

theorem bfsW_more {k : Nat} (h : (bfsW g A k).length ≤ k) : ∀ m, bfsW g A (k + m) = bfsW g A k
  | 0 => rfl
  | m + 1 => by
    have ih := bfsW_more h m
    rw [← Nat.add_assoc, bfsW_stay (by rw [ih]; omega), ih]

theorem bfsW_prefixes (k : Nat) : ∀ m, bfsW g A k <+: bfsW g A (k + m)
  | 0 => List.prefix_refl _
  | m + 1 => (bfsW_prefixes k m).trans (bfsW_prefix (k + m))

/-- What those before place k go on to is there. -/
theorem bfsW_closed : ∀ (k j : Nat), j < k → ∀ x, (bfsW g A k)[j]? = some x → ∀ t ∈ nxt g x, t ∉ A → t ∈ bfsW g A k
  | 0, j, h, _, _, _, _, _ => absurd h (by omega)
  | k + 1, j, h, x, hx, t, ht, ha => by
    have hp := bfsW_prefix (g := g) (A := A) k
    by_cases hj : j < k
    · by_cases hl : j < (bfsW g A k).length
      · have e : (bfsW g A k)[j]? = some x := by
          obtain ⟨r, hr⟩ := hp
          rw [← hr, List.getElem?_append_left hl] at hx; exact hx
        exact hp.subset (bfsW_closed k j hj x e t ht ha)
      · rw [bfsW_stay (by omega), List.getElem?_eq_none (by omega)] at hx; cases hx
    · obtain rfl : j = k := by omega
      by_cases hl : j < (bfsW g A j).length
      · have e : (bfsW g A j)[j] = x := by
          obtain ⟨r, hr⟩ := hp
          rw [← hr, List.getElem?_append_left hl, List.getElem?_eq_getElem hl] at hx
          exact Option.some.inj hx
        rw [bfsW_step hl, stepW_mem, e]
        exact .inr ⟨ht, ha⟩
      · rw [bfsW_stay (by omega), List.getElem?_eq_none (by omega)] at hx; cases hx
end

/-- All that can be come to, in the order in which it is found. -/
def reachW (g : List Bl) (A : List Nat) : List Nat := if 0 ∈ A then [] else bfsW g A g.length

theorem reachW_no {g : List Bl} {A : List Nat} (h : 0 ∈ A) : reachW g A = [] := by unfold reachW; rw [if_pos h]
theorem reachW_yes {g : List Bl} {A : List Nat} (h : 0 ∉ A) : reachW g A = bfsW g A g.length := by unfold reachW; rw [if_neg h]

theorem reachW_done {g : List Bl} {A : List Nat} (h0 : 0 ∉ A) {k : Nat} (hk : k ≤ g.length) (h : (bfsW g A k).length ≤ k) : bfsW g A k = reachW g A := by
  have := bfsW_more h (g.length - k)
  rw [reachW_yes h0, ← this]; congr 1; omega

theorem mem_reachW {g : List Bl} (hv : validB g = true) {A : List Nat} {j : Nat} : j ∈ reachW g A ↔ Rch g A j := by
  by_cases h0 : 0 ∈ A
  · rw [reachW_no h0]
    constructor
    · intro h; simp at h
    · intro h
      have : ∀ {i}, Rch g A i → False := fun h => by
        induction h with
        | start ha => exact ha h0
        | step _ _ _ ih => exact ih
      exact (this h).elim
  · rw [reachW_yes h0]
    refine ⟨bfsW_rch h0 _ j, fun h => ?_⟩
    induction h with
    | start _ =>
      have := bfsW_prefixes (g := g) (A := A) 0 g.length
      rw [Nat.zero_add] at this
      exact this.subset (by simp [bfsW])
    | step _ hn ha ih =>
      obtain ⟨k, hk, e⟩ := List.getElem_of_mem ih
      have := bfsW_len hv h0 g.length
      exact bfsW_closed g.length k (by omega) _ (by rw [List.getElem?_eq_getElem hk, e]) _ hn ha

theorem reachW_lt {g : List Bl} (hv : validB g = true) {A : List Nat} : ∀ x ∈ reachW g A, x < g.length := fun _ hx => ((mem_reachW hv).1 hx).lt hv
theorem reachW_len {g : List Bl} (hv : validB g = true) (A : List Nat) : (reachW g A).length ≤ g.length := by
  by_cases h0 : 0 ∈ A
  · rw [reachW_no h0]; simp
  · rw [reachW_yes h0]; exact bfsW_len hv h0 _

/-- With nothing to avoid it is the same. -/
theorem mem_reach {g : List Bl} (hv : validB g = true) {j : Nat} : j ∈ reach g ↔ Rch g [] j := by
  have : ∀ k, bfs g k = bfsW g [] k := by
    intro k
    induction k with
    | zero => rfl
    | succ k ih =>
      have e : ∀ o ts, stepL o ts = stepW [] o ts := by
        intro o ts; unfold stepL stepW; congr 1; funext o t; simp
      by_cases h : k < (bfs g k).length
      · rw [bfs_step h, bfsW_step (by rw [← ih]; exact h), e]
        congr 1
        · congr 1; simp only [ih]
      · rw [bfs_stay (by omega), bfsW_stay (by rw [← ih]; omega), ih]
  rw [← mem_reachW hv, reachW_yes (by simp), reach, this]

theorem Rch.mono {g : List Bl} {A B : List Nat} (h : ∀ x ∈ B, x ∈ A) {i : Nat} (hi : Rch g A i) : Rch g B i := by
  induction hi with
  | start ha => exact .start fun e => ha (h _ e)
  | step _ hn ha ih => exact .step ih hn fun e => ha (h _ e)

end Go.Proofs.YtdpjdhllaokbfaaGreat
