/-
  The choices that lead to a block, as numbers; which ones are the least: plain facts.
-/
import Derived.Test.YteodlcgmncchpaaReach
import Derived.Test.YteodlcgmncchpaaChoices
import Derived.Deep.LoopGhost
namespace Go.Proofs.Yteodlcgmncchpaa
open Go.RowKit Go.Sort

/-- Choices as a number: a leading 1, then 0 for l and 1 for r. -/
def code (s : List UInt8) : Nat := s.foldl (fun n c => 2 * n + (if c = 108 then 0 else 1)) 1

theorem code_nil : code [] = 1 := rfl
theorem code_l (s : List UInt8) : code (s ++ [108]) = 2 * code s := by simp [code]
theorem code_r (s : List UInt8) : code (s ++ [114]) = 2 * code s + 1 := by simp [code]
theorem isLR_nil : isLR [] = true := rfl
theorem isLR_l {s : List UInt8} (h : isLR s = true) : isLR (s ++ [108]) = true := by simp [isLR] at h ⊢; exact h
theorem isLR_r {s : List UInt8} (h : isLR s = true) : isLR (s ++ [114]) = true := by simp [isLR] at h ⊢; exact h

theorem code_from (s : List UInt8) : ∀ n, s.foldl (fun n c => 2 * n + (if (c : UInt8) = 108 then 0 else 1)) n = n * 2 ^ s.length + (s.foldl (fun n c => 2 * n + (if (c : UInt8) = 108 then 0 else 1)) 0) := by
  induction s with
  | nil => intro n; simp
  | cons c s ih =>
    intro n
    simp only [List.foldl_cons, List.length_cons]
    generalize (if c = 108 then 0 else 1) = b
    rw [ih (2 * n + b), ih (2 * 0 + b), Nat.pow_succ]
    generalize 2 ^ s.length = p
    have h1 : (2 * n + b) * p = n * (p * 2) + b * p := by rw [Nat.add_mul, Nat.mul_comm p 2, ← Nat.mul_assoc, Nat.mul_comm n 2]
    have h2 : (2 * 0 + b) * p = b * p := by simp
    omega

def tailCode (s : List UInt8) : Nat := s.foldl (fun n c => 2 * n + (if (c : UInt8) = 108 then 0 else 1)) 0

theorem code_eq (s : List UInt8) : code s = 2 ^ s.length + tailCode s := by
  unfold code tailCode
  rw [code_from]; omega

theorem tailCode_cons (c : UInt8) (s : List UInt8) : tailCode (c :: s) = (if c = 108 then 0 else 2 ^ s.length) + tailCode s := by
  unfold tailCode
  simp only [List.foldl_cons]
  rw [code_from]
  split <;> omega

theorem tailCode_lt (s : List UInt8) : tailCode s < 2 ^ s.length := by
  induction s with
  | nil => simp [tailCode]
  | cons c s ih => rw [tailCode_cons, List.length_cons, Nat.pow_succ]; split <;> omega

theorem code_pos (s : List UInt8) : 1 ≤ code s := by rw [code_eq]; have := Nat.pow_pos (n := s.length) (show 0 < 2 by decide); omega

theorem code_shorter {s t : List UInt8} (h : s.length < t.length) : code s < code t := by
  rw [code_eq, code_eq]
  have h1 := tailCode_lt s
  have h2 : 2 ^ (s.length + 1) ≤ 2 ^ t.length := Nat.pow_le_pow_right (by decide) h
  rw [Nat.pow_succ] at h2
  omega

theorem code_inj : ∀ {s t : List UInt8}, isLR s = true → isLR t = true → code s = code t → s = t := by
  have key : ∀ (s t : List UInt8), s.length = t.length → isLR s = true → isLR t = true → tailCode s = tailCode t → s = t := by
    intro s
    induction s with
    | nil => intro t hl _ _ _; exact (List.eq_nil_of_length_eq_zero hl.symm).symm
    | cons c s ih =>
      intro t hl hs ht h
      cases t with
      | nil => simp at hl
      | cons d t =>
        have hl' : s.length = t.length := by simpa using hl
        rw [tailCode_cons, tailCode_cons, hl'] at h
        have b1 := tailCode_lt s
        have b2 := tailCode_lt t
        rw [hl'] at b1
        simp only [isLR, List.all_cons, Bool.and_eq_true, Bool.or_eq_true, beq_iff_eq] at hs ht
        rcases hs.1 with rfl | rfl <;> rcases ht.1 with rfl | rfl
        · rw [ih t hl' hs.2 ht.2 (by simpa using h)]
        · simp at h; omega
        · simp at h; omega
        · rw [ih t hl' hs.2 ht.2 (by simpa using h)]
  intro s t hs ht h
  have hl : s.length = t.length := by
    rcases Nat.lt_trichotomy s.length t.length with hlt | e | hlt
    · have := code_shorter hlt; omega
    · exact e
    · have := code_shorter hlt; omega
  refine key s t hl hs ht ?_
  rw [code_eq, code_eq, hl] at h; omega

/-- The order of the numbers is that of the choices. -/
theorem code_lex : ∀ {s t : List UInt8}, s.length = t.length → isLR s = true → isLR t = true → (code s < code t ↔ s < t) := by
  have key : ∀ (s t : List UInt8), s.length = t.length → isLR s = true → isLR t = true → (tailCode s < tailCode t ↔ s < t) := by
    intro s
    induction s with
    | nil =>
      intro t hl _ _
      rw [(List.eq_nil_of_length_eq_zero hl.symm)]
      simp
    | cons c s ih =>
      intro t hl hs ht
      cases t with
      | nil => simp at hl
      | cons d t =>
        have hl' : s.length = t.length := by simpa using hl
        have b1 := tailCode_lt s
        have b2 := tailCode_lt t
        rw [hl'] at b1
        simp only [isLR, List.all_cons, Bool.and_eq_true, Bool.or_eq_true, beq_iff_eq] at hs ht
        rw [tailCode_cons, tailCode_cons, hl', List.cons_lt_cons_iff]
        have i := ih t hl' hs.2 ht.2
        rcases hs.1 with rfl | rfl <;> rcases ht.1 with rfl | rfl
        · rw [← i]; simp
        · constructor
          · intro _; exact .inl (by decide)
          · intro _; simp; omega
        · constructor
          · intro h; simp at h; omega
          · rintro (h | h)
            · exact absurd h (by decide)
            · exact absurd h.1 (by decide)
        · rw [← i]; simp
  intro s t hl hs ht
  rw [code_eq, code_eq, hl, ← key s t hl hs ht]
  omega

/-- With choices of this number a run comes to a block, and by none of A. -/
inductive Lab (g : List Bl) (A : List Nat) : Nat → Nat → Prop where
  | start (ha : 0 ∉ A) : Lab g A 0 1
  | jump {i c t : Nat} (h : Lab g A i c) (hn : nxt g i = [t]) (ha : t ∉ A) : Lab g A t c
  | left {i c t u : Nat} (h : Lab g A i c) (hn : nxt g i = [t, u]) (ha : t ∉ A) : Lab g A t (2 * c)
  | right {i c t u : Nat} (h : Lab g A i c) (hn : nxt g i = [t, u]) (ha : u ∉ A) : Lab g A u (2 * c + 1)

theorem Lab.pos {g : List Bl} {A : List Nat} {i c : Nat} (h : Lab g A i c) : 1 ≤ c := by
  induction h with
  | start _ => exact Nat.le_refl 1
  | jump _ _ _ ih => exact ih
  | left _ _ _ ih => omega
  | right _ _ _ ih => omega

theorem Lab.lt {g : List Bl} {A : List Nat} (hv : validB g = true) {i c : Nat} (h : Lab g A i c) : i < g.length := by
  induction h with
  | start _ => exact (valid_iff.1 hv).1
  | jump _ hn _ ih => exact nxt_lt hv ih (by rw [hn]; simp)
  | left _ hn _ ih => exact nxt_lt hv ih (by rw [hn]; simp)
  | right _ hn _ ih => exact nxt_lt hv ih (by rw [hn]; simp)

theorem Lab.out {g : List Bl} {A : List Nat} {i c : Nat} (h : Lab g A i c) : i ∉ A := by
  cases h with
  | start ha => exact ha
  | jump _ _ ha => exact ha
  | left _ _ ha => exact ha
  | right _ _ ha => exact ha

/-- The least number. -/
def Best (g : List Bl) (A : List Nat) (i c : Nat) : Prop := Lab g A i c ∧ ∀ c', Lab g A i c' → c ≤ c'

theorem Best.unique {g : List Bl} {A : List Nat} {i c c' : Nat} (h : Best g A i c) (h' : Best g A i c') : c = c' := Nat.le_antisymm (h.2 _ h'.1) (h'.2 _ h.1)

open Classical in
theorem best_of_lab {g : List Bl} {A : List Nat} {i c : Nat} (h : Lab g A i c) : ∃ c', Best g A i c' := by
  obtain ⟨c', h1, h2⟩ := exists_least (p := fun c => Lab g A i c) ⟨c, h⟩
  exact ⟨c', h1, h2⟩

/-- Numbers that nothing shortens are the least ones. -/
theorem closed_best {g : List Bl} {A : List Nat} {d : Nat → Option Nat} (hl : ∀ i c, d i = some c → Lab g A i c) (h0 : 0 ∉ A → ∃ c, d 0 = some c ∧ c ≤ 1)
    (hj : ∀ i c t, d i = some c → nxt g i = [t] → t ∉ A → ∃ c', d t = some c' ∧ c' ≤ c)
    (hb : ∀ i c t u, d i = some c → nxt g i = [t, u] → (t ∉ A → ∃ c', d t = some c' ∧ c' ≤ 2 * c) ∧ (u ∉ A → ∃ c', d u = some c' ∧ c' ≤ 2 * c + 1)) :
    (∀ i c, d i = some c → Best g A i c) ∧ (∀ i, d i = none → ∀ c, ¬ Lab g A i c) := by
  have key : ∀ i c, Lab g A i c → ∃ c', d i = some c' ∧ c' ≤ c := by
    intro i c h
    induction h with
    | start ha => exact h0 ha
    | jump _ hn ha ih =>
      obtain ⟨c', h1, h2⟩ := ih
      obtain ⟨c2, h3, h4⟩ := hj _ _ _ h1 hn ha
      exact ⟨c2, h3, by omega⟩
    | left _ hn ha ih =>
      obtain ⟨c', h1, h2⟩ := ih
      obtain ⟨c2, h3, h4⟩ := (hb _ _ _ _ h1 hn).1 ha
      exact ⟨c2, h3, by omega⟩
    | right _ hn ha ih =>
      obtain ⟨c', h1, h2⟩ := ih
      obtain ⟨c2, h3, h4⟩ := (hb _ _ _ _ h1 hn).2 ha
      exact ⟨c2, h3, by omega⟩
  refine ⟨fun i c h => ⟨hl i c h, fun c' h' => ?_⟩, fun i h c hc => ?_⟩
  · obtain ⟨c2, h1, h2⟩ := key i c' h'
    rw [h] at h1
    obtain rfl := Option.some.inj h1
    exact h2
  · obtain ⟨c', h1, _⟩ := key i c hc
    rw [h] at h1; cases h1

/-! ### The search by a queue -/

/-- The queue of a search: what has its number, what is to come, and the number that was looked at last. -/
structure Seek (g : List Bl) (A : List Nat) (d : Nat → Option Nat) (q : List (Nat × Nat)) (c0 : Nat) : Prop where
  lab : ∀ i c, d i = some c → Lab g A i c ∧ c ≤ c0
  qlab : ∀ x ∈ q, x.1 ∉ A → Lab g A x.1 x.2
  up : q.Pairwise fun x y => x.2 < y.2
  bound : ∀ x ∈ q, c0 < x.2 ∧ x.2 ≤ 2 * c0 + 1
  start : 0 ∉ A → (∃ c, d 0 = some c ∧ c ≤ 1) ∨ (0, 1) ∈ q
  jump : ∀ i c t, d i = some c → nxt g i = [t] → t ∉ A → ∃ c', d t = some c' ∧ c' ≤ c
  branch : ∀ i c t u, d i = some c → nxt g i = [t, u] → (t ∉ A → (∃ c', d t = some c' ∧ c' ≤ 2 * c) ∨ (t, 2 * c) ∈ q) ∧ (u ∉ A → (∃ c', d u = some c' ∧ c' ≤ 2 * c + 1) ∨ (u, 2 * c + 1) ∈ q)

theorem Seek.first (g : List Bl) (A : List Nat) : Seek g A (fun _ => none) [(0, 1)] 0 where
  lab := fun _ _ h => by cases h
  qlab := fun x hx ha => by simp at hx; subst hx; exact .start ha
  up := by simp
  bound := fun x hx => by simp at hx; subst hx; simp
  start := fun _ => .inr (by simp)
  jump := fun _ _ _ h => by cases h
  branch := fun _ _ _ _ h => by cases h

theorem Seek.done {g : List Bl} {A : List Nat} {d : Nat → Option Nat} {c0 : Nat} (h : Seek g A d [] c0) : (∀ i c, d i = some c → Best g A i c) ∧ (∀ i, d i = none → ∀ c, ¬ Lab g A i c) := by
  refine closed_best (fun i c hi => (h.lab i c hi).1) (fun ha => (h.start ha).elim id fun h => by simp at h) h.jump fun i c t u hi hn => ?_
  obtain ⟨h1, h2⟩ := h.branch i c t u hi hn
  exact ⟨fun ha => (h1 ha).elim id fun h => by simp at h, fun ha => (h2 ha).elim id fun h => by simp at h⟩

/-- Within a chain of jumps: block n is at hand with number c; the numbers before c are settled. -/
structure Chain (g : List Bl) (A : List Nat) (d : Nat → Option Nat) (q : List (Nat × Nat)) (c n : Nat) : Prop where
  lab : ∀ i c', d i = some c' → Lab g A i c' ∧ c' ≤ c
  here : n ∉ A → Lab g A n c
  pos : 1 ≤ c
  qlab : ∀ x ∈ q, x.1 ∉ A → Lab g A x.1 x.2
  up : q.Pairwise fun x y => x.2 < y.2
  bound : ∀ x ∈ q, c < x.2 ∧ x.2 < 2 * c
  start : 0 ∉ A → (∃ c', d 0 = some c' ∧ c' ≤ 1) ∨ (0 = n ∧ c = 1)
  jump : ∀ i c' t, d i = some c' → nxt g i = [t] → t ∉ A → (∃ c2, d t = some c2 ∧ c2 ≤ c') ∨ (t = n ∧ c' = c)
  branch : ∀ i c' t u, d i = some c' → nxt g i = [t, u] → (t ∉ A → (∃ c2, d t = some c2 ∧ c2 ≤ 2 * c') ∨ (t, 2 * c') ∈ q ∨ (t = n ∧ 2 * c' = c)) ∧ (u ∉ A → (∃ c2, d u = some c2 ∧ c2 ≤ 2 * c' + 1) ∨ (u, 2 * c' + 1) ∈ q ∨ (u = n ∧ 2 * c' + 1 = c))

theorem Seek.pop {g : List Bl} {A : List Nat} {d : Nat → Option Nat} {x : Nat × Nat} {q : List (Nat × Nat)} {c0 : Nat} (h : Seek g A d (x :: q) c0) : Chain g A d q x.2 x.1 := by
  have hb := h.bound x (by simp)
  have hu := List.pairwise_cons.1 h.up
  refine ⟨fun i c' hi => ?_, h.qlab x (by simp), by omega, fun y hy => h.qlab y (by simp [hy]), hu.2, fun y hy => ⟨hu.1 y hy, ?_⟩, fun ha => ?_, fun i c' t hi hn ha => .inl (h.jump i c' t hi hn ha), fun i c' t u hi hn => ?_⟩
  · have := h.lab i c' hi; exact ⟨this.1, by omega⟩
  · have := (h.bound y (by simp [hy])).2; omega
  · rcases h.start ha with hs | hs
    · exact .inl hs
    · rcases List.mem_cons.1 hs with e | e
      · exact .inr (by rw [← e]; exact ⟨rfl, rfl⟩)
      · have h2 := hu.1 _ e
        exact absurd h2 (by simp; omega)
  · obtain ⟨h1, h2⟩ := h.branch i c' t u hi hn
    refine ⟨fun ha => ?_, fun ha => ?_⟩
    · rcases h1 ha with h1 | h1
      · exact .inl h1
      · rcases List.mem_cons.1 h1 with e | e
        · exact .inr (.inr (by rw [← e]; exact ⟨rfl, rfl⟩))
        · exact .inr (.inl e)
    · rcases h2 ha with h2 | h2
      · exact .inl h2
      · rcases List.mem_cons.1 h2 with e | e
        · exact .inr (.inr (by rw [← e]; exact ⟨rfl, rfl⟩))
        · exact .inr (.inl e)

/-- The block at hand has its number already, or is to be avoided. -/
theorem Chain.seen {g : List Bl} {A : List Nat} {d : Nat → Option Nat} {q : List (Nat × Nat)} {c n : Nat} (h : Chain g A d q c n) (hn : n ∈ A ∨ ∃ c1, d n = some c1) : Seek g A d q c := by
  have hn' : n ∉ A → ∃ c1, d n = some c1 ∧ c1 ≤ c := fun ha => by
    rcases hn with hn | ⟨c1, hn⟩
    · exact absurd hn ha
    · exact ⟨c1, hn, (h.lab n c1 hn).2⟩
  refine ⟨h.lab, h.qlab, h.up, fun x hx => ?_, fun ha => ?_, fun i c' t hi ht ha => ?_, fun i c' t u hi ht => ?_⟩
  · have := h.bound x hx; omega
  · rcases h.start ha with h | ⟨rfl, rfl⟩
    · exact .inl h
    · exact .inl (hn' ha)
  · rcases h.jump i c' t hi ht ha with h | ⟨rfl, rfl⟩
    · exact h
    · exact hn' ha
  · obtain ⟨a, b⟩ := h.branch i c' t u hi ht
    refine ⟨fun ha => ?_, fun ha => ?_⟩
    · rcases a ha with a | a | ⟨rfl, e⟩
      · exact .inl a
      · exact .inr a
      · obtain ⟨c1, h1, h2⟩ := hn' ha
        exact .inl ⟨c1, h1, by omega⟩
    · rcases b ha with b | b | ⟨rfl, e⟩
      · exact .inl b
      · exact .inr b
      · obtain ⟨c1, h1, h2⟩ := hn' ha
        exact .inl ⟨c1, h1, by omega⟩

/-- The numbers before the one at hand are settled. -/
theorem Chain.before {g : List Bl} {A : List Nat} {d : Nat → Option Nat} {q : List (Nat × Nat)} {c n : Nat} (h : Chain g A d q c n) : ∀ i c', Lab g A i c' → c' < c → ∃ c2, d i = some c2 ∧ c2 ≤ c' := by
  intro i c' hl
  induction hl with
  | start ha =>
    intro hlt
    rcases h.start ha with h | ⟨_, e⟩
    · exact h
    · omega
  | jump _ hn ha ih =>
    intro hlt
    obtain ⟨c2, h1, h2⟩ := ih hlt
    rcases h.jump _ _ _ h1 hn ha with ⟨c3, h3, h4⟩ | ⟨_, e⟩
    · exact ⟨c3, h3, by omega⟩
    · omega
  | left h0 hn ha ih =>
    intro hlt
    have := h0.pos
    obtain ⟨c2, h1, h2⟩ := ih (by omega)
    rcases (h.branch _ _ _ _ h1 hn).1 ha with ⟨c3, h3, h4⟩ | h3 | ⟨_, e⟩
    · exact ⟨c3, h3, by omega⟩
    · have := (h.bound _ h3).1; simp at this; omega
    · omega
  | right h0 hn ha ih =>
    intro hlt
    have := h0.pos
    obtain ⟨c2, h1, h2⟩ := ih (by omega)
    rcases (h.branch _ _ _ _ h1 hn).2 ha with ⟨c3, h3, h4⟩ | h3 | ⟨_, e⟩
    · exact ⟨c3, h3, by omega⟩
    · have := (h.bound _ h3).1; simp at this; omega
    · omega

/-- A block that had no number gets its least one. -/
theorem Chain.best {g : List Bl} {A : List Nat} {d : Nat → Option Nat} {q : List (Nat × Nat)} {c n : Nat} (h : Chain g A d q c n) (hn : d n = none) (ha : n ∉ A) : Best g A n c := by
  refine ⟨h.here ha, fun c' hc' => ?_⟩
  rcases Nat.lt_or_ge c' c with hlt | hge
  · obtain ⟨c2, h1, _⟩ := h.before n c' hc' hlt
    rw [hn] at h1; cases h1
  · exact hge

def put (d : Nat → Option Nat) (n c : Nat) : Nat → Option Nat := fun i => if i = n then some c else d i
theorem put_same (d : Nat → Option Nat) (n c : Nat) : put d n c n = some c := by simp [put]
theorem put_other (d : Nat → Option Nat) {n i : Nat} (c : Nat) (h : i ≠ n) : put d n c i = d i := by simp [put, h]
theorem put_old {d : Nat → Option Nat} {n c i c' : Nat} (hn : d n = none) (h : d i = some c') : put d n c i = some c' := by
  rw [put_other]; exact h; intro e; rw [e, hn] at h; cases h

/-- It gets it; what it goes on to is looked at next, or waits. -/
theorem Chain.mark {g : List Bl} {A : List Nat} {d : Nat → Option Nat} {q : List (Nat × Nat)} {c n : Nat} (h : Chain g A d q c n) (hn : d n = none) (hna : n ∉ A) :
    (nxt g n = [] → Seek g A (put d n c) q c) ∧ (∀ t, nxt g n = [t] → Chain g A (put d n c) q c t) ∧ (∀ t u, nxt g n = [t, u] → Seek g A (put d n c) (q ++ [(t, 2 * c), (u, 2 * c + 1)]) c) := by
  have hhere := h.here hna
  have hlab : ∀ i c', put d n c i = some c' → Lab g A i c' ∧ c' ≤ c := by
    intro i c' hi
    by_cases e : i = n
    · subst e; rw [put_same] at hi; obtain rfl := Option.some.inj hi; exact ⟨hhere, Nat.le_refl _⟩
    · rw [put_other d c e] at hi; exact h.lab i c' hi
  have old : ∀ {t m : Nat}, (∃ c2, d t = some c2 ∧ c2 ≤ m) → ∃ c2, put d n c t = some c2 ∧ c2 ≤ m := fun ⟨c2, h1, h2⟩ => ⟨c2, put_old hn h1, h2⟩
  have hpos := h.pos
  have hstart : 0 ∉ A → ∃ c', put d n c 0 = some c' ∧ c' ≤ 1 := fun ha => by
    rcases h.start ha with h | ⟨e, e2⟩
    · exact old h
    · exact ⟨c, by rw [e]; exact put_same d n c, by omega⟩
  refine ⟨fun h0 => ?_, fun t ht => ?_, fun t u ht => ?_⟩
  · refine ⟨hlab, h.qlab, h.up, fun x hx => by have := h.bound x hx; omega, fun ha => .inl (hstart ha), fun i c' t hi ht ha => ?_, fun i c' t u hi ht => ?_⟩
    · by_cases e : i = n
      · subst e; rw [h0] at ht; cases ht
      · rw [put_other d c e] at hi
        rcases h.jump i c' t hi ht ha with h1 | ⟨rfl, rfl⟩
        · exact old h1
        · exact ⟨c', put_same d t c', Nat.le_refl _⟩
    · by_cases e : i = n
      · subst e; rw [h0] at ht; cases ht
      · rw [put_other d c e] at hi
        obtain ⟨a, b⟩ := h.branch i c' t u hi ht
        refine ⟨fun ha => ?_, fun ha => ?_⟩
        · rcases a ha with a | a | ⟨rfl, e⟩
          · exact .inl (old a)
          · exact .inr a
          · exact .inl ⟨c, put_same d t c, by omega⟩
        · rcases b ha with b | b | ⟨rfl, e⟩
          · exact .inl (old b)
          · exact .inr b
          · exact .inl ⟨c, put_same d u c, by omega⟩
  · refine ⟨hlab, fun ha => .jump hhere ht ha, hpos, h.qlab, h.up, h.bound, fun ha => .inl (hstart ha), fun i c' t' hi ht' ha => ?_, fun i c' t' u hi ht' => ?_⟩
    · by_cases e : i = n
      · subst e
        rw [put_same] at hi
        obtain rfl := Option.some.inj hi
        rw [ht] at ht'; injection ht' with e1 _
        exact .inr ⟨e1.symm, rfl⟩
      · rw [put_other d c e] at hi
        rcases h.jump i c' t' hi ht' ha with h1 | ⟨rfl, rfl⟩
        · exact .inl (old h1)
        · exact .inl ⟨c', put_same d t' c', Nat.le_refl _⟩
    · by_cases e : i = n
      · subst e; rw [ht] at ht'; cases ht'
      · rw [put_other d c e] at hi
        obtain ⟨a, b⟩ := h.branch i c' t' u hi ht'
        refine ⟨fun ha => ?_, fun ha => ?_⟩
        · rcases a ha with a | a | ⟨rfl, e⟩
          · exact .inl (old a)
          · exact .inr (.inl a)
          · exact .inl ⟨c, put_same d t' c, by omega⟩
        · rcases b ha with b | b | ⟨rfl, e⟩
          · exact .inl (old b)
          · exact .inr (.inl b)
          · exact .inl ⟨c, put_same d u c, by omega⟩
  · refine ⟨hlab, fun x hx => ?_, ?_, fun x hx => ?_, fun ha => .inl (hstart ha), fun i c' t' hi ht' ha => ?_, fun i c' t' u' hi ht' => ?_⟩
    · rcases List.mem_append.1 hx with hx | hx
      · exact h.qlab x hx
      · simp only [List.mem_cons, List.not_mem_nil, or_false] at hx
        rcases hx with rfl | rfl
        · exact fun ha => .left hhere ht ha
        · exact fun ha => .right hhere ht ha
    · refine List.pairwise_append.2 ⟨h.up, by simp, fun x hx y hy => ?_⟩
      have hb := h.bound x hx
      simp only [List.mem_cons, List.not_mem_nil, or_false] at hy
      rcases hy with rfl | rfl
      · exact hb.2
      · show x.2 < 2 * c + 1
        omega
    · rcases List.mem_append.1 hx with hx | hx
      · have := h.bound x hx; omega
      · simp only [List.mem_cons, List.not_mem_nil, or_false] at hx
        rcases hx with rfl | rfl
        · show c < 2 * c ∧ 2 * c ≤ 2 * c + 1
          omega
        · show c < 2 * c + 1 ∧ 2 * c + 1 ≤ 2 * c + 1
          omega
    · by_cases e : i = n
      · subst e; rw [ht] at ht'; cases ht'
      · rw [put_other d c e] at hi
        rcases h.jump i c' t' hi ht' ha with h1 | ⟨rfl, rfl⟩
        · exact old h1
        · exact ⟨c', put_same d t' c', Nat.le_refl _⟩
    · by_cases e : i = n
      · subst e
        rw [put_same] at hi
        obtain rfl := Option.some.inj hi
        rw [ht] at ht'
        injection ht' with e1 e2
        injection e2 with e2 _
        subst e1 e2
        exact ⟨fun _ => .inr (by simp), fun _ => .inr (by simp)⟩
      · rw [put_other d c e] at hi
        obtain ⟨a, b⟩ := h.branch i c' t' u' hi ht'
        refine ⟨fun ha => ?_, fun ha => ?_⟩
        · rcases a ha with a | a | ⟨rfl, e⟩
          · exact .inl (old a)
          · exact .inr (by simp [a])
          · exact .inl ⟨c, put_same d t' c, by omega⟩
        · rcases b ha with b | b | ⟨rfl, e⟩
          · exact .inl (old b)
          · exact .inr (by simp [b])
          · exact .inl ⟨c, put_same d u' c, by omega⟩

end Go.Proofs.Yteodlcgmncchpaa
