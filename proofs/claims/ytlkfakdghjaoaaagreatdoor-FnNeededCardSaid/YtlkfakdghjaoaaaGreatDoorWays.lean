import Derived.Test.YtlkfakdghjaoaaaGreatDoorJ4
import Derived.Deep.LoopGhost
namespace Go.Proofs.YtlkfakdghjaoaaaGreatDoor
open Go.RowKit Go.Sort
def code (s : List UInt8) : Nat := s.foldl (fun n c => 2 * n + (if c = 108 then 0 else 1)) 1
theorem F9 (s : List UInt8) : code (s ++ [108]) = 2 * code s := by simp [code]
theorem Ga (s : List UInt8) : code (s ++ [114]) = 2 * code s + 1 := by simp [code]
theorem Gb {s : List UInt8} (h : j4 s = true) : j4 (s ++ [108]) = true := by simp [j4] at h ⊢; exact h
theorem Gc {s : List UInt8} (h : j4 s = true) : j4 (s ++ [114]) = true := by simp [j4] at h ⊢; exact h
theorem CC (s : List UInt8) : ∀ n, s.foldl (fun n c => 2 * n + (if (c : UInt8) = 108 then 0 else 1)) n = n * 2 ^ s.length + (s.foldl (fun n c => 2 * n + (if (c : UInt8) = 108 then 0 else 1)) 0) := by
 induction s with
 | nil => intro n; simp
 | cons c s ih =>
  intro n
  simp only [List.foldl_cons, List.length_cons]
  generalize (if c = 108 then 0 else 1) = b
  rw [ih (2 * n + b), ih (2 * 0 + b), Nat.pow_succ]
  generalize 2 ^ s.length = p
  have h1 : (2 * n + b) * p = n * (p * 2) + b * p := by rw [Nat.add_mul, Nat.mul_comm p 2, ← Nat.mul_assoc, Nat.mul_comm n 2]
  have h2 : (2 * 0 + b) * p = b * p := by simp
  omega
def xd (s : List UInt8) : Nat := s.foldl (fun n c => 2 * n + (if (c : UInt8) = 108 then 0 else 1)) 0
theorem yU (s : List UInt8) : code s = 2 ^ s.length + xd s := by
 unfold code xd
 rw [CC]; omega
theorem D5 (s : List UInt8) : 1 ≤ code s := by rw [yU]; have := Nat.pow_pos (n := s.length) (show 0 < 2 by decide); omega
inductive Lab (g : List Bl) (A : List Nat) : Nat → Nat → Prop where
 | start (ha : 0 ∉ A) : Lab g A 0 1
 | jump {i c t : Nat} (h : Lab g A i c) (hn : ai g i = [t]) (ha : t ∉ A) : Lab g A t c
 | left {i c t u : Nat} (h : Lab g A i c) (hn : ai g i = [t, u]) (ha : t ∉ A) : Lab g A t (2 * c)
 | right {i c t u : Nat} (h : Lab g A i c) (hn : ai g i = [t, u]) (ha : u ∉ A) : Lab g A u (2 * c + 1)
theorem Lab.pos {g : List Bl} {A : List Nat} {i c : Nat} (h : Lab g A i c) : 1 ≤ c := by
 induction h with
 | start _ => exact Nat.le_refl 1
 | jump _ _ _ ih => exact ih
 | left _ _ _ ih => omega
 | right _ _ _ ih => omega
theorem Lab.lt {g : List Bl} {A : List Nat} (hv : aa g = true) {i c : Nat} (h : Lab g A i c) : i < g.length := by
 induction h with
 | start _ => exact (aj.1 hv).1
 | jump _ hn _ ih => exact bP hv ih (by rw [hn]; simp)
 | left _ hn _ ih => exact bP hv ih (by rw [hn]; simp)
 | right _ hn _ ih => exact bP hv ih (by rw [hn]; simp)
theorem Lab.out {g : List Bl} {A : List Nat} {i c : Nat} (h : Lab g A i c) : i ∉ A := by
 cases h with
 | start ha => exact ha
 | jump _ _ ha => exact ha
 | left _ _ ha => exact ha
 | right _ _ ha => exact ha
def sq (g : List Bl) (A : List Nat) (i c : Nat) : Prop := Lab g A i c ∧ ∀ c', Lab g A i c' → c ≤ c'
theorem yd {g : List Bl} {A : List Nat} {d : Nat → Option Nat} (hl : ∀ i c, d i = some c → Lab g A i c) (h0 : 0 ∉ A → ∃ c, d 0 = some c ∧ c ≤ 1)
  (hj : ∀ i c t, d i = some c → ai g i = [t] → t ∉ A → ∃ c', d t = some c' ∧ c' ≤ c)
  (hb : ∀ i c t u, d i = some c → ai g i = [t, u] → (t ∉ A → ∃ c', d t = some c' ∧ c' ≤ 2 * c) ∧ (u ∉ A → ∃ c', d u = some c' ∧ c' ≤ 2 * c + 1)) :
  (∀ i c, d i = some c → sq g A i c) ∧ (∀ i, d i = none → ∀ c, ¬ Lab g A i c) := by
 have key : ∀ i c, Lab g A i c → ∃ c', d i = some c' ∧ c' ≤ c := by
  intro i c h
  induction h with
  | start ha => exact h0 ha
  | jump _ hn ha ih =>
   obtain ⟨c', h1, h2⟩ := ih
   obtain ⟨c2, h3, h4⟩ := hj _ _ _ h1 hn ha
   exact ⟨c2, h3, by omega⟩
  | left _ hn ha ih =>
   obtain ⟨c', h1, h2⟩ := ih
   obtain ⟨c2, h3, h4⟩ := (hb _ _ _ _ h1 hn).1 ha
   exact ⟨c2, h3, by omega⟩
  | right _ hn ha ih =>
   obtain ⟨c', h1, h2⟩ := ih
   obtain ⟨c2, h3, h4⟩ := (hb _ _ _ _ h1 hn).2 ha
   exact ⟨c2, h3, by omega⟩
 refine ⟨fun i c h => ⟨hl i c h, fun c' h' => ?_⟩, fun i h c hc => ?_⟩
 ·obtain ⟨c2, h1, h2⟩ := key i c' h'
  rw [h] at h1
  obtain rfl := Option.some.inj h1
  exact h2
 ·obtain ⟨c', h1, _⟩ := key i c hc
  rw [h] at h1; cases h1
structure Seek (g : List Bl) (A : List Nat) (d : Nat → Option Nat) (q : List (Nat × Nat)) (c0 : Nat) : Prop where
 lab : ∀ i c, d i = some c → Lab g A i c ∧ c ≤ c0
 qlab : ∀ x ∈ q, x.1 ∉ A → Lab g A x.1 x.2
 up : q.Pairwise fun x y => x.2 < y.2
 bound : ∀ x ∈ q, c0 < x.2 ∧ x.2 ≤ 2 * c0 + 1
 start : 0 ∉ A → (∃ c, d 0 = some c ∧ c ≤ 1) ∨ (0, 1) ∈ q
 jump : ∀ i c t, d i = some c → ai g i = [t] → t ∉ A → ∃ c', d t = some c' ∧ c' ≤ c
 branch : ∀ i c t u, d i = some c → ai g i = [t, u] → (t ∉ A → (∃ c', d t = some c' ∧ c' ≤ 2 * c) ∨ (t, 2 * c) ∈ q) ∧ (u ∉ A → (∃ c', d u = some c' ∧ c' ≤ 2 * c + 1) ∨ (u, 2 * c + 1) ∈ q)
theorem Seek.first (g : List Bl) (A : List Nat) : Seek g A (fun _ => none) [(0, 1)] 0 where
 lab := fun _ _ h => by cases h
 qlab := fun x hx ha => by simp at hx; subst hx; exact .start ha
 up := by simp
 bound := fun x hx => by simp at hx; subst hx; simp
 start := fun _ => .inr (by simp)
 jump := fun _ _ _ h => by cases h
 branch := fun _ _ _ _ h => by cases h
theorem Seek.done {g : List Bl} {A : List Nat} {d : Nat → Option Nat} {c0 : Nat} (h : Seek g A d [] c0) : (∀ i c, d i = some c → sq g A i c) ∧ (∀ i, d i = none → ∀ c, ¬ Lab g A i c) := by
 refine yd (fun i c hi => (h.lab i c hi).1) (fun ha => (h.start ha).elim id fun h => by simp at h) h.jump fun i c t u hi hn => ?_
 obtain ⟨h1, h2⟩ := h.branch i c t u hi hn
 exact ⟨fun ha => (h1 ha).elim id fun h => by simp at h, fun ha => (h2 ha).elim id fun h => by simp at h⟩
structure Chain (g : List Bl) (A : List Nat) (d : Nat → Option Nat) (q : List (Nat × Nat)) (c n : Nat) : Prop where
 lab : ∀ i c', d i = some c' → Lab g A i c' ∧ c' ≤ c
 here : n ∉ A → Lab g A n c
 pos : 1 ≤ c
 qlab : ∀ x ∈ q, x.1 ∉ A → Lab g A x.1 x.2
 up : q.Pairwise fun x y => x.2 < y.2
 bound : ∀ x ∈ q, c < x.2 ∧ x.2 < 2 * c
 start : 0 ∉ A → (∃ c', d 0 = some c' ∧ c' ≤ 1) ∨ (0 = n ∧ c = 1)
 jump : ∀ i c' t, d i = some c' → ai g i = [t] → t ∉ A → (∃ c2, d t = some c2 ∧ c2 ≤ c') ∨ (t = n ∧ c' = c)
 branch : ∀ i c' t u, d i = some c' → ai g i = [t, u] → (t ∉ A → (∃ c2, d t = some c2 ∧ c2 ≤ 2 * c') ∨ (t, 2 * c') ∈ q ∨ (t = n ∧ 2 * c' = c)) ∧ (u ∉ A → (∃ c2, d u = some c2 ∧ c2 ≤ 2 * c' + 1) ∨ (u, 2 * c' + 1) ∈ q ∨ (u = n ∧ 2 * c' + 1 = c))
theorem Chain.seen {g : List Bl} {A : List Nat} {d : Nat → Option Nat} {q : List (Nat × Nat)} {c n : Nat} (h : Chain g A d q c n) (hn : n ∈ A ∨ ∃ c1, d n = some c1) : Seek g A d q c := by
 have hn' : n ∉ A → ∃ c1, d n = some c1 ∧ c1 ≤ c := fun ha => by
  rcases hn with hn | ⟨c1, hn⟩
  ·exact absurd hn ha
  ·exact ⟨c1, hn, (h.lab n c1 hn).2⟩
 refine ⟨h.lab, h.qlab, h.up, fun x hx => ?_, fun ha => ?_, fun i c' t hi ht ha => ?_, fun i c' t u hi ht => ?_⟩
 ·have := h.bound x hx; omega
 ·rcases h.start ha with h | ⟨rfl, rfl⟩
  ·exact .inl h
  ·exact .inl (hn' ha)
 ·rcases h.jump i c' t hi ht ha with h | ⟨rfl, rfl⟩
  ·exact h
  ·exact hn' ha
 ·obtain ⟨a, b⟩ := h.branch i c' t u hi ht
  refine ⟨fun ha => ?_, fun ha => ?_⟩
  ·rcases a ha with a | a | ⟨rfl, e⟩
   ·exact .inl a
   ·exact .inr a
   ·obtain ⟨c1, h1, h2⟩ := hn' ha
    exact .inl ⟨c1, h1, by omega⟩
  ·rcases b ha with b | b | ⟨rfl, e⟩
   ·exact .inl b
   ·exact .inr b
   ·obtain ⟨c1, h1, h2⟩ := hn' ha
    exact .inl ⟨c1, h1, by omega⟩
theorem Chain.before {g : List Bl} {A : List Nat} {d : Nat → Option Nat} {q : List (Nat × Nat)} {c n : Nat} (h : Chain g A d q c n) : ∀ i c', Lab g A i c' → c' < c → ∃ c2, d i = some c2 ∧ c2 ≤ c' := by
 intro i c' hl
 induction hl with
 | start ha =>
  intro hlt
  rcases h.start ha with h | ⟨_, e⟩
  ·exact h
  ·omega
 | jump _ hn ha ih =>
  intro hlt
  obtain ⟨c2, h1, h2⟩ := ih hlt
  rcases h.jump _ _ _ h1 hn ha with ⟨c3, h3, h4⟩ | ⟨_, e⟩
  ·exact ⟨c3, h3, by omega⟩
  ·omega
 | left h0 hn ha ih =>
  intro hlt
  have := h0.pos
  obtain ⟨c2, h1, h2⟩ := ih (by omega)
  rcases (h.branch _ _ _ _ h1 hn).1 ha with ⟨c3, h3, h4⟩ | h3 | ⟨_, e⟩
  ·exact ⟨c3, h3, by omega⟩
  ·have := (h.bound _ h3).1; simp at this; omega
  ·omega
 | right h0 hn ha ih =>
  intro hlt
  have := h0.pos
  obtain ⟨c2, h1, h2⟩ := ih (by omega)
  rcases (h.branch _ _ _ _ h1 hn).2 ha with ⟨c3, h3, h4⟩ | h3 | ⟨_, e⟩
  ·exact ⟨c3, h3, by omega⟩
  ·have := (h.bound _ h3).1; simp at this; omega
  ·omega
theorem Chain.best {g : List Bl} {A : List Nat} {d : Nat → Option Nat} {q : List (Nat × Nat)} {c n : Nat} (h : Chain g A d q c n) (hn : d n = none) (ha : n ∉ A) : sq g A n c := by
 refine ⟨h.here ha, fun c' hc' => ?_⟩
 rcases Nat.lt_or_ge c' c with hlt | hge
 ·obtain ⟨c2, h1, _⟩ := h.before n c' hc' hlt
  rw [hn] at h1; cases h1
 ·exact hge
def put (d : Nat → Option Nat) (n c : Nat) : Nat → Option Nat := fun i => if i = n then some c else d i
theorem dp (d : Nat → Option Nat) (n c : Nat) : put d n c n = some c := by simp [put]
theorem eH (d : Nat → Option Nat) {n i : Nat} (c : Nat) (h : i ≠ n) : put d n c i = d i := by simp [put, h]
theorem Fk {d : Nat → Option Nat} {n c i c' : Nat} (hn : d n = none) (h : d i = some c') : put d n c i = some c' := by
 rw [eH]; exact h; intro e; rw [e, hn] at h; cases h
theorem Chain.mark {g : List Bl} {A : List Nat} {d : Nat → Option Nat} {q : List (Nat × Nat)} {c n : Nat} (h : Chain g A d q c n) (hn : d n = none) (hna : n ∉ A) :
  (ai g n = [] → Seek g A (put d n c) q c) ∧ (∀ t, ai g n = [t] → Chain g A (put d n c) q c t) ∧ (∀ t u, ai g n = [t, u] → Seek g A (put d n c) (q ++ [(t, 2 * c), (u, 2 * c + 1)]) c) := by
 have hhere := h.here hna
 have hlab : ∀ i c', put d n c i = some c' → Lab g A i c' ∧ c' ≤ c := by
  intro i c' hi
  by_cases e : i = n
  ·subst e; rw [dp] at hi; obtain rfl := Option.some.inj hi; exact ⟨hhere, Nat.le_refl _⟩
  ·rw [eH d c e] at hi; exact h.lab i c' hi
 have old : ∀ {t m : Nat}, (∃ c2, d t = some c2 ∧ c2 ≤ m) → ∃ c2, put d n c t = some c2 ∧ c2 ≤ m := fun ⟨c2, h1, h2⟩ => ⟨c2, Fk hn h1, h2⟩
 have hpos := h.pos
 have hstart : 0 ∉ A → ∃ c', put d n c 0 = some c' ∧ c' ≤ 1 := fun ha => by
  rcases h.start ha with h | ⟨e, e2⟩
  ·exact old h
  ·exact ⟨c, by rw [e]; exact dp d n c, by omega⟩
 refine ⟨fun h0 => ?_, fun t ht => ?_, fun t u ht => ?_⟩
 ·refine ⟨hlab, h.qlab, h.up, fun x hx => by have := h.bound x hx; omega, fun ha => .inl (hstart ha), fun i c' t hi ht ha => ?_, fun i c' t u hi ht => ?_⟩
  ·by_cases e : i = n
   ·subst e; rw [h0] at ht; cases ht
   ·rw [eH d c e] at hi
    rcases h.jump i c' t hi ht ha with h1 | ⟨rfl, rfl⟩
    ·exact old h1
    ·exact ⟨c', dp d t c', Nat.le_refl _⟩
  ·by_cases e : i = n
   ·subst e; rw [h0] at ht; cases ht
   ·rw [eH d c e] at hi
    obtain ⟨a, b⟩ := h.branch i c' t u hi ht
    refine ⟨fun ha => ?_, fun ha => ?_⟩
    ·rcases a ha with a | a | ⟨rfl, e⟩
     ·exact .inl (old a)
     ·exact .inr a
     ·exact .inl ⟨c, dp d t c, by omega⟩
    ·rcases b ha with b | b | ⟨rfl, e⟩
     ·exact .inl (old b)
     ·exact .inr b
     ·exact .inl ⟨c, dp d u c, by omega⟩
 ·refine ⟨hlab, fun ha => .jump hhere ht ha, hpos, h.qlab, h.up, h.bound, fun ha => .inl (hstart ha), fun i c' t' hi ht' ha => ?_, fun i c' t' u hi ht' => ?_⟩
  ·by_cases e : i = n
   ·subst e
    rw [dp] at hi
    obtain rfl := Option.some.inj hi
    rw [ht] at ht'; injection ht' with e1 _
    exact .inr ⟨e1.symm, rfl⟩
   ·rw [eH d c e] at hi
    rcases h.jump i c' t' hi ht' ha with h1 | ⟨rfl, rfl⟩
    ·exact .inl (old h1)
    ·exact .inl ⟨c', dp d t' c', Nat.le_refl _⟩
  ·by_cases e : i = n
   ·subst e; rw [ht] at ht'; cases ht'
   ·rw [eH d c e] at hi
    obtain ⟨a, b⟩ := h.branch i c' t' u hi ht'
    refine ⟨fun ha => ?_, fun ha => ?_⟩
    ·rcases a ha with a | a | ⟨rfl, e⟩
     ·exact .inl (old a)
     ·exact .inr (.inl a)
     ·exact .inl ⟨c, dp d t' c, by omega⟩
    ·rcases b ha with b | b | ⟨rfl, e⟩
     ·exact .inl (old b)
     ·exact .inr (.inl b)
     ·exact .inl ⟨c, dp d u c, by omega⟩
 ·refine ⟨hlab, fun x hx => ?_, ?_, fun x hx => ?_, fun ha => .inl (hstart ha), fun i c' t' hi ht' ha => ?_, fun i c' t' u' hi ht' => ?_⟩
  ·rcases List.mem_append.1 hx with hx | hx
   ·exact h.qlab x hx
   ·simp only [List.mem_cons, List.not_mem_nil, or_false] at hx
    rcases hx with rfl | rfl
    ·exact fun ha => .left hhere ht ha
    ·exact fun ha => .right hhere ht ha
  ·refine List.pairwise_append.2 ⟨h.up, by simp, fun x hx y hy => ?_⟩
   have hb := h.bound x hx
   simp only [List.mem_cons, List.not_mem_nil, or_false] at hy
   rcases hy with rfl | rfl
   ·exact hb.2
   ·show x.2 < 2 * c + 1
    omega
  ·rcases List.mem_append.1 hx with hx | hx
   ·have := h.bound x hx; omega
   ·simp only [List.mem_cons, List.not_mem_nil, or_false] at hx
    rcases hx with rfl | rfl
    ·show c < 2 * c ∧ 2 * c ≤ 2 * c + 1
     omega
    ·show c < 2 * c + 1 ∧ 2 * c + 1 ≤ 2 * c + 1
     omega
  ·by_cases e : i = n
   ·subst e; rw [ht] at ht'; cases ht'
   ·rw [eH d c e] at hi
    rcases h.jump i c' t' hi ht' ha with h1 | ⟨rfl, rfl⟩
    ·exact old h1
    ·exact ⟨c', dp d t' c', Nat.le_refl _⟩
  ·by_cases e : i = n
   ·subst e
    rw [dp] at hi
    obtain rfl := Option.some.inj hi
    rw [ht] at ht'
    injection ht' with e1 e2
    injection e2 with e2 _
    subst e1 e2
    exact ⟨fun _ => .inr (by simp), fun _ => .inr (by simp)⟩
   ·rw [eH d c e] at hi
    obtain ⟨a, b⟩ := h.branch i c' t' u' hi ht'
    refine ⟨fun ha => ?_, fun ha => ?_⟩
    ·rcases a ha with a | a | ⟨rfl, e⟩
     ·exact .inl (old a)
     ·exact .inr (by simp [a])
     ·exact .inl ⟨c, dp d t' c, by omega⟩
    ·rcases b ha with b | b | ⟨rfl, e⟩
     ·exact .inl (old b)
     ·exact .inr (by simp [b])
     ·exact .inl ⟨c, dp d u' c, by omega⟩
end Go.Proofs.YtlkfakdghjaoaaaGreatDoor
namespace Go.Proofs.YtlkfakdghjaoaaaGreatDoor
open Go.RowKit Go.Sort
def cd (s : ByteArray) : Nat := code s.data.toList
def jB (s : ByteArray) : Bool := j4 s.data.toList
def ox : ByteArray := ⟨#[108]⟩
def oy : ByteArray := ⟨#[114]⟩
theorem mY (s t : ByteArray) : (s ++ t).data.toList = s.data.toList ++ t.data.toList := by rw [ByteArray.data_append, Array.toList_append]
theorem CD : cd ⟨#[]⟩ = 1 := rfl
theorem Gd (s : ByteArray) : cd (s ++ ox) = 2 * cd s := by unfold cd; rw [mY]; exact F9 _
theorem Ge (s : ByteArray) : cd (s ++ oy) = 2 * cd s + 1 := by unfold cd; rw [mY]; exact Ga _
theorem El {s : ByteArray} (h : jB s = true) : jB (s ++ ox) = true := by unfold jB at h ⊢; rw [mY]; exact Gb h
theorem Em {s : ByteArray} (h : jB s = true) : jB (s ++ oy) = true := by unfold jB at h ⊢; rw [mY]; exact Gc h
theorem Gf (s : ByteArray) : 1 ≤ cd s := D5 _
theorem Fl (s : ByteArray) : 2 ^ s.size ≤ cd s := by
 unfold cd; rw [yU, dm]; omega
def oz (pre : List (Nat × ByteArray)) : Nat → Option Nat := fun i => (pre.find? fun x => x.1 == i).map fun x => cd x.2
theorem iP {pre : List (Nat × ByteArray)} {i : Nat} : oz pre i = none ↔ i ∉ pre.map (·.1) := by
 unfold oz
 simp only [Option.map_eq_none_iff, List.find?_eq_none, List.mem_map, not_exists, not_and, beq_iff_eq]
theorem xf {pre : List (Nat × ByteArray)} {i c : Nat} (h : oz pre i = some c) : ∃ s, (i, s) ∈ pre ∧ c = cd s := by
 unfold oz at h
 obtain ⟨x, hx, rfl⟩ := Option.map_eq_some_iff.1 h
 have h1 := List.mem_of_find?_eq_some hx
 have h2 := List.find?_some hx
 simp only [beq_iff_eq] at h2
 exact ⟨x.2, by rw [← h2]; exact h1, rfl⟩
theorem qa {pre : List (Nat × ByteArray)} {n : Nat} (s : ByteArray) (h : n ∉ pre.map (·.1)) : oz (pre ++ [(n, s)]) = put (oz pre) n (cd s) := by
 funext i
 have hn := iP.2 h
 unfold oz at hn ⊢
 rw [List.find?_append]
 by_cases e : i = n
 ·subst e
  rw [dp]
  rw [Option.map_eq_none_iff] at hn
  rw [hn]; simp
 ·rw [eH _ _ e]
  have : ([(n, s)] : List (Nat × ByteArray)).find? (fun x => x.1 == i) = none := by simp [Ne.symm e]
  rw [this, Option.or_none]
inductive Path (g : List Bl) (A : List Nat) : Nat → ByteArray → Nat → Prop where
 | start (ha : 0 ∉ A) : Path g A 0 ⟨#[]⟩ 1
 | jump {i t m : Nat} {s : ByteArray} (h : Path g A i s m) (hn : ai g i = [t]) (ha : t ∉ A) : Path g A t s (m + 1)
 | left {i t u m : Nat} {s : ByteArray} (h : Path g A i s m) (hn : ai g i = [t, u]) (ha : t ∉ A) : Path g A t (s ++ ox) (m + 1)
 | right {i t u m : Nat} {s : ByteArray} (h : Path g A i s m) (hn : ai g i = [t, u]) (ha : u ∉ A) : Path g A u (s ++ oy) (m + 1)
structure NextWay (g : List Bl) (A : List Nat) (pre : List (Nat × ByteArray)) (x : Nat × ByteArray) : Prop where
 best : sq g A x.1 (cd x.2)
 lr : jB x.2 = true
 before : ∀ j c, Lab g A j c → c < cd x.2 → ∃ s, (j, s) ∈ pre
 lt : x.1 < g.length
 short : x.2.size < g.length
 path : ∃ m, m ≤ g.length ∧ Path g A x.1 x.2 m
def Fm (g : List Bl) (A : List Nat) (xs : List (Nat × ByteArray)) : Prop := ∀ j c, Lab g A j c → ∃ s, (j, s) ∈ xs
structure Known (g : List Bl) (A : List Nat) (pre qs : List (Nat × ByteArray)) : Prop where
 nodup : (pre.map (·.1)).Nodup
 lt : ∀ x ∈ pre, x.1 < g.length
 qlt : ∀ x ∈ qs, x.1 < g.length
 lr : ∀ x ∈ qs, jB x.2 = true
 short : ∀ x ∈ qs, x.2.size ≤ pre.length
 paths : ∀ x ∈ qs, x.1 ∉ A → ∃ m, m ≤ pre.length + 1 ∧ Path g A x.1 x.2 m
theorem Known.len {g : List Bl} {A : List Nat} {pre qs : List (Nat × ByteArray)} (h : Known g A pre qs) : pre.length ≤ g.length := by
 have := bS g.length _ h.nodup fun i hi => by
  obtain ⟨x, hx, rfl⟩ := List.mem_map.1 hi
  exact h.lt x hx
 simpa using this
def rH (qs : List (Nat × ByteArray)) : List (Nat × Nat) := qs.map fun x => (x.1, cd x.2)
structure Outer (g : List Bl) (A : List Nat) (pre qs : List (Nat × ByteArray)) : Prop where
 known : Known g A pre qs
 seek : ∃ c0, Seek g A (oz pre) (rH qs) c0
structure Inner (g : List Bl) (A : List Nat) (pre qs : List (Nat × ByteArray)) (n : Nat) (s : ByteArray) : Prop where
 known : Known g A pre qs
 chain : Chain g A (oz pre) (rH qs) (cd s) n
 nlt : n < g.length
 slr : jB s = true
 sshort : s.size ≤ pre.length
 spath : n ∉ A → ∃ m, m ≤ pre.length + 1 ∧ Path g A n s m
section
variable {g : List Bl} {A : List Nat} {pre qs : List (Nat × ByteArray)} {n : Nat} {s : ByteArray}
theorem Outer.first (hv : aa g = true) (A : List Nat) : Outer g A [] [(0, ⟨#[]⟩)] :=
 ⟨⟨by simp, by simp, fun x hx => by simp at hx; subst hx; exact (aj.1 hv).1, fun x hx => by simp at hx; subst hx; rfl, fun x hx => by simp at hx; subst hx; simp [ByteArray.size], fun x hx ha => by simp at hx; subst hx; exact ⟨1, by simp, .start ha⟩⟩, 0, Seek.first g A⟩
theorem Inner.seen (h : Inner g A pre qs n s) (hn : n ∈ A ++ pre.map (·.1)) : Outer g A pre qs := by
 refine ⟨h.known, _, h.chain.seen ?_⟩
 rcases List.mem_append.1 hn with hn | hn
 ·exact .inl hn
 ·refine .inr ?_
  cases hd : oz pre n with
  | none => exact absurd hn (iP.1 hd)
  | some c => exact ⟨c, rfl⟩
theorem Inner.grow (h : Inner g A pre qs n s) (hn : n ∉ A ++ pre.map (·.1)) : Known g A (pre ++ [(n, s)]) qs := by
 have h2 : n ∉ pre.map (·.1) := fun e => hn (List.mem_append_right _ e)
 refine ⟨?_, fun x hx => ?_, h.known.qlt, h.known.lr, fun x hx => ?_, fun x hx ha => ?_⟩
 ·rw [List.map_append]
  refine List.nodup_append.2 ⟨h.known.nodup, by simp, fun a ha b hb => ?_⟩
  simp at hb; subst hb
  intro e; subst e; exact h2 ha
 ·rcases List.mem_append.1 hx with hx | hx
  ·exact h.known.lt x hx
  ·simp at hx; subst hx; exact h.nlt
 ·have := h.known.short x hx
  rw [List.length_append]; omega
 ·obtain ⟨m, hm, hp⟩ := h.known.paths x hx ha
  exact ⟨m, by rw [List.length_append]; omega, hp⟩
theorem Inner.next (h : Inner g A pre qs n s) (hn : n ∉ A ++ pre.map (·.1)) : NextWay g A pre (n, s) := by
 have h1 : n ∉ A := fun e => hn (List.mem_append_left _ e)
 have h2 : n ∉ pre.map (·.1) := fun e => hn (List.mem_append_right _ e)
 have hl := (h.grow hn).len
 rw [List.length_append] at hl
 simp only [List.length_cons, List.length_nil] at hl
 refine ⟨h.chain.best (iP.2 h2) h1, h.slr, fun j c hj hc => ?_, h.nlt, ?_, ?_⟩
 ·obtain ⟨c2, h3, _⟩ := h.chain.before j c hj hc
  obtain ⟨t, ht, _⟩ := xf h3
  exact ⟨t, ht⟩
 ·have := h.sshort; show s.size < g.length; omega
 ·obtain ⟨m, hm, hp⟩ := h.spath h1
  exact ⟨m, by omega, hp⟩
theorem Inner.stop (h : Inner g A pre qs n s) (hn : n ∉ A ++ pre.map (·.1)) (h0 : ai g n = []) : Outer g A (pre ++ [(n, s)]) qs := by
 have h1 : n ∉ A := fun e => hn (List.mem_append_left _ e)
 have h2 : n ∉ pre.map (·.1) := fun e => hn (List.mem_append_right _ e)
 refine ⟨h.grow hn, cd s, ?_⟩
 rw [qa s h2]
 exact (h.chain.mark (iP.2 h2) h1).1 h0
theorem Inner.jump (hv : aa g = true) (h : Inner g A pre qs n s) (hn : n ∉ A ++ pre.map (·.1)) {t : Nat} (h0 : ai g n = [t]) : Inner g A (pre ++ [(n, s)]) qs t s := by
 have h1 : n ∉ A := fun e => hn (List.mem_append_left _ e)
 have h2 : n ∉ pre.map (·.1) := fun e => hn (List.mem_append_right _ e)
 refine ⟨h.grow hn, ?_, bP hv h.nlt (by rw [h0]; simp), h.slr, by have := h.sshort; rw [List.length_append]; omega, fun ha => ?_⟩
 ·rw [qa s h2]
  exact (h.chain.mark (iP.2 h2) h1).2.1 t h0
 ·obtain ⟨m, hm, hp⟩ := h.spath h1
  exact ⟨m + 1, by rw [List.length_append]; simp only [List.length_cons, List.length_nil]; omega, .jump hp h0 ha⟩
theorem Inner.branch (hv : aa g = true) (h : Inner g A pre qs n s) (hn : n ∉ A ++ pre.map (·.1)) {t u : Nat} (h0 : ai g n = [t, u]) : Outer g A (pre ++ [(n, s)]) (qs ++ [(t, s ++ ox), (u, s ++ oy)]) := by
 have h1 : n ∉ A := fun e => hn (List.mem_append_left _ e)
 have h2 : n ∉ pre.map (·.1) := fun e => hn (List.mem_append_right _ e)
 have k := h.grow hn
 have hs := h.sshort
 have hz1 : (s ++ ox).size = s.size + 1 := by rw [ByteArray.size_append]; rfl
 have hz2 : (s ++ oy).size = s.size + 1 := by rw [ByteArray.size_append]; rfl
 obtain ⟨m, hm, hp⟩ := h.spath h1
 refine ⟨⟨k.nodup, k.lt, fun x hx => ?_, fun x hx => ?_, fun x hx => ?_, fun x hx ha => ?_⟩, cd s, ?_⟩
 ·rcases List.mem_append.1 hx with hx | hx
  ·exact k.qlt x hx
  ·simp only [List.mem_cons, List.not_mem_nil, or_false] at hx
   rcases hx with rfl | rfl
   ·exact bP hv h.nlt (by rw [h0]; simp)
   ·exact bP hv h.nlt (by rw [h0]; simp)
 ·rcases List.mem_append.1 hx with hx | hx
  ·exact k.lr x hx
  ·simp only [List.mem_cons, List.not_mem_nil, or_false] at hx
   rcases hx with rfl | rfl
   ·exact El h.slr
   ·exact Em h.slr
 ·rcases List.mem_append.1 hx with hx | hx
  ·exact k.short x hx
  ·simp only [List.mem_cons, List.not_mem_nil, or_false] at hx
   rw [List.length_append]
   rcases hx with rfl | rfl
   ·show (s ++ ox).size ≤ _
    rw [hz1]; simp only [List.length_cons, List.length_nil]; omega
   ·show (s ++ oy).size ≤ _
    rw [hz2]; simp only [List.length_cons, List.length_nil]; omega
 ·rcases List.mem_append.1 hx with hx | hx
  ·exact k.paths x hx ha
  ·simp only [List.mem_cons, List.not_mem_nil, or_false] at hx
   rw [List.length_append]
   simp only [List.length_cons, List.length_nil]
   rcases hx with rfl | rfl
   ·exact ⟨m + 1, by omega, .left hp h0 ha⟩
   ·exact ⟨m + 1, by omega, .right hp h0 ha⟩
 ·rw [qa s h2]
  have := (h.chain.mark (iP.2 h2) h1).2.2 t u h0
  have e : rH (qs ++ [(t, s ++ ox), (u, s ++ oy)]) = rH qs ++ [(t, 2 * cd s), (u, 2 * cd s + 1)] := by
   unfold rH; rw [List.map_append]; simp only [List.map_cons, List.map_nil, Gd, Ge]
  rw [e]; exact this
theorem Outer.done (h : Outer g A pre []) : Fm g A pre := by
 obtain ⟨_, c0, hs⟩ := h
 intro j c hj
 cases hd : oz pre j with
 | none => exact absurd hj (hs.done.2 j hd c)
 | some c' =>
  obtain ⟨t, ht, _⟩ := xf hd
  exact ⟨t, ht⟩
end
def FirstWay (g : List Bl) (A : List Nat) (P : Nat → Prop) (s : ByteArray) (ok : Bool) : Prop :=
 (ok = true ∧ jB s = true ∧ s.size < g.length ∧ ∃ i, P i ∧ sq g A i (cd s) ∧ ∀ j c, P j → Lab g A j c → cd s ≤ c) ∨ (ok = false ∧ s = ⟨#[]⟩ ∧ ∀ j c, P j → ¬ Lab g A j c)
theorem FirstWay.same {g : List Bl} {A : List Nat} {P Q : Nat → Prop} {s : ByteArray} {ok : Bool} (h : FirstWay g A P s ok) (e : ∀ i, (∃ c, Lab g A i c) → (P i ↔ Q i)) : FirstWay g A Q s ok := by
 rcases h with ⟨rfl, h1, h2, i, hi, hb, hm⟩ | ⟨rfl, rfl, hn⟩
 ·exact .inl ⟨rfl, h1, h2, i, (e i ⟨_, hb.1⟩).1 hi, hb, fun j c hj hl => hm j c ((e j ⟨c, hl⟩).2 hj) hl⟩
 ·exact .inr ⟨rfl, rfl, fun j c hj hl => hn j c ((e j ⟨c, hl⟩).2 hj) hl⟩
end Go.Proofs.YtlkfakdghjaoaaaGreatDoor
namespace Go.Proofs.YtlkfakdghjaoaaaGreatDoor
open Go.RowKit Go.Sort
def mZ (m k : Nat) (s : ByteArray) : ByteArray := if m = 2 then s ++ (if k = 0 then ox else oy) else s
theorem D6 {m : Nat} (h : m ≠ 2) (k : Nat) (s : ByteArray) : mZ m k s = s := by unfold mZ; rw [if_neg h]
abbrev Sg := Nat → Option ByteArray
def CE (σ : Sg) (i : Nat) : ByteArray := (σ i).getD ⟨#[]⟩
def lw (σ : Sg) (t : Nat) (s : ByteArray) : Sg := fun i => if i = t then some s else σ i
theorem jn (σ : Sg) (t : Nat) (s : ByteArray) : lw σ t s t = some s := by simp [lw]
theorem fo (σ : Sg) {t i : Nat} (s : ByteArray) (h : i ≠ t) : lw σ t s i = σ i := by simp [lw, h]
theorem D7 {σ : Sg} {i : Nat} {s : ByteArray} (h : σ i = some s) : CE σ i = s := by simp [CE, h]
theorem D8 {σ : Sg} {i : Nat} (h : σ i = none) : CE σ i = ⟨#[]⟩ := by simp [CE, h]
def iu (σ : Sg) : Nat → Nat
 | 0 => 0
 | n + 1 => iu σ n + if (σ n).isSome then 1 else 0
def Gg : Option ByteArray → Nat
 | none => 134217728
 | some s => cd s
def oA (σ : Sg) : Nat → Nat
 | 0 => 0
 | n + 1 => oA σ n + Gg (σ n)
theorem rI (σ : Sg) : ∀ n, iu σ n ≤ n
 | 0 => Nat.le_refl 0
 | n + 1 => by have := rI σ n; unfold iu; split <;> omega
theorem pu (σ : Sg) (t : Nat) (s : ByteArray) : ∀ n, n ≤ t → iu (lw σ t s) n = iu σ n
 | 0, _ => rfl
 | n + 1, h => by unfold iu; rw [pu σ t s n (by omega), fo σ s (by omega)]
theorem lx (σ : Sg) (t : Nat) (s : ByteArray) (h : (σ t).isSome = true) : ∀ n, iu (lw σ t s) n = iu σ n
 | 0 => rfl
 | n + 1 => by
  unfold iu
  rw [lx σ t s h n]
  by_cases e : n = t
  ·subst e; rw [jn, h]; rfl
  ·rw [fo σ s e]
theorem ly (σ : Sg) (t : Nat) (s : ByteArray) (h : (σ t).isSome = false) : ∀ n, t < n → iu (lw σ t s) n = iu σ n + 1
 | 0, hn => absurd hn (by omega)
 | n + 1, hn => by
  unfold iu
  by_cases e : n = t
  ·subst e; rw [pu σ n s n (Nat.le_refl _), jn, h]; rfl
  ·rw [ly σ t s h n (by omega), fo σ s e]; omega
theorem pw (σ : Sg) (t : Nat) (s : ByteArray) : ∀ n, n ≤ t → oA (lw σ t s) n = oA σ n
 | 0, _ => rfl
 | n + 1, h => by unfold oA; rw [pw σ t s n (by omega), fo σ s (by omega)]
theorem yV (σ : Sg) (t : Nat) (s : ByteArray) : ∀ n, t < n → oA (lw σ t s) n + Gg (σ t) = oA σ n + cd s
 | 0, hn => absurd hn (by omega)
 | n + 1, hn => by
  unfold oA
  by_cases e : n = t
  ·subst e; rw [pw σ n s n (Nat.le_refl _), jn]; show _ + cd s + _ = _; omega
  ·have := yV σ t s n (by omega)
   rw [fo σ s e]; omega
structure Sound (g : List Bl) (A : List Nat) (σ : Sg) : Prop where
 ok : ∀ i s, σ i = some s → Lab g A i (cd s) ∧ jB s = true ∧ cd s < 2 ^ iu σ g.length
 zero : 0 ∉ A → ∃ s, σ 0 = some s ∧ cd s ≤ 1
def oB (A : List Nat) : Sg := fun i => if i = 0 ∧ 0 ∉ A then some ⟨#[]⟩ else none
theorem yW {σ : Sg} {i : Nat} (h : (σ i).isSome = true) : ∀ n, i < n → 1 ≤ iu σ n
 | 0, hn => absurd hn (by omega)
 | n + 1, hn => by
  unfold iu
  by_cases e : n = i
  ·subst e; rw [if_pos h]; omega
  ·have := yW h n (by omega); omega
theorem Sound.begin {g : List Bl} (hv : aa g = true) (A : List Nat) : Sound g A (oB A) := by
 refine ⟨fun i s h => ?_, fun ha => ⟨⟨#[]⟩, by simp [oB, ha], by rw [CD]; exact Nat.le_refl _⟩⟩
 have hh := h
 unfold oB at h
 split at h
 ·rename_i hc
  obtain rfl := Option.some.inj h
  obtain ⟨rfl, ha⟩ := hc
  refine ⟨.start ha, rfl, ?_⟩
  have h1 := yW (σ := oB A) (i := 0) (by rw [hh]; rfl) g.length (aj.1 hv).1
  have h2 : 2 ^ 1 ≤ 2 ^ iu (oB A) g.length := Nat.pow_le_pow_right (by decide) h1
  rw [CD]; omega
 ·cases h
theorem Sound.small {g : List Bl} {A : List Nat} {σ : Sg} (h : Sound g A σ) (h26 : g.length ≤ 26) {i : Nat} {s : ByteArray} (hi : σ i = some s) : cd s < 67108864 ∧ s.size < g.length := by
 have h1 := (h.ok i s hi).2.2
 have h2 : 2 ^ iu σ g.length ≤ 2 ^ 26 := Nat.pow_le_pow_right (by decide) (by have := rI σ g.length; omega)
 have h3 : cd s < 67108864 := by omega
 refine ⟨h3, ?_⟩
 have h4 := Fl s
 rcases Nat.lt_or_ge s.size g.length with h5 | h5
 ·exact h5
 ·have h6 : 2 ^ iu σ g.length ≤ 2 ^ s.size := Nat.pow_le_pow_right (by decide) (by have := rI σ g.length; omega)
  omega
def GE (g : List Bl) (A : List Nat) (σ : Sg) (i k : Nat) : Prop :=
 ∀ s t, σ i = some s → (ai g i)[k]? = some t → t ∉ A → ∃ s', σ t = some s' ∧ cd s' ≤ cd (mZ (ai g i).length k s)
structure Pass (g : List Bl) (A : List Nat) (σ0 σ : Sg) (b : Bool) (i k : Nat) : Prop where
 sound : Sound g A σ
 no : b = false → σ = σ0 ∧ ∀ i' k', (i' < i ∨ i' = i ∧ k' < k) → GE g A σ i' k'
 yes : b = true → oA σ g.length < oA σ0 g.length
section
variable {g : List Bl} {A : List Nat} {σ0 σ : Sg} {b : Bool} {i k t : Nat}
theorem Pass.start (h : Sound g A σ) : Pass g A σ σ false 0 0 := ⟨h, fun _ => ⟨rfl, fun i' k' h => by omega⟩, fun h => by cases h⟩
theorem Pass.line (h : Pass g A σ0 σ b i (ai g i).length) : Pass g A σ0 σ b (i + 1) 0 := by
 refine ⟨h.sound, fun hb => ⟨(h.no hb).1, fun i' k' hk => ?_⟩, h.yes⟩
 by_cases e : i' < i
 ·exact (h.no hb).2 i' k' (.inl e)
 ·obtain rfl : i' = i := by omega
  by_cases e2 : k' < (ai g i').length
  ·exact (h.no hb).2 i' k' (.inr ⟨rfl, e2⟩)
  ·intro s t _ ht
   rw [List.getElem?_eq_none (by omega)] at ht; cases ht
theorem Pass.one (h : Pass g A σ0 σ b i k) (hs : GE g A σ i k) : Pass g A σ0 σ b i (k + 1) := by
 refine ⟨h.sound, fun hb => ⟨(h.no hb).1, fun i' k' hk => ?_⟩, h.yes⟩
 by_cases e : i' = i ∧ k' = k
 ·rw [e.1, e.2]; exact hs
 ·exact (h.no hb).2 i' k' (by omega)
theorem Gh (hv : aa g = true) (hi : i < g.length) (ht : (ai g i)[k]? = some t) : t < g.length := bP hv hi (List.mem_of_getElem? ht)
theorem Fo (hv : aa g = true) (hi : i < g.length) {s : ByteArray} (hl : Lab g A i (cd s)) (hr : jB s = true) (ht : (ai g i)[k]? = some t) (ha : t ∉ A) :
  Lab g A t (cd (mZ (ai g i).length k s)) ∧ jB (mZ (ai g i).length k s) = true ∧ cd (mZ (ai g i).length k s) ≤ 2 * cd s + 1 := by
 have hp := Gf s
 rcases goes hv hi with ⟨h, _⟩ | ⟨p, _, h, _⟩ | ⟨p, q, _, _, h, _⟩
 ·rw [h] at ht; cases ht
 ·rw [h] at ht
  obtain ⟨rfl, rfl⟩ : k = 0 ∧ p = t := by
   cases k with
   | zero => exact ⟨rfl, Option.some.inj ht⟩
   | succ k => cases ht
  rw [h, D6 (by simp)]
  exact ⟨.jump hl h ha, hr, by omega⟩
 ·rw [h] at ht ⊢
  cases k with
  | zero =>
   obtain rfl := Option.some.inj ht
   show Lab g A p (cd (s ++ ox)) ∧ jB (s ++ ox) = true ∧ cd (s ++ ox) ≤ _
   rw [Gd]
   exact ⟨.left hl h ha, El hr, by omega⟩
  | succ k =>
   cases k with
   | zero =>
    obtain rfl := Option.some.inj ht
    show Lab g A q (cd (s ++ oy)) ∧ jB (s ++ oy) = true ∧ cd (s ++ oy) ≤ _
    rw [Ge]
    exact ⟨.right hl h ha, Em hr, Nat.le_refl _⟩
   | succ k => cases ht
theorem Pass.better (hv : aa g = true) (h : Pass g A σ0 σ b i k) {s : ByteArray} (hi : σ i = some s) (ht : (ai g i)[k]? = some t) (ha : t ∉ A)
  (hc : σ t = none ∨ ∃ s', σ t = some s' ∧ cd (mZ (ai g i).length k s) < cd s') : Pass g A σ0 (lw σ t (mZ (ai g i).length k s)) true i (k + 1) := by
 have h26 := (aj.1 hv).2.1
 obtain ⟨hl, hr, h1⟩ := h.sound.ok i s hi
 have hil := hl.lt hv
 have htl := Gh hv hil ht
 obtain ⟨w1, w2, w3⟩ := Fo hv hil hl hr ht ha
 obtain ⟨w, hw⟩ : ∃ w, w = mZ (ai g i).length k s := ⟨_, rfl⟩
 rw [← hw] at w1 w2 w3 hc ⊢
 have hbig : 2 ^ iu σ g.length ≤ 2 ^ 26 := Nat.pow_le_pow_right (by decide) (by have := rI σ g.length; omega)
 have hpot := yV σ t w g.length htl
 have hle0 : oA σ g.length ≤ oA σ0 g.length := by
  cases b with
  | false => rw [(h.no rfl).1]; exact Nat.le_refl _
  | true => have := h.yes rfl; omega
 have hlow : cd w < Gg (σ t) := by
  rcases hc with hc | ⟨s', hc, hlt⟩
  ·rw [hc]; show cd w < 134217728; omega
  ·rw [hc]; exact hlt
 refine ⟨⟨fun j u hj => ?_, fun h0 => ?_⟩, fun hb => (by cases hb), fun _ => by omega⟩
 ·by_cases e : j = t
  ·subst e
   rw [jn] at hj
   obtain rfl := Option.some.inj hj
   refine ⟨w1, w2, ?_⟩
   rcases hc with hc | ⟨s', hc, hlt⟩
   ·rw [ly σ j _ (by rw [hc]; rfl) _ htl, Nat.pow_succ]; omega
   ·rw [lx σ j _ (by rw [hc]; rfl)]
    have := (h.sound.ok j s' hc).2.2; omega
  ·rw [fo _ _ e] at hj
   obtain ⟨a1, a2, a3⟩ := h.sound.ok j u hj
   refine ⟨a1, a2, Nat.lt_of_lt_of_le a3 (Nat.pow_le_pow_right (by decide) ?_)⟩
   rcases hc with hc | ⟨s', hc, _⟩
   ·rw [ly σ t _ (by rw [hc]; rfl) _ htl]; omega
   ·rw [lx σ t _ (by rw [hc]; rfl)]; exact Nat.le_refl _
 ·obtain ⟨u, hu, hu1⟩ := h.sound.zero h0
  by_cases e : 0 = t
  ·subst e
   rcases hc with hc | ⟨s', hc, hlt⟩
   ·rw [hc] at hu; cases hu
   ·rw [hc] at hu
    obtain rfl := Option.some.inj hu
    exact ⟨w, jn _ _ _, by omega⟩
  ·exact ⟨u, by rw [fo _ _ e]; exact hu, hu1⟩
structure Final (g : List Bl) (A : List Nat) (σ : Sg) : Prop where
 some_ : ∀ i s, σ i = some s → jB s = true ∧ s.size < g.length ∧ sq g A i (cd s)
 none_ : ∀ i, σ i = none → ∀ c, ¬ Lab g A i c
end
theorem Final.one {g : List Bl} {A : List Nat} {σ : Sg} (h : Final g A σ) (i : Nat) : FirstWay g A (fun j => j = i) (CE σ i) (σ i).isSome := by
 cases hi : σ i with
 | none => exact .inr ⟨rfl, D8 hi, fun j c hj => by rw [hj]; exact h.none_ i hi c⟩
 | some s =>
  obtain ⟨h1, h2, h3⟩ := h.some_ i s hi
  rw [D7 hi]
  exact .inl ⟨rfl, h1, h2, i, rfl, h3, fun j c hj hl => by rw [hj] at hl; exact h3.2 c hl⟩
end Go.Proofs.YtlkfakdghjaoaaaGreatDoor
namespace Go.Proofs.YtlkfakdghjaoaaaGreatDoor
open Go.RowKit Go.Sort
inductive Rch (g : List Bl) (A : List Nat) : Nat → Prop where
 | start (ha : 0 ∉ A) : Rch g A 0
 | step {i t : Nat} (h : Rch g A i) (hn : t ∈ ai g i) (ha : t ∉ A) : Rch g A t
theorem Rch.out {g : List Bl} {A : List Nat} {i : Nat} (h : Rch g A i) : i ∉ A := by
 cases h with
 | start ha => exact ha
 | step _ _ ha => exact ha
theorem Rch.lt {g : List Bl} {A : List Nat} (hv : aa g = true) {i : Nat} (h : Rch g A i) : i < g.length := by
 induction h with
 | start _ => exact (aj.1 hv).1
 | step _ hn _ ih => exact bP hv ih hn
theorem Rch.lab {g : List Bl} {A : List Nat} (hv : aa g = true) {i : Nat} (h : Rch g A i) : ∃ c, Lab g A i c := by
 induction h with
 | start ha => exact ⟨1, .start ha⟩
 | step h0 hn ha ih =>
  obtain ⟨c, hc⟩ := ih
  rcases goes hv (h0.lt hv) with ⟨h, _⟩ | ⟨p, _, h, _⟩ | ⟨p, q, _, _, h, _⟩
  ·rw [h] at hn; simp at hn
  ·rw [h] at hn
   obtain rfl : _ = p := by simpa using hn
   exact ⟨c, .jump hc h ha⟩
  ·rw [h] at hn
   simp only [List.mem_cons, List.not_mem_nil, or_false] at hn
   rcases hn with rfl | rfl
   ·exact ⟨_, .left hc h ha⟩
   ·exact ⟨_, .right hc h ha⟩
def d7 (A o ts : List Nat) : List Nat := ts.foldl (fun o t => if t ∈ o ∨ t ∈ A then o else o ++ [t]) o
theorem CF (A o : List Nat) : d7 A o [] = o := rfl
theorem m4 (A o : List Nat) (t : Nat) (ts : List Nat) : d7 A o (t :: ts) = d7 A (if t ∈ o ∨ t ∈ A then o else o ++ [t]) ts := rfl
theorem At (A o : List Nat) (t : Nat) (ts : List Nat) : d7 A o (ts ++ [t]) = if t ∈ d7 A o ts ∨ t ∈ A then d7 A o ts else d7 A o ts ++ [t] := by
 unfold d7; rw [List.foldl_append]; rfl
theorem oC (A ts : List Nat) : ∀ o, o <+: d7 A o ts := by
 induction ts with
 | nil => intro o; exact List.prefix_refl _
 | cons t ts ih =>
  intro o
  rw [m4]
  split
  ·exact ih o
  ·exact (List.prefix_append o [t]).trans (ih _)
theorem oD (A ts : List Nat) : ∀ o x, x ∈ d7 A o ts ↔ x ∈ o ∨ (x ∈ ts ∧ x ∉ A) := by
 induction ts with
 | nil => intro o x; simp [CF]
 | cons t ts ih =>
  intro o x
  rw [m4, ih]
  split
  ·rename_i h
   constructor
   ·rintro (h1 | h1)
    ·exact .inl h1
    ·exact .inr ⟨by simp [h1.1], h1.2⟩
   ·rintro (h1 | ⟨h1, h2⟩)
    ·exact .inl h1
    ·rcases List.mem_cons.1 h1 with rfl | h1
     ·exact h.elim .inl fun h => absurd h h2
     ·exact .inr ⟨h1, h2⟩
  ·rename_i h
   rw [List.mem_append, List.mem_singleton, List.mem_cons]
   constructor
   ·rintro ((h1 | rfl) | ⟨h1, h2⟩)
    ·exact .inl h1
    ·exact .inr ⟨.inl rfl, fun e => h (.inr e)⟩
    ·exact .inr ⟨.inr h1, h2⟩
   ·rintro (h1 | ⟨rfl | h1, h2⟩)
    ·exact .inl (.inl h1)
    ·exact .inl (.inr rfl)
    ·exact .inr ⟨h1, h2⟩
theorem py (A ts : List Nat) : ∀ o, o.Nodup → (d7 A o ts).Nodup := by
 induction ts with
 | nil => intro o h; exact h
 | cons t ts ih =>
  intro o h
  rw [m4]
  split
  ·exact ih o h
  ·rename_i hn
   refine ih _ (List.nodup_append.2 ⟨h, by simp, fun a ha b hb => ?_⟩)
   simp at hb; subst hb
   intro e; subst e; exact hn (.inl ha)
def aV (g : List Bl) (A : List Nat) : Nat → List Nat
 | 0 => [0]
 | k + 1 => match (aV g A k)[k]? with
  | none => aV g A k
  | some n => d7 A (aV g A k) (ai g n)
section
variable {g : List Bl} {A : List Nat}
theorem g6 {k : Nat} (h : k < (aV g A k).length) : aV g A (k + 1) = d7 A (aV g A k) (ai g (aV g A k)[k]) := by
 simp only [aV, List.getElem?_eq_getElem h]
theorem gm {k : Nat} (h : (aV g A k).length ≤ k) : aV g A (k + 1) = aV g A k := by
 simp only [aV, List.getElem?_eq_none h]
theorem jI : ∀ k, (aV g A k).Nodup
 | 0 => by simp [aV]
 | k + 1 => by
  by_cases h : k < (aV g A k).length
  ·rw [g6 h]; exact py _ _ _ (jI k)
  ·rw [gm (by omega)]; exact jI k
theorem qb (h0 : 0 ∉ A) : ∀ k, ∀ x ∈ aV g A k, Rch g A x
 | 0, x, hx => by simp [aV] at hx; subst hx; exact .start h0
 | k + 1, x, hx => by
  have ih := qb h0 k
  by_cases h : k < (aV g A k).length
  ·rw [g6 h, oD] at hx
   rcases hx with hx | hx
   ·exact ih x hx
   ·exact .step (ih _ (List.getElem_mem h)) hx.1 hx.2
  ·rw [gm (by omega)] at hx; exact ih x hx
theorem lX (hv : aa g = true) (h0 : 0 ∉ A) (k : Nat) : ∀ x ∈ aV g A k, x < g.length := fun x hx => (qb h0 k x hx).lt hv
theorem qc (hv : aa g = true) (h0 : 0 ∉ A) (k : Nat) : (aV g A k).length ≤ g.length := bS _ _ (jI k) (lX hv h0 k)
theorem pz (k : Nat) : aV g A k <+: aV g A (k + 1) := by
 by_cases h : k < (aV g A k).length
 ·rw [g6 h]; exact oC _ _ _
 ·rw [gm (by omega)]; exact List.prefix_refl _
theorem ub {k : Nat} (h : (aV g A k).length ≤ k) : ∀ m, aV g A (k + m) = aV g A k
 | 0 => rfl
 | m + 1 => by
  have ih := ub h m
  rw [← Nat.add_assoc, gm (by rw [ih]; omega), ih]
theorem ni (k : Nat) : ∀ m, aV g A k <+: aV g A (k + m)
 | 0 => List.prefix_refl _
 | m + 1 => (ni k m).trans (pz (k + m))
theorem pA : ∀ (k j : Nat), j < k → ∀ x, (aV g A k)[j]? = some x → ∀ t ∈ ai g x, t ∉ A → t ∈ aV g A k
 | 0, j, h, _, _, _, _, _ => absurd h (by omega)
 | k + 1, j, h, x, hx, t, ht, ha => by
  have hp := pz (g := g) (A := A) k
  by_cases hj : j < k
  ·by_cases hl : j < (aV g A k).length
   ·have e : (aV g A k)[j]? = some x := by
     obtain ⟨r, hr⟩ := hp
     rw [← hr, List.getElem?_append_left hl] at hx; exact hx
    exact hp.subset (pA k j hj x e t ht ha)
   ·rw [gm (by omega), List.getElem?_eq_none (by omega)] at hx; cases hx
  ·obtain rfl : j = k := by omega
   by_cases hl : j < (aV g A j).length
   ·have e : (aV g A j)[j] = x := by
     obtain ⟨r, hr⟩ := hp
     rw [← hr, List.getElem?_append_left hl, List.getElem?_eq_getElem hl] at hx
     exact Option.some.inj hx
    rw [g6 hl, oD, e]
    exact .inr ⟨ht, ha⟩
   ·rw [gm (by omega), List.getElem?_eq_none (by omega)] at hx; cases hx
end
def er (g : List Bl) (A : List Nat) : List Nat := if 0 ∈ A then [] else aV g A g.length
theorem oE {g : List Bl} {A : List Nat} (h : 0 ∈ A) : er g A = [] := by unfold er; rw [if_pos h]
theorem jJ {g : List Bl} {A : List Nat} (h : 0 ∉ A) : er g A = aV g A g.length := by unfold er; rw [if_neg h]
theorem ye {g : List Bl} {A : List Nat} (h0 : 0 ∉ A) {k : Nat} (hk : k ≤ g.length) (h : (aV g A k).length ≤ k) : aV g A k = er g A := by
 have := ub h (g.length - k)
 rw [jJ h0, ← this]; congr 1; omega
theorem m5 {g : List Bl} (hv : aa g = true) {A : List Nat} {j : Nat} : j ∈ er g A ↔ Rch g A j := by
 by_cases h0 : 0 ∈ A
 ·rw [oE h0]
  constructor
  ·intro h; simp at h
  ·intro h
   have : ∀ {i}, Rch g A i → False := fun h => by
    induction h with
    | start ha => exact ha h0
    | step _ _ _ ih => exact ih
   exact (this h).elim
 ·rw [jJ h0]
  refine ⟨qb h0 _ j, fun h => ?_⟩
  induction h with
  | start _ =>
   have := ni (g := g) (A := A) 0 g.length
   rw [Nat.zero_add] at this
   exact this.subset (by simp [aV])
  | step _ hn ha ih =>
   obtain ⟨k, hk, e⟩ := List.getElem_of_mem ih
   have := qc hv h0 g.length
   exact pA g.length k (by omega) _ (by rw [List.getElem?_eq_getElem hk, e]) _ hn ha
theorem CG {g : List Bl} (hv : aa g = true) {A : List Nat} : ∀ x ∈ er g A, x < g.length := fun _ hx => ((m5 hv).1 hx).lt hv
theorem Au {g : List Bl} (hv : aa g = true) (A : List Nat) : (er g A).length ≤ g.length := by
 by_cases h0 : 0 ∈ A
 ·rw [oE h0]; simp
 ·rw [jJ h0]; exact qc hv h0 _
theorem kX {g : List Bl} (hv : aa g = true) {j : Nat} : j ∈ cI g ↔ Rch g [] j := by
 have : ∀ k, bR g k = aV g [] k := by
  intro k
  induction k with
  | zero => rfl
  | succ k ih =>
   have e : ∀ o ts, cw o ts = d7 [] o ts := by
    intro o ts; unfold cw d7; congr 1; funext o t; simp
   by_cases h : k < (bR g k).length
   ·rw [kq h, g6 (by rw [← ih]; exact h), e]
    congr 1
    ·congr 1; simp only [ih]
   ·rw [kr (by omega), gm (by rw [← ih]; omega), ih]
 rw [← m5 hv, jJ (by simp), cI, this]
theorem Rch.mono {g : List Bl} {A B : List Nat} (h : ∀ x ∈ B, x ∈ A) {i : Nat} (hi : Rch g A i) : Rch g B i := by
 induction hi with
 | start ha => exact .start fun e => ha (h _ e)
 | step _ hn ha ih => exact .step ih hn fun e => ha (h _ e)
end Go.Proofs.YtlkfakdghjaoaaaGreatDoor
