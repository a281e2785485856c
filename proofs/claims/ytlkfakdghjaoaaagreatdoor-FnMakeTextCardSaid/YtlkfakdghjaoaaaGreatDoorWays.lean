import Derived.Test.YtlkfakdghjaoaaaGreatDoorJ4
import Derived.Deep.LoopGhost
namespace Go.Proofs.YtlkfakdghjaoaaaGreatDoor
open Go.RowKit Go.Sort
def code (s : List UInt8) : Nat := s.foldl (fun n c => 2 * n + (if c = 108 then 0 else 1)) 1
theorem Fo (s : List UInt8) : code (s ++ [108]) = 2 * code s := by simp [code]
theorem Fp (s : List UInt8) : code (s ++ [114]) = 2 * code s + 1 := by simp [code]
theorem Fq {s : List UInt8} (h : iQ s = true) : iQ (s ++ [108]) = true := by simp [iQ] at h ⊢; exact h
theorem Fs {s : List UInt8} (h : iQ s = true) : iQ (s ++ [114]) = true := by simp [iQ] at h ⊢; exact h
theorem BA (s : List UInt8) : ∀ n, s.foldl (fun n c => 2 * n + (if (c : UInt8) = 108 then 0 else 1)) n = n * 2 ^ s.length + (s.foldl (fun n c => 2 * n + (if (c : UInt8) = 108 then 0 else 1)) 0) := by
 induction s with
 | nil => intro n; simp
 | cons c s ih =>
  intro n
  simp only [List.foldl_cons, List.length_cons]
  generalize (if c = 108 then 0 else 1) = b
  rw [ih (2 * n + b), ih (2 * 0 + b), Nat.pow_succ]
  generalize 2 ^ s.length = p
  have h1 : (2 * n + b) * p = n * (p * 2) + b * p := by rw [Nat.add_mul, Nat.mul_comm p 2, ← Nat.mul_assoc, Nat.mul_comm n 2]
  have h2 : (2 * 0 + b) * p = b * p := by simp
  omega
def vR (s : List UInt8) : Nat := s.foldl (fun n c => 2 * n + (if (c : UInt8) = 108 then 0 else 1)) 0
theorem xS (s : List UInt8) : code s = 2 ^ s.length + vR s := by
 unfold code vR
 rw [BA]; omega
theorem CY (s : List UInt8) : 1 ≤ code s := by rw [xS]; have := Nat.pow_pos (n := s.length) (show 0 < 2 by decide); omega
inductive Lab (g : List Bl) (A : List Nat) : Nat → Nat → Prop where
 | start (ha : 0 ∉ A) : Lab g A 0 1
 | jump {i c t : Nat} (h : Lab g A i c) (hn : ai g i = [t]) (ha : t ∉ A) : Lab g A t c
 | left {i c t u : Nat} (h : Lab g A i c) (hn : ai g i = [t, u]) (ha : t ∉ A) : Lab g A t (2 * c)
 | right {i c t u : Nat} (h : Lab g A i c) (hn : ai g i = [t, u]) (ha : u ∉ A) : Lab g A u (2 * c + 1)
theorem Lab.pos {g : List Bl} {A : List Nat} {i c : Nat} (h : Lab g A i c) : 1 ≤ c := by
 induction h with
 | start _ => exact Nat.le_refl 1
 | jump _ _ _ ih => exact ih
 | left _ _ _ ih => omega
 | right _ _ _ ih => omega
theorem Lab.lt {g : List Bl} {A : List Nat} (hv : aa g = true) {i c : Nat} (h : Lab g A i c) : i < g.length := by
 induction h with
 | start _ => exact (ak.1 hv).1
 | jump _ hn _ ih => exact bH hv ih (by rw [hn]; simp)
 | left _ hn _ ih => exact bH hv ih (by rw [hn]; simp)
 | right _ hn _ ih => exact bH hv ih (by rw [hn]; simp)
theorem Lab.out {g : List Bl} {A : List Nat} {i c : Nat} (h : Lab g A i c) : i ∉ A := by
 cases h with
 | start ha => exact ha
 | jump _ _ ha => exact ha
 | left _ _ ha => exact ha
 | right _ _ ha => exact ha
def rL (g : List Bl) (A : List Nat) (i c : Nat) : Prop := Lab g A i c ∧ ∀ c', Lab g A i c' → c ≤ c'
theorem xc {g : List Bl} {A : List Nat} {d : Nat → Option Nat} (hl : ∀ i c, d i = some c → Lab g A i c) (h0 : 0 ∉ A → ∃ c, d 0 = some c ∧ c ≤ 1)
  (hj : ∀ i c t, d i = some c → ai g i = [t] → t ∉ A → ∃ c', d t = some c' ∧ c' ≤ c)
  (hb : ∀ i c t u, d i = some c → ai g i = [t, u] → (t ∉ A → ∃ c', d t = some c' ∧ c' ≤ 2 * c) ∧ (u ∉ A → ∃ c', d u = some c' ∧ c' ≤ 2 * c + 1)) :
  (∀ i c, d i = some c → rL g A i c) ∧ (∀ i, d i = none → ∀ c, ¬ Lab g A i c) := by
 have key : ∀ i c, Lab g A i c → ∃ c', d i = some c' ∧ c' ≤ c := by
  intro i c h
  induction h with
  | start ha => exact h0 ha
  | jump _ hn ha ih =>
   obtain ⟨c', h1, h2⟩ := ih
   obtain ⟨c2, h3, h4⟩ := hj _ _ _ h1 hn ha
   exact ⟨c2, h3, by omega⟩
  | left _ hn ha ih =>
   obtain ⟨c', h1, h2⟩ := ih
   obtain ⟨c2, h3, h4⟩ := (hb _ _ _ _ h1 hn).1 ha
   exact ⟨c2, h3, by omega⟩
  | right _ hn ha ih =>
   obtain ⟨c', h1, h2⟩ := ih
   obtain ⟨c2, h3, h4⟩ := (hb _ _ _ _ h1 hn).2 ha
   exact ⟨c2, h3, by omega⟩
 refine ⟨fun i c h => ⟨hl i c h, fun c' h' => ?_⟩, fun i h c hc => ?_⟩
 ·obtain ⟨c2, h1, h2⟩ := key i c' h'
  rw [h] at h1
  obtain rfl := Option.some.inj h1
  exact h2
 ·obtain ⟨c', h1, _⟩ := key i c hc
  rw [h] at h1; cases h1
structure Seek (g : List Bl) (A : List Nat) (d : Nat → Option Nat) (q : List (Nat × Nat)) (c0 : Nat) : Prop where
 lab : ∀ i c, d i = some c → Lab g A i c ∧ c ≤ c0
 qlab : ∀ x ∈ q, x.1 ∉ A → Lab g A x.1 x.2
 up : q.Pairwise fun x y => x.2 < y.2
 bound : ∀ x ∈ q, c0 < x.2 ∧ x.2 ≤ 2 * c0 + 1
 start : 0 ∉ A → (∃ c, d 0 = some c ∧ c ≤ 1) ∨ (0, 1) ∈ q
 jump : ∀ i c t, d i = some c → ai g i = [t] → t ∉ A → ∃ c', d t = some c' ∧ c' ≤ c
 branch : ∀ i c t u, d i = some c → ai g i = [t, u] → (t ∉ A → (∃ c', d t = some c' ∧ c' ≤ 2 * c) ∨ (t, 2 * c) ∈ q) ∧ (u ∉ A → (∃ c', d u = some c' ∧ c' ≤ 2 * c + 1) ∨ (u, 2 * c + 1) ∈ q)
theorem Seek.first (g : List Bl) (A : List Nat) : Seek g A (fun _ => none) [(0, 1)] 0 where
 lab := fun _ _ h => by cases h
 qlab := fun x hx ha => by simp at hx; subst hx; exact .start ha
 up := by simp
 bound := fun x hx => by simp at hx; subst hx; simp
 start := fun _ => .inr (by simp)
 jump := fun _ _ _ h => by cases h
 branch := fun _ _ _ _ h => by cases h
theorem Seek.done {g : List Bl} {A : List Nat} {d : Nat → Option Nat} {c0 : Nat} (h : Seek g A d [] c0) : (∀ i c, d i = some c → rL g A i c) ∧ (∀ i, d i = none → ∀ c, ¬ Lab g A i c) := by
 refine xc (fun i c hi => (h.lab i c hi).1) (fun ha => (h.start ha).elim id fun h => by simp at h) h.jump fun i c t u hi hn => ?_
 obtain ⟨h1, h2⟩ := h.branch i c t u hi hn
 exact ⟨fun ha => (h1 ha).elim id fun h => by simp at h, fun ha => (h2 ha).elim id fun h => by simp at h⟩
structure Chain (g : List Bl) (A : List Nat) (d : Nat → Option Nat) (q : List (Nat × Nat)) (c n : Nat) : Prop where
 lab : ∀ i c', d i = some c' → Lab g A i c' ∧ c' ≤ c
 here : n ∉ A → Lab g A n c
 pos : 1 ≤ c
 qlab : ∀ x ∈ q, x.1 ∉ A → Lab g A x.1 x.2
 up : q.Pairwise fun x y => x.2 < y.2
 bound : ∀ x ∈ q, c < x.2 ∧ x.2 < 2 * c
 start : 0 ∉ A → (∃ c', d 0 = some c' ∧ c' ≤ 1) ∨ (0 = n ∧ c = 1)
 jump : ∀ i c' t, d i = some c' → ai g i = [t] → t ∉ A → (∃ c2, d t = some c2 ∧ c2 ≤ c') ∨ (t = n ∧ c' = c)
 branch : ∀ i c' t u, d i = some c' → ai g i = [t, u] → (t ∉ A → (∃ c2, d t = some c2 ∧ c2 ≤ 2 * c') ∨ (t, 2 * c') ∈ q ∨ (t = n ∧ 2 * c' = c)) ∧ (u ∉ A → (∃ c2, d u = some c2 ∧ c2 ≤ 2 * c' + 1) ∨ (u, 2 * c' + 1) ∈ q ∨ (u = n ∧ 2 * c' + 1 = c))
theorem Chain.seen {g : List Bl} {A : List Nat} {d : Nat → Option Nat} {q : List (Nat × Nat)} {c n : Nat} (h : Chain g A d q c n) (hn : n ∈ A ∨ ∃ c1, d n = some c1) : Seek g A d q c := by
 have hn' : n ∉ A → ∃ c1, d n = some c1 ∧ c1 ≤ c := fun ha => by
  rcases hn with hn | ⟨c1, hn⟩
  ·exact absurd hn ha
  ·exact ⟨c1, hn, (h.lab n c1 hn).2⟩
 refine ⟨h.lab, h.qlab, h.up, fun x hx => ?_, fun ha => ?_, fun i c' t hi ht ha => ?_, fun i c' t u hi ht => ?_⟩
 ·have := h.bound x hx; omega
 ·rcases h.start ha with h | ⟨rfl, rfl⟩
  ·exact .inl h
  ·exact .inl (hn' ha)
 ·rcases h.jump i c' t hi ht ha with h | ⟨rfl, rfl⟩
  ·exact h
  ·exact hn' ha
 ·obtain ⟨a, b⟩ := h.branch i c' t u hi ht
  refine ⟨fun ha => ?_, fun ha => ?_⟩
  ·rcases a ha with a | a | ⟨rfl, e⟩
   ·exact .inl a
   ·exact .inr a
   ·obtain ⟨c1, h1, h2⟩ := hn' ha
    exact .inl ⟨c1, h1, by omega⟩
  ·rcases b ha with b | b | ⟨rfl, e⟩
   ·exact .inl b
   ·exact .inr b
   ·obtain ⟨c1, h1, h2⟩ := hn' ha
    exact .inl ⟨c1, h1, by omega⟩
theorem Chain.before {g : List Bl} {A : List Nat} {d : Nat → Option Nat} {q : List (Nat × Nat)} {c n : Nat} (h : Chain g A d q c n) : ∀ i c', Lab g A i c' → c' < c → ∃ c2, d i = some c2 ∧ c2 ≤ c' := by
 intro i c' hl
 induction hl with
 | start ha =>
  intro hlt
  rcases h.start ha with h | ⟨_, e⟩
  ·exact h
  ·omega
 | jump _ hn ha ih =>
  intro hlt
  obtain ⟨c2, h1, h2⟩ := ih hlt
  rcases h.jump _ _ _ h1 hn ha with ⟨c3, h3, h4⟩ | ⟨_, e⟩
  ·exact ⟨c3, h3, by omega⟩
  ·omega
 | left h0 hn ha ih =>
  intro hlt
  have := h0.pos
  obtain ⟨c2, h1, h2⟩ := ih (by omega)
  rcases (h.branch _ _ _ _ h1 hn).1 ha with ⟨c3, h3, h4⟩ | h3 | ⟨_, e⟩
  ·exact ⟨c3, h3, by omega⟩
  ·have := (h.bound _ h3).1; simp at this; omega
  ·omega
 | right h0 hn ha ih =>
  intro hlt
  have := h0.pos
  obtain ⟨c2, h1, h2⟩ := ih (by omega)
  rcases (h.branch _ _ _ _ h1 hn).2 ha with ⟨c3, h3, h4⟩ | h3 | ⟨_, e⟩
  ·exact ⟨c3, h3, by omega⟩
  ·have := (h.bound _ h3).1; simp at this; omega
  ·omega
theorem Chain.best {g : List Bl} {A : List Nat} {d : Nat → Option Nat} {q : List (Nat × Nat)} {c n : Nat} (h : Chain g A d q c n) (hn : d n = none) (ha : n ∉ A) : rL g A n c := by
 refine ⟨h.here ha, fun c' hc' => ?_⟩
 rcases Nat.lt_or_ge c' c with hlt | hge
 ·obtain ⟨c2, h1, _⟩ := h.before n c' hc' hlt
  rw [hn] at h1; cases h1
 ·exact hge
def put (d : Nat → Option Nat) (n c : Nat) : Nat → Option Nat := fun i => if i = n then some c else d i
theorem db (d : Nat → Option Nat) (n c : Nat) : put d n c n = some c := by simp [put]
theorem eu (d : Nat → Option Nat) {n i : Nat} (c : Nat) (h : i ≠ n) : put d n c i = d i := by simp [put, h]
theorem Et {d : Nat → Option Nat} {n c i c' : Nat} (hn : d n = none) (h : d i = some c') : put d n c i = some c' := by
 rw [eu]; exact h; intro e; rw [e, hn] at h; cases h
theorem Chain.mark {g : List Bl} {A : List Nat} {d : Nat → Option Nat} {q : List (Nat × Nat)} {c n : Nat} (h : Chain g A d q c n) (hn : d n = none) (hna : n ∉ A) :
  (ai g n = [] → Seek g A (put d n c) q c) ∧ (∀ t, ai g n = [t] → Chain g A (put d n c) q c t) ∧ (∀ t u, ai g n = [t, u] → Seek g A (put d n c) (q ++ [(t, 2 * c), (u, 2 * c + 1)]) c) := by
 have hhere := h.here hna
 have hlab : ∀ i c', put d n c i = some c' → Lab g A i c' ∧ c' ≤ c := by
  intro i c' hi
  by_cases e : i = n
  ·subst e; rw [db] at hi; obtain rfl := Option.some.inj hi; exact ⟨hhere, Nat.le_refl _⟩
  ·rw [eu d c e] at hi; exact h.lab i c' hi
 have old : ∀ {t m : Nat}, (∃ c2, d t = some c2 ∧ c2 ≤ m) → ∃ c2, put d n c t = some c2 ∧ c2 ≤ m := fun ⟨c2, h1, h2⟩ => ⟨c2, Et hn h1, h2⟩
 have hpos := h.pos
 have hstart : 0 ∉ A → ∃ c', put d n c 0 = some c' ∧ c' ≤ 1 := fun ha => by
  rcases h.start ha with h | ⟨e, e2⟩
  ·exact old h
  ·exact ⟨c, by rw [e]; exact db d n c, by omega⟩
 refine ⟨fun h0 => ?_, fun t ht => ?_, fun t u ht => ?_⟩
 ·refine ⟨hlab, h.qlab, h.up, fun x hx => by have := h.bound x hx; omega, fun ha => .inl (hstart ha), fun i c' t hi ht ha => ?_, fun i c' t u hi ht => ?_⟩
  ·by_cases e : i = n
   ·subst e; rw [h0] at ht; cases ht
   ·rw [eu d c e] at hi
    rcases h.jump i c' t hi ht ha with h1 | ⟨rfl, rfl⟩
    ·exact old h1
    ·exact ⟨c', db d t c', Nat.le_refl _⟩
  ·by_cases e : i = n
   ·subst e; rw [h0] at ht; cases ht
   ·rw [eu d c e] at hi
    obtain ⟨a, b⟩ := h.branch i c' t u hi ht
    refine ⟨fun ha => ?_, fun ha => ?_⟩
    ·rcases a ha with a | a | ⟨rfl, e⟩
     ·exact .inl (old a)
     ·exact .inr a
     ·exact .inl ⟨c, db d t c, by omega⟩
    ·rcases b ha with b | b | ⟨rfl, e⟩
     ·exact .inl (old b)
     ·exact .inr b
     ·exact .inl ⟨c, db d u c, by omega⟩
 ·refine ⟨hlab, fun ha => .jump hhere ht ha, hpos, h.qlab, h.up, h.bound, fun ha => .inl (hstart ha), fun i c' t' hi ht' ha => ?_, fun i c' t' u hi ht' => ?_⟩
  ·by_cases e : i = n
   ·subst e
    rw [db] at hi
    obtain rfl := Option.some.inj hi
    rw [ht] at ht'; injection ht' with e1 _
    exact .inr ⟨e1.symm, rfl⟩
   ·rw [eu d c e] at hi
    rcases h.jump i c' t' hi ht' ha with h1 | ⟨rfl, rfl⟩
    ·exact .inl (old h1)
    ·exact .inl ⟨c', db d t' c', Nat.le_refl _⟩
  ·by_cases e : i = n
   ·subst e; rw [ht] at ht'; cases ht'
   ·rw [eu d c e] at hi
    obtain ⟨a, b⟩ := h.branch i c' t' u hi ht'
    refine ⟨fun ha => ?_, fun ha => ?_⟩
    ·rcases a ha with a | a | ⟨rfl, e⟩
     ·exact .inl (old a)
     ·exact .inr (.inl a)
     ·exact .inl ⟨c, db d t' c, by omega⟩
    ·rcases b ha with b | b | ⟨rfl, e⟩
     ·exact .inl (old b)
     ·exact .inr (.inl b)
     ·exact .inl ⟨c, db d u c, by omega⟩
 ·refine ⟨hlab, fun x hx => ?_, ?_, fun x hx => ?_, fun ha => .inl (hstart ha), fun i c' t' hi ht' ha => ?_, fun i c' t' u' hi ht' => ?_⟩
  ·rcases List.mem_append.1 hx with hx | hx
   ·exact h.qlab x hx
   ·simp only [List.mem_cons, List.not_mem_nil, or_false] at hx
    rcases hx with rfl | rfl
    ·exact fun ha => .left hhere ht ha
    ·exact fun ha => .right hhere ht ha
  ·refine List.pairwise_append.2 ⟨h.up, by simp, fun x hx y hy => ?_⟩
   have hb := h.bound x hx
   simp only [List.mem_cons, List.not_mem_nil, or_false] at hy
   rcases hy with rfl | rfl
   ·exact hb.2
   ·show x.2 < 2 * c + 1
    omega
  ·rcases List.mem_append.1 hx with hx | hx
   ·have := h.bound x hx; omega
   ·simp only [List.mem_cons, List.not_mem_nil, or_false] at hx
    rcases hx with rfl | rfl
    ·show c < 2 * c ∧ 2 * c ≤ 2 * c + 1
     omega
    ·show c < 2 * c + 1 ∧ 2 * c + 1 ≤ 2 * c + 1
     omega
  ·by_cases e : i = n
   ·subst e; rw [ht] at ht'; cases ht'
   ·rw [eu d c e] at hi
    rcases h.jump i c' t' hi ht' ha with h1 | ⟨rfl, rfl⟩
    ·exact old h1
    ·exact ⟨c', db d t' c', Nat.le_refl _⟩
  ·by_cases e : i = n
   ·subst e
    rw [db] at hi
    obtain rfl := Option.some.inj hi
    rw [ht] at ht'
    injection ht' with e1 e2
    injection e2 with e2 _
    subst e1 e2
    exact ⟨fun _ => .inr (by simp), fun _ => .inr (by simp)⟩
   ·rw [eu d c e] at hi
    obtain ⟨a, b⟩ := h.branch i c' t' u' hi ht'
    refine ⟨fun ha => ?_, fun ha => ?_⟩
    ·rcases a ha with a | a | ⟨rfl, e⟩
     ·exact .inl (old a)
     ·exact .inr (by simp [a])
     ·exact .inl ⟨c, db d t' c, by omega⟩
    ·rcases b ha with b | b | ⟨rfl, e⟩
     ·exact .inl (old b)
     ·exact .inr (by simp [b])
     ·exact .inl ⟨c, db d u' c, by omega⟩
end Go.Proofs.YtlkfakdghjaoaaaGreatDoor
namespace Go.Proofs.YtlkfakdghjaoaaaGreatDoor
open Go.RowKit Go.Sort
def cd (s : ByteArray) : Nat := code s.data.toList
def i6 (s : ByteArray) : Bool := iQ s.data.toList
def nV : ByteArray := ⟨#[108]⟩
def nW : ByteArray := ⟨#[114]⟩
theorem mw (s t : ByteArray) : (s ++ t).data.toList = s.data.toList ++ t.data.toList := by rw [ByteArray.data_append, Array.toList_append]
theorem BC : cd ⟨#[]⟩ = 1 := rfl
theorem Ft (s : ByteArray) : cd (s ++ nV) = 2 * cd s := by unfold cd; rw [mw]; exact Fo _
theorem Fu (s : ByteArray) : cd (s ++ nW) = 2 * cd s + 1 := by unfold cd; rw [mw]; exact Fp _
theorem Dg {s : ByteArray} (h : i6 s = true) : i6 (s ++ nV) = true := by unfold i6 at h ⊢; rw [mw]; exact Fq h
theorem Dh {s : ByteArray} (h : i6 s = true) : i6 (s ++ nW) = true := by unfold i6 at h ⊢; rw [mw]; exact Fs h
theorem Fv (s : ByteArray) : 1 ≤ cd s := CY _
theorem Eu (s : ByteArray) : 2 ^ s.size ≤ cd s := by
 unfold cd; rw [xS, dX]; omega
def nX (pre : List (Nat × ByteArray)) : Nat → Option Nat := fun i => (pre.find? fun x => x.1 == i).map fun x => cd x.2
theorem ic {pre : List (Nat × ByteArray)} {i : Nat} : nX pre i = none ↔ i ∉ pre.map (·.1) := by
 unfold nX
 simp only [Option.map_eq_none_iff, List.find?_eq_none, List.mem_map, not_exists, not_and, beq_iff_eq]
theorem vS {pre : List (Nat × ByteArray)} {i c : Nat} (h : nX pre i = some c) : ∃ s, (i, s) ∈ pre ∧ c = cd s := by
 unfold nX at h
 obtain ⟨x, hx, rfl⟩ := Option.map_eq_some_iff.1 h
 have h1 := List.mem_of_find?_eq_some hx
 have h2 := List.find?_some hx
 simp only [beq_iff_eq] at h2
 exact ⟨x.2, by rw [← h2]; exact h1, rfl⟩
theorem pH {pre : List (Nat × ByteArray)} {n : Nat} (s : ByteArray) (h : n ∉ pre.map (·.1)) : nX (pre ++ [(n, s)]) = put (nX pre) n (cd s) := by
 funext i
 have hn := ic.2 h
 unfold nX at hn ⊢
 rw [List.find?_append]
 by_cases e : i = n
 ·subst e
  rw [db]
  rw [Option.map_eq_none_iff] at hn
  rw [hn]; simp
 ·rw [eu _ _ e]
  have : ([(n, s)] : List (Nat × ByteArray)).find? (fun x => x.1 == i) = none := by simp [Ne.symm e]
  rw [this, Option.or_none]
inductive Path (g : List Bl) (A : List Nat) : Nat → ByteArray → Nat → Prop where
 | start (ha : 0 ∉ A) : Path g A 0 ⟨#[]⟩ 1
 | jump {i t m : Nat} {s : ByteArray} (h : Path g A i s m) (hn : ai g i = [t]) (ha : t ∉ A) : Path g A t s (m + 1)
 | left {i t u m : Nat} {s : ByteArray} (h : Path g A i s m) (hn : ai g i = [t, u]) (ha : t ∉ A) : Path g A t (s ++ nV) (m + 1)
 | right {i t u m : Nat} {s : ByteArray} (h : Path g A i s m) (hn : ai g i = [t, u]) (ha : u ∉ A) : Path g A u (s ++ nW) (m + 1)
structure NextWay (g : List Bl) (A : List Nat) (pre : List (Nat × ByteArray)) (x : Nat × ByteArray) : Prop where
 best : rL g A x.1 (cd x.2)
 lr : i6 x.2 = true
 before : ∀ j c, Lab g A j c → c < cd x.2 → ∃ s, (j, s) ∈ pre
 lt : x.1 < g.length
 short : x.2.size < g.length
 path : ∃ m, m ≤ g.length ∧ Path g A x.1 x.2 m
def Ev (g : List Bl) (A : List Nat) (xs : List (Nat × ByteArray)) : Prop := ∀ j c, Lab g A j c → ∃ s, (j, s) ∈ xs
structure Known (g : List Bl) (A : List Nat) (pre qs : List (Nat × ByteArray)) : Prop where
 nodup : (pre.map (·.1)).Nodup
 lt : ∀ x ∈ pre, x.1 < g.length
 qlt : ∀ x ∈ qs, x.1 < g.length
 lr : ∀ x ∈ qs, i6 x.2 = true
 short : ∀ x ∈ qs, x.2.size ≤ pre.length
 paths : ∀ x ∈ qs, x.1 ∉ A → ∃ m, m ≤ pre.length + 1 ∧ Path g A x.1 x.2 m
theorem Known.len {g : List Bl} {A : List Nat} {pre qs : List (Nat × ByteArray)} (h : Known g A pre qs) : pre.length ≤ g.length := by
 have := bK g.length _ h.nodup fun i hi => by
  obtain ⟨x, hx, rfl⟩ := List.mem_map.1 hi
  exact h.lt x hx
 simpa using this
def qZ (qs : List (Nat × ByteArray)) : List (Nat × Nat) := qs.map fun x => (x.1, cd x.2)
structure Outer (g : List Bl) (A : List Nat) (pre qs : List (Nat × ByteArray)) : Prop where
 known : Known g A pre qs
 seek : ∃ c0, Seek g A (nX pre) (qZ qs) c0
structure Inner (g : List Bl) (A : List Nat) (pre qs : List (Nat × ByteArray)) (n : Nat) (s : ByteArray) : Prop where
 known : Known g A pre qs
 chain : Chain g A (nX pre) (qZ qs) (cd s) n
 nlt : n < g.length
 slr : i6 s = true
 sshort : s.size ≤ pre.length
 spath : n ∉ A → ∃ m, m ≤ pre.length + 1 ∧ Path g A n s m
section
variable {g : List Bl} {A : List Nat} {pre qs : List (Nat × ByteArray)} {n : Nat} {s : ByteArray}
theorem Outer.first (hv : aa g = true) (A : List Nat) : Outer g A [] [(0, ⟨#[]⟩)] :=
 ⟨⟨by simp, by simp, fun x hx => by simp at hx; subst hx; exact (ak.1 hv).1, fun x hx => by simp at hx; subst hx; rfl, fun x hx => by simp at hx; subst hx; simp [ByteArray.size], fun x hx ha => by simp at hx; subst hx; exact ⟨1, by simp, .start ha⟩⟩, 0, Seek.first g A⟩
theorem Inner.seen (h : Inner g A pre qs n s) (hn : n ∈ A ++ pre.map (·.1)) : Outer g A pre qs := by
 refine ⟨h.known, _, h.chain.seen ?_⟩
 rcases List.mem_append.1 hn with hn | hn
 ·exact .inl hn
 ·refine .inr ?_
  cases hd : nX pre n with
  | none => exact absurd hn (ic.1 hd)
  | some c => exact ⟨c, rfl⟩
theorem Inner.grow (h : Inner g A pre qs n s) (hn : n ∉ A ++ pre.map (·.1)) : Known g A (pre ++ [(n, s)]) qs := by
 have h2 : n ∉ pre.map (·.1) := fun e => hn (List.mem_append_right _ e)
 refine ⟨?_, fun x hx => ?_, h.known.qlt, h.known.lr, fun x hx => ?_, fun x hx ha => ?_⟩
 ·rw [List.map_append]
  refine List.nodup_append.2 ⟨h.known.nodup, by simp, fun a ha b hb => ?_⟩
  simp at hb; subst hb
  intro e; subst e; exact h2 ha
 ·rcases List.mem_append.1 hx with hx | hx
  ·exact h.known.lt x hx
  ·simp at hx; subst hx; exact h.nlt
 ·have := h.known.short x hx
  rw [List.length_append]; omega
 ·obtain ⟨m, hm, hp⟩ := h.known.paths x hx ha
  exact ⟨m, by rw [List.length_append]; omega, hp⟩
theorem Inner.next (h : Inner g A pre qs n s) (hn : n ∉ A ++ pre.map (·.1)) : NextWay g A pre (n, s) := by
 have h1 : n ∉ A := fun e => hn (List.mem_append_left _ e)
 have h2 : n ∉ pre.map (·.1) := fun e => hn (List.mem_append_right _ e)
 have hl := (h.grow hn).len
 rw [List.length_append] at hl
 simp only [List.length_cons, List.length_nil] at hl
 refine ⟨h.chain.best (ic.2 h2) h1, h.slr, fun j c hj hc => ?_, h.nlt, ?_, ?_⟩
 ·obtain ⟨c2, h3, _⟩ := h.chain.before j c hj hc
  obtain ⟨t, ht, _⟩ := vS h3
  exact ⟨t, ht⟩
 ·have := h.sshort; show s.size < g.length; omega
 ·obtain ⟨m, hm, hp⟩ := h.spath h1
  exact ⟨m, by omega, hp⟩
theorem Inner.stop (h : Inner g A pre qs n s) (hn : n ∉ A ++ pre.map (·.1)) (h0 : ai g n = []) : Outer g A (pre ++ [(n, s)]) qs := by
 have h1 : n ∉ A := fun e => hn (List.mem_append_left _ e)
 have h2 : n ∉ pre.map (·.1) := fun e => hn (List.mem_append_right _ e)
 refine ⟨h.grow hn, cd s, ?_⟩
 rw [pH s h2]
 exact (h.chain.mark (ic.2 h2) h1).1 h0
theorem Inner.jump (hv : aa g = true) (h : Inner g A pre qs n s) (hn : n ∉ A ++ pre.map (·.1)) {t : Nat} (h0 : ai g n = [t]) : Inner g A (pre ++ [(n, s)]) qs t s := by
 have h1 : n ∉ A := fun e => hn (List.mem_append_left _ e)
 have h2 : n ∉ pre.map (·.1) := fun e => hn (List.mem_append_right _ e)
 refine ⟨h.grow hn, ?_, bH hv h.nlt (by rw [h0]; simp), h.slr, by have := h.sshort; rw [List.length_append]; omega, fun ha => ?_⟩
 ·rw [pH s h2]
  exact (h.chain.mark (ic.2 h2) h1).2.1 t h0
 ·obtain ⟨m, hm, hp⟩ := h.spath h1
  exact ⟨m + 1, by rw [List.length_append]; simp only [List.length_cons, List.length_nil]; omega, .jump hp h0 ha⟩
theorem Inner.branch (hv : aa g = true) (h : Inner g A pre qs n s) (hn : n ∉ A ++ pre.map (·.1)) {t u : Nat} (h0 : ai g n = [t, u]) : Outer g A (pre ++ [(n, s)]) (qs ++ [(t, s ++ nV), (u, s ++ nW)]) := by
 have h1 : n ∉ A := fun e => hn (List.mem_append_left _ e)
 have h2 : n ∉ pre.map (·.1) := fun e => hn (List.mem_append_right _ e)
 have k := h.grow hn
 have hs := h.sshort
 have hz1 : (s ++ nV).size = s.size + 1 := by rw [ByteArray.size_append]; rfl
 have hz2 : (s ++ nW).size = s.size + 1 := by rw [ByteArray.size_append]; rfl
 obtain ⟨m, hm, hp⟩ := h.spath h1
 refine ⟨⟨k.nodup, k.lt, fun x hx => ?_, fun x hx => ?_, fun x hx => ?_, fun x hx ha => ?_⟩, cd s, ?_⟩
 ·rcases List.mem_append.1 hx with hx | hx
  ·exact k.qlt x hx
  ·simp only [List.mem_cons, List.not_mem_nil, or_false] at hx
   rcases hx with rfl | rfl
   ·exact bH hv h.nlt (by rw [h0]; simp)
   ·exact bH hv h.nlt (by rw [h0]; simp)
 ·rcases List.mem_append.1 hx with hx | hx
  ·exact k.lr x hx
  ·simp only [List.mem_cons, List.not_mem_nil, or_false] at hx
   rcases hx with rfl | rfl
   ·exact Dg h.slr
   ·exact Dh h.slr
 ·rcases List.mem_append.1 hx with hx | hx
  ·exact k.short x hx
  ·simp only [List.mem_cons, List.not_mem_nil, or_false] at hx
   rw [List.length_append]
   rcases hx with rfl | rfl
   ·show (s ++ nV).size ≤ _
    rw [hz1]; simp only [List.length_cons, List.length_nil]; omega
   ·show (s ++ nW).size ≤ _
    rw [hz2]; simp only [List.length_cons, List.length_nil]; omega
 ·rcases List.mem_append.1 hx with hx | hx
  ·exact k.paths x hx ha
  ·simp only [List.mem_cons, List.not_mem_nil, or_false] at hx
   rw [List.length_append]
   simp only [List.length_cons, List.length_nil]
   rcases hx with rfl | rfl
   ·exact ⟨m + 1, by omega, .left hp h0 ha⟩
   ·exact ⟨m + 1, by omega, .right hp h0 ha⟩
 ·rw [pH s h2]
  have := (h.chain.mark (ic.2 h2) h1).2.2 t u h0
  have e : qZ (qs ++ [(t, s ++ nV), (u, s ++ nW)]) = qZ qs ++ [(t, 2 * cd s), (u, 2 * cd s + 1)] := by
   unfold qZ; rw [List.map_append]; simp only [List.map_cons, List.map_nil, Ft, Fu]
  rw [e]; exact this
theorem Outer.done (h : Outer g A pre []) : Ev g A pre := by
 obtain ⟨_, c0, hs⟩ := h
 intro j c hj
 cases hd : nX pre j with
 | none => exact absurd hj (hs.done.2 j hd c)
 | some c' =>
  obtain ⟨t, ht, _⟩ := vS hd
  exact ⟨t, ht⟩
end
def FirstWay (g : List Bl) (A : List Nat) (P : Nat → Prop) (s : ByteArray) (ok : Bool) : Prop :=
 (ok = true ∧ i6 s = true ∧ s.size < g.length ∧ ∃ i, P i ∧ rL g A i (cd s) ∧ ∀ j c, P j → Lab g A j c → cd s ≤ c) ∨ (ok = false ∧ s = ⟨#[]⟩ ∧ ∀ j c, P j → ¬ Lab g A j c)
theorem FirstWay.same {g : List Bl} {A : List Nat} {P Q : Nat → Prop} {s : ByteArray} {ok : Bool} (h : FirstWay g A P s ok) (e : ∀ i, (∃ c, Lab g A i c) → (P i ↔ Q i)) : FirstWay g A Q s ok := by
 rcases h with ⟨rfl, h1, h2, i, hi, hb, hm⟩ | ⟨rfl, rfl, hn⟩
 ·exact .inl ⟨rfl, h1, h2, i, (e i ⟨_, hb.1⟩).1 hi, hb, fun j c hj hl => hm j c ((e j ⟨c, hl⟩).2 hj) hl⟩
 ·exact .inr ⟨rfl, rfl, fun j c hj hl => hn j c ((e j ⟨c, hl⟩).2 hj) hl⟩
end Go.Proofs.YtlkfakdghjaoaaaGreatDoor
namespace Go.Proofs.YtlkfakdghjaoaaaGreatDoor
open Go.RowKit Go.Sort
def mx (m k : Nat) (s : ByteArray) : ByteArray := if m = 2 then s ++ (if k = 0 then nV else nW) else s
theorem CZ {m : Nat} (h : m ≠ 2) (k : Nat) (s : ByteArray) : mx m k s = s := by unfold mx; rw [if_neg h]
abbrev Sg := Nat → Option ByteArray
def BD (σ : Sg) (i : Nat) : ByteArray := (σ i).getD ⟨#[]⟩
def kD (σ : Sg) (t : Nat) (s : ByteArray) : Sg := fun i => if i = t then some s else σ i
theorem iN (σ : Sg) (t : Nat) (s : ByteArray) : kD σ t s t = some s := by simp [kD]
theorem eV (σ : Sg) {t i : Nat} (s : ByteArray) (h : i ≠ t) : kD σ t s i = σ i := by simp [kD, h]
theorem C0 {σ : Sg} {i : Nat} {s : ByteArray} (h : σ i = some s) : BD σ i = s := by simp [BD, h]
theorem C1 {σ : Sg} {i : Nat} (h : σ i = none) : BD σ i = ⟨#[]⟩ := by simp [BD, h]
def gN (σ : Sg) : Nat → Nat
 | 0 => 0
 | n + 1 => gN σ n + if (σ n).isSome then 1 else 0
def Fw : Option ByteArray → Nat
 | none => 134217728
 | some s => cd s
def nY (σ : Sg) : Nat → Nat
 | 0 => 0
 | n + 1 => nY σ n + Fw (σ n)
theorem rc (σ : Sg) : ∀ n, gN σ n ≤ n
 | 0 => Nat.le_refl 0
 | n + 1 => by have := rc σ n; unfold gN; split <;> omega
theorem oS (σ : Sg) (t : Nat) (s : ByteArray) : ∀ n, n ≤ t → gN (kD σ t s) n = gN σ n
 | 0, _ => rfl
 | n + 1, h => by unfold gN; rw [oS σ t s n (by omega), eV σ s (by omega)]
theorem kF (σ : Sg) (t : Nat) (s : ByteArray) (h : (σ t).isSome = true) : ∀ n, gN (kD σ t s) n = gN σ n
 | 0 => rfl
 | n + 1 => by
  unfold gN
  rw [kF σ t s h n]
  by_cases e : n = t
  ·subst e; rw [iN, h]; rfl
  ·rw [eV σ s e]
theorem kG (σ : Sg) (t : Nat) (s : ByteArray) (h : (σ t).isSome = false) : ∀ n, t < n → gN (kD σ t s) n = gN σ n + 1
 | 0, hn => absurd hn (by omega)
 | n + 1, hn => by
  unfold gN
  by_cases e : n = t
  ·subst e; rw [oS σ n s n (Nat.le_refl _), iN, h]; rfl
  ·rw [kG σ t s h n (by omega), eV σ s e]; omega
theorem oT (σ : Sg) (t : Nat) (s : ByteArray) : ∀ n, n ≤ t → nY (kD σ t s) n = nY σ n
 | 0, _ => rfl
 | n + 1, h => by unfold nY; rw [oT σ t s n (by omega), eV σ s (by omega)]
theorem xT (σ : Sg) (t : Nat) (s : ByteArray) : ∀ n, t < n → nY (kD σ t s) n + Fw (σ t) = nY σ n + cd s
 | 0, hn => absurd hn (by omega)
 | n + 1, hn => by
  unfold nY
  by_cases e : n = t
  ·subst e; rw [oT σ n s n (Nat.le_refl _), iN]; show _ + cd s + _ = _; omega
  ·have := xT σ t s n (by omega)
   rw [eV σ s e]; omega
structure Sound (g : List Bl) (A : List Nat) (σ : Sg) : Prop where
 ok : ∀ i s, σ i = some s → Lab g A i (cd s) ∧ i6 s = true ∧ cd s < 2 ^ gN σ g.length
 zero : 0 ∉ A → ∃ s, σ 0 = some s ∧ cd s ≤ 1
def nZ (A : List Nat) : Sg := fun i => if i = 0 ∧ 0 ∉ A then some ⟨#[]⟩ else none
theorem xU {σ : Sg} {i : Nat} (h : (σ i).isSome = true) : ∀ n, i < n → 1 ≤ gN σ n
 | 0, hn => absurd hn (by omega)
 | n + 1, hn => by
  unfold gN
  by_cases e : n = i
  ·subst e; rw [if_pos h]; omega
  ·have := xU h n (by omega); omega
theorem Sound.begin {g : List Bl} (hv : aa g = true) (A : List Nat) : Sound g A (nZ A) := by
 refine ⟨fun i s h => ?_, fun ha => ⟨⟨#[]⟩, by simp [nZ, ha], by rw [BC]; exact Nat.le_refl _⟩⟩
 have hh := h
 unfold nZ at h
 split at h
 ·rename_i hc
  obtain rfl := Option.some.inj h
  obtain ⟨rfl, ha⟩ := hc
  refine ⟨.start ha, rfl, ?_⟩
  have h1 := xU (σ := nZ A) (i := 0) (by rw [hh]; rfl) g.length (ak.1 hv).1
  have h2 : 2 ^ 1 ≤ 2 ^ gN (nZ A) g.length := Nat.pow_le_pow_right (by decide) h1
  rw [BC]; omega
 ·cases h
theorem Sound.small {g : List Bl} {A : List Nat} {σ : Sg} (h : Sound g A σ) (h26 : g.length ≤ 26) {i : Nat} {s : ByteArray} (hi : σ i = some s) : cd s < 67108864 ∧ s.size < g.length := by
 have h1 := (h.ok i s hi).2.2
 have h2 : 2 ^ gN σ g.length ≤ 2 ^ 26 := Nat.pow_le_pow_right (by decide) (by have := rc σ g.length; omega)
 have h3 : cd s < 67108864 := by omega
 refine ⟨h3, ?_⟩
 have h4 := Eu s
 rcases Nat.lt_or_ge s.size g.length with h5 | h5
 ·exact h5
 ·have h6 : 2 ^ gN σ g.length ≤ 2 ^ s.size := Nat.pow_le_pow_right (by decide) (by have := rc σ g.length; omega)
  omega
def FV (g : List Bl) (A : List Nat) (σ : Sg) (i k : Nat) : Prop :=
 ∀ s t, σ i = some s → (ai g i)[k]? = some t → t ∉ A → ∃ s', σ t = some s' ∧ cd s' ≤ cd (mx (ai g i).length k s)
structure Pass (g : List Bl) (A : List Nat) (σ0 σ : Sg) (b : Bool) (i k : Nat) : Prop where
 sound : Sound g A σ
 no : b = false → σ = σ0 ∧ ∀ i' k', (i' < i ∨ i' = i ∧ k' < k) → FV g A σ i' k'
 yes : b = true → nY σ g.length < nY σ0 g.length
section
variable {g : List Bl} {A : List Nat} {σ0 σ : Sg} {b : Bool} {i k t : Nat}
theorem Pass.start (h : Sound g A σ) : Pass g A σ σ false 0 0 := ⟨h, fun _ => ⟨rfl, fun i' k' h => by omega⟩, fun h => by cases h⟩
theorem Pass.line (h : Pass g A σ0 σ b i (ai g i).length) : Pass g A σ0 σ b (i + 1) 0 := by
 refine ⟨h.sound, fun hb => ⟨(h.no hb).1, fun i' k' hk => ?_⟩, h.yes⟩
 by_cases e : i' < i
 ·exact (h.no hb).2 i' k' (.inl e)
 ·obtain rfl : i' = i := by omega
  by_cases e2 : k' < (ai g i').length
  ·exact (h.no hb).2 i' k' (.inr ⟨rfl, e2⟩)
  ·intro s t _ ht
   rw [List.getElem?_eq_none (by omega)] at ht; cases ht
theorem Pass.one (h : Pass g A σ0 σ b i k) (hs : FV g A σ i k) : Pass g A σ0 σ b i (k + 1) := by
 refine ⟨h.sound, fun hb => ⟨(h.no hb).1, fun i' k' hk => ?_⟩, h.yes⟩
 by_cases e : i' = i ∧ k' = k
 ·rw [e.1, e.2]; exact hs
 ·exact (h.no hb).2 i' k' (by omega)
theorem Fx (hv : aa g = true) (hi : i < g.length) (ht : (ai g i)[k]? = some t) : t < g.length := bH hv hi (List.mem_of_getElem? ht)
theorem Ew (hv : aa g = true) (hi : i < g.length) {s : ByteArray} (hl : Lab g A i (cd s)) (hr : i6 s = true) (ht : (ai g i)[k]? = some t) (ha : t ∉ A) :
  Lab g A t (cd (mx (ai g i).length k s)) ∧ i6 (mx (ai g i).length k s) = true ∧ cd (mx (ai g i).length k s) ≤ 2 * cd s + 1 := by
 have hp := Fv s
 rcases goes hv hi with ⟨h, _⟩ | ⟨p, _, h, _⟩ | ⟨p, q, _, _, h, _⟩
 ·rw [h] at ht; cases ht
 ·rw [h] at ht
  obtain ⟨rfl, rfl⟩ : k = 0 ∧ p = t := by
   cases k with
   | zero => exact ⟨rfl, Option.some.inj ht⟩
   | succ k => cases ht
  rw [h, CZ (by simp)]
  exact ⟨.jump hl h ha, hr, by omega⟩
 ·rw [h] at ht ⊢
  cases k with
  | zero =>
   obtain rfl := Option.some.inj ht
   show Lab g A p (cd (s ++ nV)) ∧ i6 (s ++ nV) = true ∧ cd (s ++ nV) ≤ _
   rw [Ft]
   exact ⟨.left hl h ha, Dg hr, by omega⟩
  | succ k =>
   cases k with
   | zero =>
    obtain rfl := Option.some.inj ht
    show Lab g A q (cd (s ++ nW)) ∧ i6 (s ++ nW) = true ∧ cd (s ++ nW) ≤ _
    rw [Fu]
    exact ⟨.right hl h ha, Dh hr, Nat.le_refl _⟩
   | succ k => cases ht
theorem Pass.better (hv : aa g = true) (h : Pass g A σ0 σ b i k) {s : ByteArray} (hi : σ i = some s) (ht : (ai g i)[k]? = some t) (ha : t ∉ A)
  (hc : σ t = none ∨ ∃ s', σ t = some s' ∧ cd (mx (ai g i).length k s) < cd s') : Pass g A σ0 (kD σ t (mx (ai g i).length k s)) true i (k + 1) := by
 have h26 := (ak.1 hv).2.1
 obtain ⟨hl, hr, h1⟩ := h.sound.ok i s hi
 have hil := hl.lt hv
 have htl := Fx hv hil ht
 obtain ⟨w1, w2, w3⟩ := Ew hv hil hl hr ht ha
 obtain ⟨w, hw⟩ : ∃ w, w = mx (ai g i).length k s := ⟨_, rfl⟩
 rw [← hw] at w1 w2 w3 hc ⊢
 have hbig : 2 ^ gN σ g.length ≤ 2 ^ 26 := Nat.pow_le_pow_right (by decide) (by have := rc σ g.length; omega)
 have hpot := xT σ t w g.length htl
 have hle0 : nY σ g.length ≤ nY σ0 g.length := by
  cases b with
  | false => rw [(h.no rfl).1]; exact Nat.le_refl _
  | true => have := h.yes rfl; omega
 have hlow : cd w < Fw (σ t) := by
  rcases hc with hc | ⟨s', hc, hlt⟩
  ·rw [hc]; show cd w < 134217728; omega
  ·rw [hc]; exact hlt
 refine ⟨⟨fun j u hj => ?_, fun h0 => ?_⟩, fun hb => (by cases hb), fun _ => by omega⟩
 ·by_cases e : j = t
  ·subst e
   rw [iN] at hj
   obtain rfl := Option.some.inj hj
   refine ⟨w1, w2, ?_⟩
   rcases hc with hc | ⟨s', hc, hlt⟩
   ·rw [kG σ j _ (by rw [hc]; rfl) _ htl, Nat.pow_succ]; omega
   ·rw [kF σ j _ (by rw [hc]; rfl)]
    have := (h.sound.ok j s' hc).2.2; omega
  ·rw [eV _ _ e] at hj
   obtain ⟨a1, a2, a3⟩ := h.sound.ok j u hj
   refine ⟨a1, a2, Nat.lt_of_lt_of_le a3 (Nat.pow_le_pow_right (by decide) ?_)⟩
   rcases hc with hc | ⟨s', hc, _⟩
   ·rw [kG σ t _ (by rw [hc]; rfl) _ htl]; omega
   ·rw [kF σ t _ (by rw [hc]; rfl)]; exact Nat.le_refl _
 ·obtain ⟨u, hu, hu1⟩ := h.sound.zero h0
  by_cases e : 0 = t
  ·subst e
   rcases hc with hc | ⟨s', hc, hlt⟩
   ·rw [hc] at hu; cases hu
   ·rw [hc] at hu
    obtain rfl := Option.some.inj hu
    exact ⟨w, iN _ _ _, by omega⟩
  ·exact ⟨u, by rw [eV _ _ e]; exact hu, hu1⟩
structure Final (g : List Bl) (A : List Nat) (σ : Sg) : Prop where
 some_ : ∀ i s, σ i = some s → i6 s = true ∧ s.size < g.length ∧ rL g A i (cd s)
 none_ : ∀ i, σ i = none → ∀ c, ¬ Lab g A i c
end
theorem Final.one {g : List Bl} {A : List Nat} {σ : Sg} (h : Final g A σ) (i : Nat) : FirstWay g A (fun j => j = i) (BD σ i) (σ i).isSome := by
 cases hi : σ i with
 | none => exact .inr ⟨rfl, C1 hi, fun j c hj => by rw [hj]; exact h.none_ i hi c⟩
 | some s =>
  obtain ⟨h1, h2, h3⟩ := h.some_ i s hi
  rw [C0 hi]
  exact .inl ⟨rfl, h1, h2, i, rfl, h3, fun j c hj hl => by rw [hj] at hl; exact h3.2 c hl⟩
end Go.Proofs.YtlkfakdghjaoaaaGreatDoor
namespace Go.Proofs.YtlkfakdghjaoaaaGreatDoor
open Go.RowKit Go.Sort
inductive Rch (g : List Bl) (A : List Nat) : Nat → Prop where
 | start (ha : 0 ∉ A) : Rch g A 0
 | step {i t : Nat} (h : Rch g A i) (hn : t ∈ ai g i) (ha : t ∉ A) : Rch g A t
theorem Rch.out {g : List Bl} {A : List Nat} {i : Nat} (h : Rch g A i) : i ∉ A := by
 cases h with
 | start ha => exact ha
 | step _ _ ha => exact ha
theorem Rch.lt {g : List Bl} {A : List Nat} (hv : aa g = true) {i : Nat} (h : Rch g A i) : i < g.length := by
 induction h with
 | start _ => exact (ak.1 hv).1
 | step _ hn _ ih => exact bH hv ih hn
theorem Rch.lab {g : List Bl} {A : List Nat} (hv : aa g = true) {i : Nat} (h : Rch g A i) : ∃ c, Lab g A i c := by
 induction h with
 | start ha => exact ⟨1, .start ha⟩
 | step h0 hn ha ih =>
  obtain ⟨c, hc⟩ := ih
  rcases goes hv (h0.lt hv) with ⟨h, _⟩ | ⟨p, _, h, _⟩ | ⟨p, q, _, _, h, _⟩
  ·rw [h] at hn; simp at hn
  ·rw [h] at hn
   obtain rfl : _ = p := by simpa using hn
   exact ⟨c, .jump hc h ha⟩
  ·rw [h] at hn
   simp only [List.mem_cons, List.not_mem_nil, or_false] at hn
   rcases hn with rfl | rfl
   ·exact ⟨_, .left hc h ha⟩
   ·exact ⟨_, .right hc h ha⟩
def dP (A o ts : List Nat) : List Nat := ts.foldl (fun o t => if t ∈ o ∨ t ∈ A then o else o ++ [t]) o
theorem BE (A o : List Nat) : dP A o [] = o := rfl
theorem my (A o : List Nat) (t : Nat) (ts : List Nat) : dP A o (t :: ts) = dP A (if t ∈ o ∨ t ∈ A then o else o ++ [t]) ts := rfl
theorem zn (A o : List Nat) (t : Nat) (ts : List Nat) : dP A o (ts ++ [t]) = if t ∈ dP A o ts ∨ t ∈ A then dP A o ts else dP A o ts ++ [t] := by
 unfold dP; rw [List.foldl_append]; rfl
theorem n4 (A ts : List Nat) : ∀ o, o <+: dP A o ts := by
 induction ts with
 | nil => intro o; exact List.prefix_refl _
 | cons t ts ih =>
  intro o
  rw [my]
  split
  ·exact ih o
  ·exact (List.prefix_append o [t]).trans (ih _)
theorem n5 (A ts : List Nat) : ∀ o x, x ∈ dP A o ts ↔ x ∈ o ∨ (x ∈ ts ∧ x ∉ A) := by
 induction ts with
 | nil => intro o x; simp [BE]
 | cons t ts ih =>
  intro o x
  rw [my, ih]
  split
  ·rename_i h
   constructor
   ·rintro (h1 | h1)
    ·exact .inl h1
    ·exact .inr ⟨by simp [h1.1], h1.2⟩
   ·rintro (h1 | ⟨h1, h2⟩)
    ·exact .inl h1
    ·rcases List.mem_cons.1 h1 with rfl | h1
     ·exact h.elim .inl fun h => absurd h h2
     ·exact .inr ⟨h1, h2⟩
  ·rename_i h
   rw [List.mem_append, List.mem_singleton, List.mem_cons]
   constructor
   ·rintro ((h1 | rfl) | ⟨h1, h2⟩)
    ·exact .inl h1
    ·exact .inr ⟨.inl rfl, fun e => h (.inr e)⟩
    ·exact .inr ⟨.inr h1, h2⟩
   ·rintro (h1 | ⟨rfl | h1, h2⟩)
    ·exact .inl (.inl h1)
    ·exact .inl (.inr rfl)
    ·exact .inr ⟨h1, h2⟩
theorem oU (A ts : List Nat) : ∀ o, o.Nodup → (dP A o ts).Nodup := by
 induction ts with
 | nil => intro o h; exact h
 | cons t ts ih =>
  intro o h
  rw [my]
  split
  ·exact ih o h
  ·rename_i hn
   refine ih _ (List.nodup_append.2 ⟨h, by simp, fun a ha b hb => ?_⟩)
   simp at hb; subst hb
   intro e; subst e; exact hn (.inl ha)
def aQ (g : List Bl) (A : List Nat) : Nat → List Nat
 | 0 => [0]
 | k + 1 => match (aQ g A k)[k]? with
  | none => aQ g A k
  | some n => dP A (aQ g A k) (ai g n)
section
variable {g : List Bl} {A : List Nat}
theorem gz {k : Nat} (h : k < (aQ g A k).length) : aQ g A (k + 1) = dP A (aQ g A k) (ai g (aQ g A k)[k]) := by
 simp only [aQ, List.getElem?_eq_getElem h]
theorem fE {k : Nat} (h : (aQ g A k).length ≤ k) : aQ g A (k + 1) = aQ g A k := by
 simp only [aQ, List.getElem?_eq_none h]
theorem jd : ∀ k, (aQ g A k).Nodup
 | 0 => by simp [aQ]
 | k + 1 => by
  by_cases h : k < (aQ g A k).length
  ·rw [gz h]; exact oU _ _ _ (jd k)
  ·rw [fE (by omega)]; exact jd k
theorem pI (h0 : 0 ∉ A) : ∀ k, ∀ x ∈ aQ g A k, Rch g A x
 | 0, x, hx => by simp [aQ] at hx; subst hx; exact .start h0
 | k + 1, x, hx => by
  have ih := pI h0 k
  by_cases h : k < (aQ g A k).length
  ·rw [gz h, n5] at hx
   rcases hx with hx | hx
   ·exact ih x hx
   ·exact .step (ih _ (List.getElem_mem h)) hx.1 hx.2
  ·rw [fE (by omega)] at hx; exact ih x hx
theorem lw (hv : aa g = true) (h0 : 0 ∉ A) (k : Nat) : ∀ x ∈ aQ g A k, x < g.length := fun x hx => (pI h0 k x hx).lt hv
theorem pJ (hv : aa g = true) (h0 : 0 ∉ A) (k : Nat) : (aQ g A k).length ≤ g.length := bK _ _ (jd k) (lw hv h0 k)
theorem oW (k : Nat) : aQ g A k <+: aQ g A (k + 1) := by
 by_cases h : k < (aQ g A k).length
 ·rw [gz h]; exact n4 _ _ _
 ·rw [fE (by omega)]; exact List.prefix_refl _
theorem sW {k : Nat} (h : (aQ g A k).length ≤ k) : ∀ m, aQ g A (k + m) = aQ g A k
 | 0 => rfl
 | m + 1 => by
  have ih := sW h m
  rw [← Nat.add_assoc, fE (by rw [ih]; omega), ih]
theorem mM (k : Nat) : ∀ m, aQ g A k <+: aQ g A (k + m)
 | 0 => List.prefix_refl _
 | m + 1 => (mM k m).trans (oW (k + m))
theorem oX : ∀ (k j : Nat), j < k → ∀ x, (aQ g A k)[j]? = some x → ∀ t ∈ ai g x, t ∉ A → t ∈ aQ g A k
 | 0, j, h, _, _, _, _, _ => absurd h (by omega)
 | k + 1, j, h, x, hx, t, ht, ha => by
  have hp := oW (g := g) (A := A) k
  by_cases hj : j < k
  ·by_cases hl : j < (aQ g A k).length
   ·have e : (aQ g A k)[j]? = some x := by
     obtain ⟨r, hr⟩ := hp
     rw [← hr, List.getElem?_append_left hl] at hx; exact hx
    exact hp.subset (oX k j hj x e t ht ha)
   ·rw [fE (by omega), List.getElem?_eq_none (by omega)] at hx; cases hx
  ·obtain rfl : j = k := by omega
   by_cases hl : j < (aQ g A j).length
   ·have e : (aQ g A j)[j] = x := by
     obtain ⟨r, hr⟩ := hp
     rw [← hr, List.getElem?_append_left hl, List.getElem?_eq_getElem hl] at hx
     exact Option.some.inj hx
    rw [gz hl, n5, e]
    exact .inr ⟨ht, ha⟩
   ·rw [fE (by omega), List.getElem?_eq_none (by omega)] at hx; cases hx
end
def d6 (g : List Bl) (A : List Nat) : List Nat := if 0 ∈ A then [] else aQ g A g.length
theorem n7 {g : List Bl} {A : List Nat} (h : 0 ∈ A) : d6 g A = [] := by unfold d6; rw [if_pos h]
theorem je {g : List Bl} {A : List Nat} (h : 0 ∉ A) : d6 g A = aQ g A g.length := by unfold d6; rw [if_neg h]
theorem xd {g : List Bl} {A : List Nat} (h0 : 0 ∉ A) {k : Nat} (hk : k ≤ g.length) (h : (aQ g A k).length ≤ k) : aQ g A k = d6 g A := by
 have := sW h (g.length - k)
 rw [je h0, ← this]; congr 1; omega
theorem mz {g : List Bl} (hv : aa g = true) {A : List Nat} {j : Nat} : j ∈ d6 g A ↔ Rch g A j := by
 by_cases h0 : 0 ∈ A
 ·rw [n7 h0]
  constructor
  ·intro h; simp at h
  ·intro h
   have : ∀ {i}, Rch g A i → False := fun h => by
    induction h with
    | start ha => exact ha h0
    | step _ _ _ ih => exact ih
   exact (this h).elim
 ·rw [je h0]
  refine ⟨pI h0 _ j, fun h => ?_⟩
  induction h with
  | start _ =>
   have := mM (g := g) (A := A) 0 g.length
   rw [Nat.zero_add] at this
   exact this.subset (by simp [aQ])
  | step _ hn ha ih =>
   obtain ⟨k, hk, e⟩ := List.getElem_of_mem ih
   have := pJ hv h0 g.length
   exact oX g.length k (by omega) _ (by rw [List.getElem?_eq_getElem hk, e]) _ hn ha
theorem BF {g : List Bl} (hv : aa g = true) {A : List Nat} : ∀ x ∈ d6 g A, x < g.length := fun _ hx => ((mz hv).1 hx).lt hv
theorem zo {g : List Bl} (hv : aa g = true) (A : List Nat) : (d6 g A).length ≤ g.length := by
 by_cases h0 : 0 ∈ A
 ·rw [n7 h0]; simp
 ·rw [je h0]; exact pJ hv h0 _
theorem kh {g : List Bl} (hv : aa g = true) {j : Nat} : j ∈ bM g ↔ Rch g [] j := by
 have : ∀ k, bJ g k = aQ g [] k := by
  intro k
  induction k with
  | zero => rfl
  | succ k ih =>
   have e : ∀ o ts, cc o ts = dP [] o ts := by
    intro o ts; unfold cc dP; congr 1; funext o t; simp
   by_cases h : k < (bJ g k).length
   ·rw [jI h, gz (by rw [← ih]; exact h), e]
    congr 1
    ·congr 1; simp only [ih]
   ·rw [jJ (by omega), fE (by rw [← ih]; omega), ih]
 rw [← mz hv, je (by simp), bM, this]
theorem Rch.mono {g : List Bl} {A B : List Nat} (h : ∀ x ∈ B, x ∈ A) {i : Nat} (hi : Rch g A i) : Rch g B i := by
 induction hi with
 | start ha => exact .start fun e => ha (h _ e)
 | step _ hn ha ih => exact .step ih hn fun e => ha (h _ e)
end Go.Proofs.YtlkfakdghjaoaaaGreatDoor
