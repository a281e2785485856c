/-
  How the program's items lie in memory, and that they stay; the row that a call makes of them.
-/
import Derived.Test.YtelhogeaobofpaaReader
namespace Go.Proofs.Ytelhogeaobofpaa
open Go.RowKit Go.Sort

/-- A slice that reads as these values, in a block of such. -/
def Reads (w : World) (P : Nat → Prop) (v : Value) (vs : List Value) : Prop :=
  ∃ A cap, v = .slice A vs.length cap ∧ (0 < vs.length → ∃ b off, A = some ⟨b, off, none⟩ ∧ b < w.heap.size ∧ P b ∧ ∀ k (h : k < vs.length), w.cell? ⟨b, off + k, none⟩ = some vs[k])

mutual
/-- An item as it lies. -/
def ItemAt (w : World) (P : Nat → Prop) : It → Value → Prop
  | .blk c, v => v = .iface 99 (.agg #[.string (tb [c])])
  | .ask c l r, v => ∃ vl vr xs ys, v = .iface 101 (.agg #[.string (tb [c]), vl, vr]) ∧ Reads w P vl xs ∧ AllAt w P l xs ∧ Reads w P vr ys ∧ AllAt w P r ys
  | .stop, v => v = .iface 120 (.agg #[])
  | .frame b l, v => ∃ vl xs, v = .iface 69 (.agg #[.bool b, vl]) ∧ Reads w P vl xs ∧ AllAt w P l xs
  | .leave n, v => v = .iface 72 (.agg #[.int .i64 n])
  | .set n, v => v = .iface 104 (.agg #[.int .i64 n])
  | .pick bs, v => ∃ vb xs, v = .iface 106 (.agg #[vb]) ∧ Reads w P vb xs ∧ AllRows w P bs xs
def AllAt (w : World) (P : Nat → Prop) : List It → List Value → Prop
  | [], vs => vs = []
  | i :: l, vs => ∃ v t, vs = v :: t ∧ ItemAt w P i v ∧ AllAt w P l t
def AllRows (w : World) (P : Nat → Prop) : List (List It) → List Value → Prop
  | [], vs => vs = []
  | b :: bs, vs => ∃ v t xs, vs = v :: t ∧ Reads w P v xs ∧ AllAt w P b xs ∧ AllRows w P bs t
end
/-- Items as they lie. -/
def RowAt (w : World) (P : Nat → Prop) (l : List It) (v : Value) : Prop := ∃ xs, Reads w P v xs ∧ AllAt w P l xs
/-- Brackets as they lie. -/
def RowsAt (w : World) (P : Nat → Prop) (bs : List (List It)) (v : Value) : Prop := ∃ xs, Reads w P v xs ∧ AllRows w P bs xs

/-- Blocks of one kind are blocks of another, and have not turned. -/
structure Stay (w : World) (P : Nat → Prop) (w' : World) (P' : Nat → Prop) : Prop where
  size : w.heap.size ≤ w'.heap.size
  same : ∀ b, b < w.heap.size → P b → P' b ∧ w'.heap[b]? = w.heap[b]?

theorem cell_same {w w' : World} {b : Nat} (h : w'.heap[b]? = w.heap[b]?) (o : Nat) : w'.cell? ⟨b, o, none⟩ = w.cell? ⟨b, o, none⟩ := by
  unfold World.cell?
  rw [h]

theorem Reads.stay {w w' : World} {P P' : Nat → Prop} {v : Value} {vs : List Value} (h : Reads w P v vs) (k : Stay w P w' P') : Reads w' P' v vs := by
  obtain ⟨A, cap, e, hc⟩ := h
  refine ⟨A, cap, e, fun hl => ?_⟩
  obtain ⟨b, off, e2, hb, hp, hcell⟩ := hc hl
  obtain ⟨hp', hs⟩ := k.same b hb hp
  exact ⟨b, off, e2, Nat.lt_of_lt_of_le hb k.size, hp', fun j hj => (cell_same hs _).trans (hcell j hj)⟩

mutual
theorem ItemAt.stay {w w' : World} {P P' : Nat → Prop} (k : Stay w P w' P') : ∀ (i : It) (v : Value), ItemAt w P i v → ItemAt w' P' i v
  | .blk c, v, h => by rw [ItemAt] at h ⊢; exact h
  | .ask c l r, v, h => by
    rw [ItemAt] at h ⊢
    obtain ⟨vl, vr, xs, ys, e, h1, h2, h3, h4⟩ := h
    exact ⟨vl, vr, xs, ys, e, h1.stay k, AllAt.stay k l xs h2, h3.stay k, AllAt.stay k r ys h4⟩
  | .stop, v, h => by rw [ItemAt] at h ⊢; exact h
  | .frame b l, v, h => by
    rw [ItemAt] at h ⊢
    obtain ⟨vl, xs, e, h1, h2⟩ := h
    exact ⟨vl, xs, e, h1.stay k, AllAt.stay k l xs h2⟩
  | .leave n, v, h => by rw [ItemAt] at h ⊢; exact h
  | .set n, v, h => by rw [ItemAt] at h ⊢; exact h
  | .pick bs, v, h => by
    rw [ItemAt] at h ⊢
    obtain ⟨vb, xs, e, h1, h2⟩ := h
    exact ⟨vb, xs, e, h1.stay k, AllRows.stay k bs xs h2⟩
theorem AllAt.stay {w w' : World} {P P' : Nat → Prop} (k : Stay w P w' P') : ∀ (l : List It) (vs : List Value), AllAt w P l vs → AllAt w' P' l vs
  | [], vs, h => by rw [AllAt] at h ⊢; exact h
  | i :: l, vs, h => by
    rw [AllAt] at h ⊢
    obtain ⟨v, t, e, h1, h2⟩ := h
    exact ⟨v, t, e, ItemAt.stay k i v h1, AllAt.stay k l t h2⟩
theorem AllRows.stay {w w' : World} {P P' : Nat → Prop} (k : Stay w P w' P') : ∀ (bs : List (List It)) (vs : List Value), AllRows w P bs vs → AllRows w' P' bs vs
  | [], vs, h => by rw [AllRows] at h ⊢; exact h
  | b :: bs, vs, h => by
    rw [AllRows] at h ⊢
    obtain ⟨v, t, xs, e, h1, h2, h3⟩ := h
    exact ⟨v, t, xs, e, h1.stay k, AllAt.stay k b xs h2, AllRows.stay k bs t h3⟩
end
theorem RowAt.stay {w w' : World} {P P' : Nat → Prop} {l : List It} {v : Value} (h : RowAt w P l v) (k : Stay w P w' P') : RowAt w' P' l v := by
  obtain ⟨xs, h1, h2⟩ := h
  exact ⟨xs, h1.stay k, AllAt.stay k l xs h2⟩
theorem RowsAt.stay {w w' : World} {P P' : Nat → Prop} {bs : List (List It)} {v : Value} (h : RowsAt w P bs v) (k : Stay w P w' P') : RowsAt w' P' bs v := by
  obtain ⟨xs, h1, h2⟩ := h
  exact ⟨xs, h1.stay k, AllRows.stay k bs xs h2⟩

theorem AllAt.len {w : World} {P : Nat → Prop} : ∀ {l : List It} {vs : List Value}, AllAt w P l vs → vs.length = l.length
  | [], vs, h => by rw [AllAt] at h; rw [h]; rfl
  | i :: l, vs, h => by rw [AllAt] at h; obtain ⟨v, t, e, _, h2⟩ := h; rw [e, List.length_cons, List.length_cons, h2.len]
theorem AllRows.len {w : World} {P : Nat → Prop} : ∀ {l : List (List It)} {vs : List Value}, AllRows w P l vs → vs.length = l.length
  | [], vs, h => by rw [AllRows] at h; rw [h]; rfl
  | i :: l, vs, h => by rw [AllRows] at h; obtain ⟨v, t, xs, e, _, _, h2⟩ := h; rw [e, List.length_cons, List.length_cons, h2.len]
theorem AllAt.nil (w : World) (P : Nat → Prop) : AllAt w P [] [] := by rw [AllAt]
theorem AllAt.snoc {w : World} {P : Nat → Prop} {i : It} {v : Value} (hi : ItemAt w P i v) : ∀ {l : List It} {vs : List Value}, AllAt w P l vs → AllAt w P (l ++ [i]) (vs ++ [v])
  | [], vs, h => by rw [AllAt] at h; rw [h, List.nil_append, List.nil_append, AllAt]; exact ⟨v, [], rfl, hi, AllAt.nil w P⟩
  | j :: l, vs, h => by
    rw [AllAt] at h
    obtain ⟨u, t, e, h1, h2⟩ := h
    rw [e, List.cons_append, List.cons_append, AllAt]
    exact ⟨u, t ++ [v], rfl, h1, AllAt.snoc hi h2⟩
theorem AllRows.nil (w : World) (P : Nat → Prop) : AllRows w P [] [] := by rw [AllRows]
theorem AllRows.snoc {w : World} {P : Nat → Prop} {b : List It} {v : Value} (hb : RowAt w P b v) : ∀ {l : List (List It)} {vs : List Value}, AllRows w P l vs → AllRows w P (l ++ [b]) (vs ++ [v])
  | [], vs, h => by
    obtain ⟨xs, h1, h2⟩ := hb
    rw [AllRows] at h; rw [h, List.nil_append, List.nil_append, AllRows]; exact ⟨v, [], xs, rfl, h1, h2, AllRows.nil w P⟩
  | j :: l, vs, h => by
    rw [AllRows] at h
    obtain ⟨u, t, xs, e, h1, h2, h3⟩ := h
    rw [e, List.cons_append, List.cons_append, AllRows]
    exact ⟨u, t ++ [v], xs, rfl, h1, h2, AllRows.snoc hb h3⟩

/-- A row of the call's own reads as its values. -/
theorem own_reads {w : World} {base : Nat} {e : TypeId} {v : Value} {n : Nat} {xs : List Value} (h : w.ownsRow base e 1 v n xs) (hn : n = xs.length) : Reads w (fun b => base ≤ b) v xs := by
  rcases h.2 with ⟨rfl, h0⟩ | ⟨gb, cap, cur, hv, hb, hg, _⟩
  · exact ⟨none, 0, by rw [← hn, h0], fun hpos => absurd hpos (by omega)⟩
  · subst hv
    subst hn
    refine ⟨_, _, rfl, fun _ => ⟨gb, 0, rfl, ?_, hb, fun j hj => ?_⟩⟩
    · rcases Nat.lt_or_ge gb w.heap.size with h' | h'
      · exact h'
      · rw [Array.getElem?_eq_none h'] at hg; cases hg
    · have hc := h.cellAt j (by omega)
      rw [List.getElem?_eq_getElem hj] at hc
      rw [Nat.zero_add]; exact hc
end Go.Proofs.Ytelhogeaobofpaa
