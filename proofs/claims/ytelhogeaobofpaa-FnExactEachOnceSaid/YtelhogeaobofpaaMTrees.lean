/-
  How the model's items lie in memory, and that they stay; what is read of them by its reader: plain facts.
-/
import Derived.Test.YtelhogeaobofpaaBrackets
namespace Go.Proofs.Ytelhogeaobofpaa
open Go.RowKit Go.Sort

/-- The cells of an item of the model: its kind, its block, its number, what stands within it. -/
def kindI : It → UInt8
  | .blk _ => 88
  | .ask .. => 63
  | .stop => 46
  | .frame b _ => opn b
  | .leave _ => 94
  | .set _ => 61
  | .pick _ => 35
def nameI : It → List UInt8
  | .blk c => [c]
  | .ask c _ _ => [c]
  | _ => []
def numI : It → Nat
  | .leave n => n
  | .set n => n
  | _ => 0
def bodI : It → List (List It)
  | .ask _ l r => [l, r]
  | .frame _ l => [l]
  | .pick bs => bs
  | _ => []
def mcells (i : It) (vb : Value) : List Value := [.int .u8 (kindI i).toNat, .string (tb (nameI i)), .int .i64 (numI i), vb]

/-- A slice of items that reads as these cells. -/
def Reads4 (w : World) (P : Nat → Prop) (v : Value) (n : Nat) (vs : List Value) : Prop :=
  ∃ A cap, v = .slice A n cap ∧ vs.length = n * 4 ∧ (0 < n → ∃ b off, A = some ⟨b, off, none⟩ ∧ b < w.heap.size ∧ P b ∧ ∀ k (h : k < vs.length), w.cell? ⟨b, off + k, none⟩ = some vs[k])

mutual
/-- What stands within an item, as it lies. -/
def MBodAt (w : World) (P : Nat → Prop) : It → Value → Prop
  | .blk _, v => Reads w P v []
  | .ask _ l r, v => ∃ x y xs ys, Reads w P v [x, y] ∧ Reads4 w P x l.length xs ∧ MAllAt w P l xs ∧ Reads4 w P y r.length ys ∧ MAllAt w P r ys
  | .stop, v => Reads w P v []
  | .frame _ l, v => ∃ x xs, Reads w P v [x] ∧ Reads4 w P x l.length xs ∧ MAllAt w P l xs
  | .leave _, v => Reads w P v []
  | .set _, v => Reads w P v []
  | .pick bs, v => ∃ xs, Reads w P v xs ∧ MAllRows w P bs xs
def MAllAt (w : World) (P : Nat → Prop) : List It → List Value → Prop
  | [], vs => vs = []
  | i :: l, vs => ∃ vb t, vs = mcells i vb ++ t ∧ MBodAt w P i vb ∧ MAllAt w P l t
def MAllRows (w : World) (P : Nat → Prop) : List (List It) → List Value → Prop
  | [], vs => vs = []
  | b :: bs, vs => ∃ v t xs, vs = v :: t ∧ Reads4 w P v b.length xs ∧ MAllAt w P b xs ∧ MAllRows w P bs t
end
/-- Items of the model as they lie. -/
def MRowAt (w : World) (P : Nat → Prop) (l : List It) (v : Value) : Prop := ∃ xs, Reads4 w P v l.length xs ∧ MAllAt w P l xs
/-- Rows of items of the model as they lie. -/
def MRowsAt (w : World) (P : Nat → Prop) (bs : List (List It)) (v : Value) : Prop := ∃ xs, Reads w P v xs ∧ MAllRows w P bs xs

theorem mbod_iff {w : World} {P : Nat → Prop} {i : It} {v : Value} : MBodAt w P i v ↔ MRowsAt w P (bodI i) v := by
  cases i with
  | ask c l r =>
    rw [MBodAt]
    constructor
    · rintro ⟨x, y, xs, ys, h1, h2, h3, h4, h5⟩
      refine ⟨[x, y], h1, ?_⟩
      show MAllRows w P [l, r] [x, y]
      rw [MAllRows]
      refine ⟨x, [y], xs, rfl, h2, h3, ?_⟩
      rw [MAllRows]
      refine ⟨y, [], ys, rfl, h4, h5, ?_⟩
      rw [MAllRows]
    · rintro ⟨vs, h1, h2⟩
      change MAllRows w P [l, r] vs at h2
      rw [MAllRows] at h2
      obtain ⟨x, t, xs, rfl, h3, h4, h5⟩ := h2
      rw [MAllRows] at h5
      obtain ⟨y, u, ys, rfl, h6, h7, h8⟩ := h5
      rw [MAllRows] at h8
      subst h8
      exact ⟨x, y, xs, ys, h1, h3, h4, h6, h7⟩
  | frame b l =>
    rw [MBodAt]
    constructor
    · rintro ⟨x, xs, h1, h2, h3⟩
      refine ⟨[x], h1, ?_⟩
      show MAllRows w P [l] [x]
      rw [MAllRows]
      refine ⟨x, [], xs, rfl, h2, h3, ?_⟩
      rw [MAllRows]
    · rintro ⟨vs, h1, h2⟩
      change MAllRows w P [l] vs at h2
      rw [MAllRows] at h2
      obtain ⟨x, t, xs, rfl, h3, h4, h5⟩ := h2
      rw [MAllRows] at h5
      subst h5
      exact ⟨x, xs, h1, h3, h4⟩
  | pick bs => rw [MBodAt]; exact Iff.rfl
  | _ =>
    rw [MBodAt]
    constructor
    · intro h
      refine ⟨[], h, ?_⟩
      show MAllRows w P [] []
      rw [MAllRows]
    · rintro ⟨vs, h1, h2⟩
      change MAllRows w P [] vs at h2
      rw [MAllRows] at h2
      subst h2
      exact h1

theorem Reads4.stay {w w' : World} {P P' : Nat → Prop} {v : Value} {n : Nat} {vs : List Value} (h : Reads4 w P v n vs) (k : Stay w P w' P') : Reads4 w' P' v n vs := by
  obtain ⟨A, cap, e, hl, hc⟩ := h
  refine ⟨A, cap, e, hl, fun hpos => ?_⟩
  obtain ⟨b, off, e2, hb, hp, hcell⟩ := hc hpos
  obtain ⟨hp', hs⟩ := k.same b hb hp
  exact ⟨b, off, e2, Nat.lt_of_lt_of_le hb k.size, hp', fun j hj => (cell_same hs _).trans (hcell j hj)⟩

mutual
theorem MBodAt.stay {w w' : World} {P P' : Nat → Prop} (k : Stay w P w' P') : ∀ (i : It) (v : Value), MBodAt w P i v → MBodAt w' P' i v
  | .blk c, v, h => by rw [MBodAt] at h ⊢; exact h.stay k
  | .ask c l r, v, h => by
    rw [MBodAt] at h ⊢
    obtain ⟨x, y, xs, ys, h1, h2, h3, h4, h5⟩ := h
    exact ⟨x, y, xs, ys, h1.stay k, h2.stay k, MAllAt.stay k l xs h3, h4.stay k, MAllAt.stay k r ys h5⟩
  | .stop, v, h => by rw [MBodAt] at h ⊢; exact h.stay k
  | .frame b l, v, h => by
    rw [MBodAt] at h ⊢
    obtain ⟨x, xs, h1, h2, h3⟩ := h
    exact ⟨x, xs, h1.stay k, h2.stay k, MAllAt.stay k l xs h3⟩
  | .leave n, v, h => by rw [MBodAt] at h ⊢; exact h.stay k
  | .set n, v, h => by rw [MBodAt] at h ⊢; exact h.stay k
  | .pick bs, v, h => by
    rw [MBodAt] at h ⊢
    obtain ⟨xs, h1, h2⟩ := h
    exact ⟨xs, h1.stay k, MAllRows.stay k bs xs h2⟩
theorem MAllAt.stay {w w' : World} {P P' : Nat → Prop} (k : Stay w P w' P') : ∀ (l : List It) (vs : List Value), MAllAt w P l vs → MAllAt w' P' l vs
  | [], vs, h => by rw [MAllAt] at h ⊢; exact h
  | i :: l, vs, h => by
    rw [MAllAt] at h ⊢
    obtain ⟨vb, t, e, h1, h2⟩ := h
    exact ⟨vb, t, e, MBodAt.stay k i vb h1, MAllAt.stay k l t h2⟩
theorem MAllRows.stay {w w' : World} {P P' : Nat → Prop} (k : Stay w P w' P') : ∀ (bs : List (List It)) (vs : List Value), MAllRows w P bs vs → MAllRows w' P' bs vs
  | [], vs, h => by rw [MAllRows] at h ⊢; exact h
  | b :: bs, vs, h => by
    rw [MAllRows] at h ⊢
    obtain ⟨v, t, xs, e, h1, h2, h3⟩ := h
    exact ⟨v, t, xs, e, h1.stay k, MAllAt.stay k b xs h2, MAllRows.stay k bs t h3⟩
end
theorem MRowAt.stay {w w' : World} {P P' : Nat → Prop} {l : List It} {v : Value} (h : MRowAt w P l v) (k : Stay w P w' P') : MRowAt w' P' l v := by
  obtain ⟨xs, h1, h2⟩ := h
  exact ⟨xs, h1.stay k, MAllAt.stay k l xs h2⟩
theorem MRowsAt.stay {w w' : World} {P P' : Nat → Prop} {bs : List (List It)} {v : Value} (h : MRowsAt w P bs v) (k : Stay w P w' P') : MRowsAt w' P' bs v := by
  obtain ⟨xs, h1, h2⟩ := h
  exact ⟨xs, h1.stay k, MAllRows.stay k bs xs h2⟩

theorem MAllAt.len {w : World} {P : Nat → Prop} : ∀ {l : List It} {vs : List Value}, MAllAt w P l vs → vs.length = l.length * 4
  | [], vs, h => by rw [MAllAt] at h; rw [h]; rfl
  | i :: l, vs, h => by rw [MAllAt] at h; obtain ⟨vb, t, e, _, h2⟩ := h; rw [e, List.length_append, List.length_cons, h2.len]; simp [mcells]; omega
theorem MAllAt.nil (w : World) (P : Nat → Prop) : MAllAt w P [] [] := by rw [MAllAt]
theorem MAllAt.snoc {w : World} {P : Nat → Prop} {i : It} {vb : Value} (hi : MBodAt w P i vb) : ∀ {l : List It} {vs : List Value}, MAllAt w P l vs → MAllAt w P (l ++ [i]) (vs ++ mcells i vb)
  | [], vs, h => by rw [MAllAt] at h; rw [h, List.nil_append, List.nil_append, MAllAt]; exact ⟨vb, [], by simp, hi, MAllAt.nil w P⟩
  | j :: l, vs, h => by
    rw [MAllAt] at h
    obtain ⟨u, t, e, h1, h2⟩ := h
    rw [e, List.cons_append, List.append_assoc, MAllAt]
    exact ⟨u, t ++ mcells i vb, rfl, h1, MAllAt.snoc hi h2⟩
theorem MAllRows.nil (w : World) (P : Nat → Prop) : MAllRows w P [] [] := by rw [MAllRows]
theorem MAllRows.len {w : World} {P : Nat → Prop} : ∀ {l : List (List It)} {vs : List Value}, MAllRows w P l vs → vs.length = l.length
  | [], vs, h => by rw [MAllRows] at h; rw [h]; rfl
  | i :: l, vs, h => by rw [MAllRows] at h; obtain ⟨v, t, xs, e, _, _, h2⟩ := h; rw [e, List.length_cons, List.length_cons, h2.len]
theorem MAllRows.snoc {w : World} {P : Nat → Prop} {b : List It} {v : Value} (hb : MRowAt w P b v) : ∀ {l : List (List It)} {vs : List Value}, MAllRows w P l vs → MAllRows w P (l ++ [b]) (vs ++ [v])
  | [], vs, h => by
    obtain ⟨xs, h1, h2⟩ := hb
    rw [MAllRows] at h; rw [h, List.nil_append, List.nil_append, MAllRows]; exact ⟨v, [], xs, rfl, h1, h2, MAllRows.nil w P⟩
  | j :: l, vs, h => by
    rw [MAllRows] at h
    obtain ⟨u, t, xs, e, h1, h2, h3⟩ := h
    rw [e, List.cons_append, List.cons_append, MAllRows]
    exact ⟨u, t ++ [v], xs, rfl, h1, h2, MAllRows.snoc hb h3⟩

/-- A row of the call's own reads as its cells. -/
theorem own_reads4 {w : World} {base : Nat} {e : TypeId} {v : Value} {n : Nat} {xs : List Value} (h : w.ownsRow base e 4 v n xs) (hn : xs.length = n * 4) : Reads4 w (fun b => base ≤ b) v n xs := by
  rcases h.2 with ⟨rfl, h0⟩ | ⟨gb, cap, cur, hv, hb, hg, _⟩
  · exact ⟨none, 0, by rw [h0], hn, fun hpos => absurd hpos (by omega)⟩
  · subst hv
    refine ⟨_, _, rfl, hn, fun _ => ⟨gb, 0, rfl, ?_, hb, fun j hj => ?_⟩⟩
    · rcases Nat.lt_or_ge gb w.heap.size with h' | h'
      · exact h'
      · rw [Array.getElem?_eq_none h'] at hg; cases hg
    · have hc := h.cellAt j (by omega)
      rw [List.getElem?_eq_getElem hj] at hc
      rw [Nat.zero_add]; exact hc

theorem MAllAt.at_ {w : World} {P : Nat → Prop} : ∀ {l : List It} {vs : List Value} (_ : MAllAt w P l vs) (k : Nat) (hk : k < l.length), ∃ vb, MBodAt w P l[k] vb ∧ vs[k * 4]? = some (.int .u8 (kindI l[k]).toNat) ∧ vs[k * 4 + 1]? = some (.string (tb (nameI l[k]))) ∧ vs[k * 4 + 2]? = some (.int .i64 (numI l[k])) ∧ vs[k * 4 + 3]? = some vb
  | i :: l, vs, h, 0, _ => by
    rw [MAllAt] at h
    obtain ⟨vb, t, rfl, h1, _⟩ := h
    exact ⟨vb, h1, rfl, rfl, rfl, rfl⟩
  | i :: l, vs, h, k + 1, hk => by
    rw [MAllAt] at h
    obtain ⟨vb, t, rfl, _, h2⟩ := h
    obtain ⟨u, h3, a, b, c, d⟩ := MAllAt.at_ h2 k (by simpa using hk)
    have e : ∀ j, (mcells i vb ++ t)[(k + 1) * 4 + j]? = t[k * 4 + j]? := fun j => by
      rw [List.getElem?_append_right (by simp [mcells]; omega)]
      congr 1
      simp [mcells]; omega
    exact ⟨u, h3, (e 0).trans a, (e 1).trans b, (e 2).trans c, (e 3).trans d⟩
theorem MAllRows.at_ {w : World} {P : Nat → Prop} : ∀ {l : List (List It)} {vs : List Value} (_ : MAllRows w P l vs) (k : Nat) (hk : k < l.length), ∃ v, vs[k]? = some v ∧ MRowAt w P l[k] v
  | b :: l, vs, h, 0, _ => by
    rw [MAllRows] at h
    obtain ⟨v, t, xs, rfl, h1, h2, _⟩ := h
    exact ⟨v, rfl, xs, h1, h2⟩
  | b :: l, vs, h, k + 1, hk => by
    rw [MAllRows] at h
    obtain ⟨v, t, xs, rfl, _, _, h3⟩ := h
    obtain ⟨u, h4, h5⟩ := MAllRows.at_ h3 k (by simpa using hk)
    exact ⟨u, by simpa using h4, h5⟩

/-! ### What the model's reader reads: up to the one byte that ends it -/

/-- Here a row of items ends, for one end. -/
def EndAt (e : UInt8) (r : List UInt8) : Prop := r = [] ∨ (e = 41 ∨ e = 125 ∨ e = 93) ∧ ∃ t, r = e :: t
/-- Here the model's reader stops. -/
def HaltAt (e : UInt8) (r : List UInt8) : Prop := r = [] ∨ ∃ t, r = e :: t
/-- No row of items goes up to an end. -/
def NoLe (e : UInt8) (f : Nat) (s : List UInt8) : Prop := ∀ l r, OkL l f → EndAt e r → s ≠ txL l ++ r
theorem EndAt.ends {e : UInt8} {r : List UInt8} (h : EndAt e r) : Ends r := by
  rcases h with h | ⟨h | h | h, t, ht⟩
  · exact .inl h
  · subst h; exact .inr ⟨t, .inl ht⟩
  · subst h; exact .inr ⟨t, .inr (.inl ht)⟩
  · subst h; exact .inr ⟨t, .inr (.inr ht)⟩
theorem soL_noE {e : UInt8} {f : Nat} {s t : List UInt8} {l : List It} (h : SoL f s l t) (he : ¬ EndAt e t) (hi : NoI f t) : NoLe e f s := by
  intro l' q hl hq es
  obtain ⟨k, hk, _, e2⟩ := h.2.2 l' q ⟨hl, hq.ends, es⟩
  cases k with
  | nil => rw [txL, List.nil_append] at e2; exact he (e2 ▸ hq)
  | cons j k =>
    rw [OkL] at hk
    rw [txL, List.append_assoc] at e2
    exact hi j _ hk.1 (txL_ends hk.2 hq.ends.noBr) e2
/-- Within two bytes: what is read. -/
theorem noB_body {f : Nat} {t : List UInt8} (h : NoLe 93 f t) : NoB f (91 :: t) := fun l r k => h l (93 :: r) k.1 (.inr ⟨.inr (.inr rfl), r, rfl⟩) (List.cons.inj k.2).2
theorem noI_frame_body {f : Nat} (b : Bool) {t : List UInt8} (h : NoLe (cls b) (f + 1) t) : NoI f (opn b :: t) := fun i r hi _ e => by
  obtain ⟨l, _, _, hl⟩ := frame_parts b hi e
  exact h l _ hl.1 (.inr ⟨by cases b <;> simp [cls], r, rfl⟩) hl.2.2
/-- What has been read up to the end of the text, where an end is asked for. -/
theorem noB_over {f : Nat} {t : List UInt8} {l : List It} (hl : OkL l f) (e : t = txL l) : NoB f (91 :: t) :=
  noB_end (r := []) ⟨hl, .inl rfl, by rw [List.append_nil]; exact e⟩ (fun u q => by cases q)
theorem noI_frame_over {f : Nat} (b : Bool) {t : List UInt8} {l : List It} (hl : OkL l (f + 1)) (e : t = txL l) : NoI f (opn b :: t) :=
  noI_frame_end b (u := []) ⟨hl, .inl rfl, by rw [List.append_nil]; exact e⟩ (fun v q => by cases q)
theorem drop_cons {s : List UInt8} {p : Nat} {c : UInt8} {t : List UInt8} (h : s.drop p = c :: t) : p < s.length ∧ s.drop (p + 1) = t ∧ s[p]? = some c := by
  have hp : p < s.length := by
    rcases Nat.lt_or_ge p s.length with h' | h'
    · exact h'
    · rw [List.drop_eq_nil_of_le h'] at h; cases h
  rw [List.drop_eq_getElem_cons hp] at h
  obtain ⟨h1, h2⟩ := List.cons.inj h
  exact ⟨hp, h2, by rw [List.getElem?_eq_getElem hp, h1]⟩
theorem drop_at {s : List UInt8} {p : Nat} {c : UInt8} (h : s[p]? = some c) : s.drop p = c :: s.drop (p + 1) := by
  have hp : p < s.length := by
    rcases Nat.lt_or_ge p s.length with h' | h'
    · exact h'
    · rw [List.getElem?_eq_none h'] at h; cases h
  rw [List.getElem?_eq_getElem hp] at h
  rw [List.drop_eq_getElem_cons hp, Option.some.inj h]
end Go.Proofs.Ytelhogeaobofpaa
