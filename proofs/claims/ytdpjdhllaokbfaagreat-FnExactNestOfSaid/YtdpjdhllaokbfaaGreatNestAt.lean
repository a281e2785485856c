/-
  The program's nest as it lies.
-/
import Derived.Test.YtdpjdhllaokbfaaGreatFindAll
import Derived.Test.YtdpjdhllaokbfaaGreatNestMath
import Derived.Test.YtdpjdhllaokbfaaGreatDelete
namespace Go.Proofs.YtdpjdhllaokbfaaGreat
open Go.RowKit Go.Sort Go.Shelf

/-- Pointers to nodes in a slice, in a block of K's. -/
def PtsK (w : World) (K : Nat → Prop) (A : Option Addr) (NB : Nat) (l : List Nat) : Prop := 0 < l.length → ∃ b off, A = some ⟨b, off, none⟩ ∧ K b ∧ b < w.heap.size ∧ ∀ i (h : i < l.length), w.cell? ⟨b, off + i, none⟩ = some (nptr NB l[i])
theorem PtsK.pts {w : World} {K : Nat → Prop} {A : Option Addr} {NB : Nat} {l : List Nat} (h : PtsK w K A NB l) : PtsI w A NB l := fun hl => by
  obtain ⟨b, off, e, _, h1, h2⟩ := h hl
  exact ⟨b, off, e, h1, h2⟩
theorem PtsK.kept {w w' : World} {K K' : Nat → Prop} {A : Option Addr} {NB : Nat} {l : List Nat} (h : PtsK w K A NB l) (hk : Keeps K w w') (hK : ∀ k, k < w.heap.size → K k → K' k) : PtsK w' K' A NB l := fun hl => by
  obtain ⟨b, off, e, h0, h1, h2⟩ := h hl
  have := hk.1
  exact ⟨b, off, e, hK b h1 h0, by omega, fun i hi => by rw [World.cell?_of_block (hk.2 b h1 h0)]; exact h2 i hi⟩
/-- Values in a slice, in a block of K's. -/
def ValK (w : World) (K : Nat → Prop) (A : Option Addr) (vs : List Value) : Prop := 0 < vs.length → ∃ b off, A = some ⟨b, off, none⟩ ∧ K b ∧ b < w.heap.size ∧ ∀ i (h : i < vs.length), w.cell? ⟨b, off + i, none⟩ = some vs[i]
theorem ValK.kept {w w' : World} {K K' : Nat → Prop} {A : Option Addr} {vs : List Value} (h : ValK w K A vs) (hk : Keeps K w w') (hK : ∀ k, k < w.heap.size → K k → K' k) : ValK w' K' A vs := fun hl => by
  obtain ⟨b, off, e, h0, h1, h2⟩ := h hl
  have := hk.1
  exact ⟨b, off, e, hK b h1 h0, by omega, fun i hi => by rw [World.cell?_of_block (hk.2 b h1 h0)]; exact h2 i hi⟩

mutual
/-- An item, as it lies. -/
def NIAt (w : World) (K : Nat → Prop) (NB : Nat) : NI → Value → Prop
  | .blk i, v => v = .iface 100 (.agg #[nptr NB i])
  | .part P D W, v => ∃ b A1 c1 A2 c2 A3 c3 vs, v = .iface 61 (.pointer (some ⟨b, 0, none⟩)) ∧ K b ∧ Blk w b 65 #[.slice A1 P.length c1, .slice A2 D.length c2, .slice A3 W.length c3] ∧ PtsK w K A1 NB P ∧ PtsK w K A2 NB D ∧ vs.length = W.length ∧ ValK w K A3 vs ∧ NIsV w K NB W vs
/-- Items, each as it lies. -/
def NIsV (w : World) (K : Nat → Prop) (NB : Nat) : List NI → List Value → Prop
  | [], _ => True
  | x :: xs, vs => ∃ v vs', vs = v :: vs' ∧ NIAt w K NB x v ∧ NIsV w K NB xs vs'
end

mutual
theorem NIAt.kept {w w' : World} {K K' : Nat → Prop} {NB : Nat} (hk : Keeps K w w') (hK : ∀ k, k < w.heap.size → K k → K' k) : ∀ (x : NI) (v : Value), NIAt w K NB x v → NIAt w' K' NB x v
  | .blk i, v, h => by unfold NIAt at h ⊢; exact h
  | .part P D W, v, h => by
    unfold NIAt at h ⊢
    obtain ⟨b, A1, c1, A2, c2, A3, c3, vs, hv, h1, h2, h3, h4, h5, h6, h7⟩ := h
    exact ⟨b, A1, c1, A2, c2, A3, c3, vs, hv, hK b h2.lt h1, (hk.2 b h2.lt h1).trans h2, h3.kept hk hK, h4.kept hk hK, h5, h6.kept hk hK, NIsV.kept hk hK W vs h7⟩
theorem NIsV.kept {w w' : World} {K K' : Nat → Prop} {NB : Nat} (hk : Keeps K w w') (hK : ∀ k, k < w.heap.size → K k → K' k) : ∀ (xs : List NI) (vs : List Value), NIsV w K NB xs vs → NIsV w' K' NB xs vs
  | [], _, _ => by unfold NIsV; trivial
  | x :: xs, vs, h => by
    unfold NIsV at h ⊢
    obtain ⟨v, vs', e, h1, h2⟩ := h
    exact ⟨v, vs', e, NIAt.kept hk hK x v h1, NIsV.kept hk hK xs vs' h2⟩
end
theorem NIsV.snoc {w : World} {K : Nat → Prop} {NB : Nat} {x : NI} {v : Value} (hx : NIAt w K NB x v) : ∀ (xs : List NI) (vs : List Value), vs.length = xs.length → NIsV w K NB xs vs → NIsV w K NB (xs ++ [x]) (vs ++ [v])
  | [], vs, hl, _ => by
    have : vs = [] := List.eq_nil_of_length_eq_zero (by simpa using hl)
    subst this
    show NIsV w K NB [x] [v]
    unfold NIsV
    refine ⟨v, [], rfl, hx, ?_⟩
    unfold NIsV
    trivial
  | y :: ys, vs, hl, h => by
    unfold NIsV at h
    obtain ⟨u, vs', e, h1, h2⟩ := h
    subst e
    show NIsV w K NB (y :: (ys ++ [x])) (u :: (vs' ++ [v]))
    unfold NIsV
    exact ⟨u, vs' ++ [v], rfl, h1, NIsV.snoc hx ys vs' (by simpa using hl) h2⟩
theorem NIsV.get {w : World} {K : Nat → Prop} {NB : Nat} : ∀ (xs : List NI) (vs : List Value), NIsV w K NB xs vs → ∀ i (h : i < xs.length), ∃ v, vs[i]? = some v ∧ NIAt w K NB xs[i] v
  | [], _, _, i, h => absurd h (by simp)
  | x :: xs, vs, hN, i, h => by
    unfold NIsV at hN
    obtain ⟨v, vs', e, h1, h2⟩ := hN
    subst e
    cases i with
    | zero => exact ⟨v, rfl, h1⟩
    | succ i => exact NIsV.get xs vs' h2 i (by simpa using h)

/-- A list of items in a slice. -/
def NIsAt (w : World) (K : Nat → Prop) (NB : Nat) (W : List NI) (A : Option Addr) : Prop := ∃ vs, vs.length = W.length ∧ ValK w K A vs ∧ NIsV w K NB W vs
theorem NIsAt.kept {w w' : World} {K K' : Nat → Prop} {NB : Nat} {W : List NI} {A : Option Addr} (h : NIsAt w K NB W A) (hk : Keeps K w w') (hK : ∀ k, k < w.heap.size → K k → K' k) : NIsAt w' K' NB W A := by
  obtain ⟨vs, h1, h2, h3⟩ := h
  exact ⟨vs, h1, h2.kept hk hK, NIsV.kept hk hK _ _ h3⟩
theorem NIsAt.below {w w' : World} {K : Nat → Prop} {NB : Nat} {W : List NI} {A : Option Addr} (h : NIsAt w K NB W A) (hb : Below w.heap.size w w') : NIsAt w' K NB W A := h.kept ⟨hb.size, fun k hk _ => hb.block k hk⟩ fun _ _ h => h
theorem NIAt.below {w w' : World} {K : Nat → Prop} {NB : Nat} {x : NI} {v : Value} (h : NIAt w K NB x v) (hb : Below w.heap.size w w') : NIAt w' K NB x v := NIAt.kept ⟨hb.size, fun k hk _ => hb.block k hk⟩ (fun _ _ h => h) x v h
theorem NIsAt.nil (w : World) (K : Nat → Prop) (NB : Nat) (A : Option Addr) : NIsAt w K NB [] A := ⟨[], rfl, fun h => absurd h (by simp), by unfold NIsV; trivial⟩

/-- The nest: what is reached; its items are told apart. -/
structure NestT (w : World) (TB NB : Nat) (g : List Bl) : Prop where
  blk : ∃ A cap u, Blk w TB 57 #[.slice A (reachS g).length cap, u] ∧ PtsI w A NB (reachS g) ∧ (reachS g).length ≤ cap
  nodes : NodesIn w NB g
theorem NestT.below {w w' : World} {TB NB : Nat} {g : List Bl} (h : NestT w TB NB g) (hb : Below w.heap.size w w') : NestT w' TB NB g := by
  obtain ⟨A, cap, u, h1, h2, h3⟩ := h.blk
  exact ⟨⟨A, cap, u, h1.below hb h1.lt, h2.below hb, h3⟩, h.nodes.below hb⟩
end Go.Proofs.YtdpjdhllaokbfaaGreat
