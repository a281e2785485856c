/-
  A range over a function whose iterator writes blocks of its own between two rounds: what the iterator and the loop promise each other, and the law for the loop.
-/
import Derived.RangeFuncNested
import Derived.Deep.AppendSrc
import Derived.OwnWalkIn
import Derived.Test.YtdpjdhllaokbfaaGreatBase
import Derived.Lib.ConvBytes
namespace Go.Proofs.YtdpjdhllaokbfaaGreat
open Go.RowKit

variable {F : Fence} {n : Nat} {P : Program}

/-- Only blocks of O are turned, and new ones come. -/
structure Turns (O : Nat → Prop) (A B : World) : Prop where
  os : B.os = A.os
  tape : B.tape = A.tape
  output : B.output = A.output
  size : A.heap.size ≤ B.heap.size
  block : ∀ k, k < A.heap.size → ¬ O k → B.heap[k]? = A.heap[k]?

/-- What the one has of its own behind a step from A to B. -/
abbrev more (O : Nat → Prop) (A B : World) : Nat → Prop := fun k => O k ∨ (A.heap.size ≤ k ∧ k < B.heap.size)

theorem Turns.refl (O : Nat → Prop) (A : World) : Turns O A A := ⟨rfl, rfl, rfl, Nat.le_refl _, fun _ _ _ => rfl⟩
theorem Turns.wider {O O' : Nat → Prop} {A B : World} (h : Turns O A B) (hO : ∀ k, O k → O' k) : Turns O' A B := ⟨h.os, h.tape, h.output, h.size, fun k hk hn => h.block k hk fun e => hn (hO k e)⟩
theorem Turns.trans {O : Nat → Prop} {A B C : World} (h : Turns O A B) (k : Turns (more O A B) B C) : Turns O A C :=
  ⟨k.os.trans h.os, k.tape.trans h.tape, k.output.trans h.output, Nat.le_trans h.size k.size, fun i hi hn =>
    (k.block i (Nat.lt_of_lt_of_le hi h.size) (fun e => by rcases e with e | e; exact hn e; omega)).trans (h.block i hi hn)⟩
theorem Turns.of_below {O : Nat → Prop} {A B : World} (h : Below A.heap.size A B) : Turns O A B := ⟨h.os, h.tape, h.output, h.size, fun k hk _ => h.block k hk⟩
theorem Turns.of_grown {O : Nat → Prop} {A B : World} {row : Option Nat} (h : A.grownBy B row) (hr : ∀ k, row = some k → O k) : Turns O A B :=
  ⟨h.os, h.tape, h.output, h.size, fun k hk hn => h.block k hk fun e => hn (hr k e.symm)⟩
theorem Turns.alloc (O : Nat → Prop) (A : World) (o : Obj) : Turns O A (A.alloc o) := .of_below ((Below.refl _ A).alloc (Nat.le_refl _) o)
theorem Turns.drew (O : Nat → Prop) (A : World) : Turns O A A.drew := .of_below (Below.refl _ A).drew
theorem Turns.setCell {O : Nat → Prop} {A : World} {p : Addr} (hp : O p.block) (u : Value) : Turns O A (A.setCell p u) :=
  ⟨rfl, rfl, rfl, by simp [World.setCell], fun k _ hn => Below.heap_setCell _ _ _ _ (fun e => hn (e ▸ hp))⟩
theorem Turns.putObj {O : Nat → Prop} {A : World} {l : Nat} (hl : O l) (o : Obj) : Turns O A (A.putObj l o) :=
  .of_grown (grownBy_putObj' A l o) (fun k e => by cases e; exact hl)
theorem Turns.below {O : Nat → Prop} {A B : World} {n₀ : Nat} (h : Turns O A B) (hn : n₀ ≤ A.heap.size) (hO : ∀ k, O k → n₀ ≤ k) : Below n₀ A B :=
  ⟨h.os, h.tape, h.output, h.size, fun k hk => h.block k (by omega) fun e => by have := hO k e; omega⟩

/-- Blocks of O lie as they lay. -/
def Keeps (O : Nat → Prop) (A B : World) : Prop := A.heap.size ≤ B.heap.size ∧ ∀ k, k < A.heap.size → O k → B.heap[k]? = A.heap[k]?
theorem Keeps.refl (O : Nat → Prop) (A : World) : Keeps O A A := ⟨Nat.le_refl _, fun _ _ _ => rfl⟩
theorem Keeps.trans {O : Nat → Prop} {A B C : World} (h : Keeps O A B) (k : Keeps O B C) : Keeps O A C :=
  ⟨Nat.le_trans h.1 k.1, fun i hi ho => (k.2 i (Nat.lt_of_lt_of_le hi h.1) ho).trans (h.2 i hi ho)⟩
theorem Keeps.fewer {O O' : Nat → Prop} {A B : World} (h : Keeps O A B) (hO : ∀ k, O' k → O k) : Keeps O' A B := ⟨h.1, fun k hk ho => h.2 k hk (hO k ho)⟩
theorem Turns.keeps {O O' : Nat → Prop} {A B : World} (h : Turns O A B) (hO : ∀ k, O' k → ¬ O k) : Keeps O' A B := ⟨h.size, fun k hk ho => h.block k hk (hO k ho)⟩

/-- The contract of an iterator: R: blocks that it reads; O: blocks of its own, which grow. -/
def SeqOwn {α : Type} (F : Fence) (n : Nat) (P : Program) (g : Nat) (lb : Array Value) (encs : α → Array Value) (R : Nat → Prop) (Bd : List α → Prop) (Nx : List α → α → Prop) (S Sp : List α → Prop) (w : World) : Prop :=
  ∀ (l : Nat) (J : (Nat → Prop) → List α → World → Prop) (Jx : List α → World → Prop) (W : World), Below w.heap.size w W →
    (∀ O pre A B, J O pre A → Turns O A B → J (more O A B) pre B) → (∀ O pre A, J O pre A → Bd pre) →
    (∀ O pre x A, J O pre A → Nx pre x → YieldAt F (n - 1) P l (encs x) A fun e B =>
      (e = .returned (.bool true) ∧ J O (pre ++ [x]) B ∧ Keeps (fun k => R k ∨ O k) A B) ∨ (e = .returned (.bool false) ∧ Jx (pre ++ [x]) B)) →
    J (fun _ => False) [] W →
    CallsIn F n P g (#[.func (.yield l) #[] #[]] ++ lb) W fun e W' => (∃ v, e = .returned v) ∧ ((∃ xs O, S xs ∧ J O xs W') ∨ (∃ pre, Sp pre ∧ Jx pre W'))

/-- The same end, but for no panic. -/
def calm (Q : Exit → Act → World → Prop) : Exit → Act → World → Prop
  | .normal, a, w => Q .normal a w
  | .ret, a, w => Q .ret a w
  | .exit id, a, w => Q (.exit id) a w
  | .goto t, a, w => Q (.goto t) a w
  | .panic _, _, _ => False
  | .outgrown, _, _ => False

theorem calm_le {Q : Exit → Act → World → Prop} : ∀ e a w, calm Q e a w → Q e a w
  | .normal, _, _, h => h
  | .ret, _, _, h => h
  | .exit _, _, _, h => h
  | .goto _, _, _, h => h
  | .panic _, _, _, h => h.elim
  | .outgrown, _, _, h => h.elim

/-- How the body of a round may be left. -/
def ownEnd {α : Type} (K : Nat → Prop) (J : List α → World → Prop) (Ix : Code → List α → World → Prop) (xs : List α) (W : World) : Exit → Act → World → Prop
  | .normal, _, W' => Keeps K W W' ∧ J xs W'
  | .ret, _, W' => Keeps K W W' ∧ Ix .ret xs W'
  | .exit id, _, W' => Keeps K W W' ∧ Ix (.exit id) xs W'
  | .goto t, _, W' => Keeps K W W' ∧ Ix (.goto t) xs W'
  | .panic _, _, _ => False
  | .outgrown, _, _ => False

/-- The law: 'for x := range g { body }'. I speaks of what is not in O. -/
theorem wpIn_rangeFunc_mine {α : Type} {g : Operand} {ps : Array Tmp} {assign body : Code} {Q : Exit → Act → World → Prop} {a : Act} {w : World}
    (hro : F.round = none) (h1 : 1 ≤ n) {gf : Nat} {lb : Array Value} (hg : a.eval g = .func (.func gf) #[] lb) (hFg : F.fn gf) (eg : ∀ args w, (callFunc gf args).run P w = .ok (.enter gf args) w)
    {encs : α → Array Value} {R : Nat → Prop} {Bd S Sp : List α → Prop} {Nx : List α → α → Prop} {w0 : World} (hseq : SeqOwn F (n - 1) P gf lb encs R Bd Nx S Sp w0)
    (hb0 : Below w0.heap.size w0 w) (hps : ∀ x, (encs x).size = ps.size) (hR : ∀ k, R k → k < w.heap.size)
    (I : (Nat → Prop) → List α → World → Prop) (Ix : Code → List α → World → Prop)
    (hI : ∀ O pre A B, w.heap.size ≤ A.heap.size → (∀ k, O k → w.heap.size ≤ k ∧ k < A.heap.size) → I O pre A → Turns O A B → I (more O A B) pre B)
    (hIx : ∀ c pre A B, w.heap.size ≤ A.heap.size → Ix c pre A → Turns (fun k => k = w.heap.size ∨ k = w.heap.size + 1) A B → Ix c pre B)
    (hBd : ∀ O pre A, I O pre A → Bd pre)
    (h0 : I (fun _ => False) [] w) (a₁ : α → Act)
    (hassign : ∀ (l : Nat) (x : α) (W : World) (K : Act → World → Prop), K (a₁ x) W →
      assign.wpIn (F.inRound l) (n - 1 - 1) P (Exit.then K (fun _ _ _ => False)) { tmps := (ps.zip (encs x)).foldl (fun t (p, v) => t.setIfInBounds p v) a.tmps, defers := [] } W)
    (hbody : ∀ (l : Nat) (O : Nat → Prop) (pre : List α) (x : α) (W : World), w.heap.size ≤ W.heap.size → (∀ k, O k → w.heap.size ≤ k ∧ k < W.heap.size) → I O pre W → Nx pre x →
      body.wpIn (F.inRound l) (n - 1 - 1) P (ownEnd (fun k => R k ∨ O k) (I O) Ix (pre ++ [x]) W) (a₁ x) W)
    (hdone : ∀ (D : Nat) (O : Nat → Prop) (xs : List α) (W : World), w.heap.size = D → (∀ k, O k → w.heap.size ≤ k ∧ k < W.heap.size) → S xs → I O xs W → O D → W.heap[D]? = some (.deferred (some [])) → Q .normal { a with defers := { target := .collected D, args := #[] } :: a.defers } W)
    (hstop : ∀ (D : Nat) (c : Code) (pre : List α) (W : World), w.heap.size = D → Sp pre → Ix c pre W → W.heap[D]? = some (.deferred (some [])) → c.wpIn F n P Q { a with defers := { target := .collected D, args := #[] } :: a.defers } W) :
    (Code.rangeFunc g ps assign body).wpIn F n P Q a w := by
  refine wpIn_rangeFunc ?_
  intro fn hfn
  rw [hro]
  obtain ⟨rec, hrec⟩ : ∃ rec : LoopState → Option Code → Loop, rec = fun st pe => { state := st, pending := pe, fn, tmps := a.tmps, params := ps, assign, body, defers := w.heap.size } := ⟨_, rfl⟩
  obtain ⟨W1, hW1⟩ : ∃ W1, (w.alloc (.deferred (some []))).alloc (.loop (rec .ready none)) = W1 := ⟨_, rfl⟩
  have hL1 : W1.heap[w.heap.size + 1]? = some (.loop (rec .ready none)) := by
    rw [← hW1]; have := World.alloc_heap_new (w.alloc (.deferred (some []))) (.loop (rec .ready none)); rwa [World.size_alloc] at this
  have hK1 : W1.heap[w.heap.size]? = some (.deferred (some [])) := by
    rw [← hW1]; exact (Below.heap_alloc _ _ _ (by simp)).trans (World.alloc_heap_new w _)
  have hs1 : W1.heap.size = w.heap.size + 2 := by rw [← hW1]; simp
  have ht1 : Below w.heap.size w W1 := by rw [← hW1]; exact ((Below.refl _ w).alloc (Nat.le_refl _) _).alloc (by simp) _
  have hb1 : Below w0.heap.size w0 W1 := hb0.trans (ht1.mono hb0.size)
  -- what the loop itself has laid is counted among what is not the caller's
  obtain ⟨M, hM⟩ : ∃ M : (Nat → Prop) → Nat → Prop, M = fun O k => O k ∨ (w.heap.size ≤ k ∧ k < w.heap.size + 2) := ⟨_, rfl⟩
  have hM1 : ∀ O k, M O k ↔ (O k ∨ (w.heap.size ≤ k ∧ k < w.heap.size + 2)) := fun O k => by rw [hM]
  have hI1 : I (M (fun _ => False)) [] W1 := by
    have := hI _ _ _ _ (Nat.le_refl _) (fun _ h => h.elim) h0 (Turns.of_below (O := fun _ => False) ht1)
    have e : more (fun _ => False) w W1 = M (fun _ => False) := by funext k; rw [hM]; simp only [more, hs1]
    rwa [e] at this
  -- the invariant that the iterator is handed
  obtain ⟨J, hJ⟩ : ∃ J : (Nat → Prop) → List α → World → Prop, J = fun O pre W => I (M O) pre W ∧ (∀ k, O k → w.heap.size + 2 ≤ k ∧ k < W.heap.size) ∧ w.heap.size + 2 ≤ W.heap.size ∧
      W.heap[w.heap.size + 1]? = some (.loop (rec .ready none)) ∧ W.heap[w.heap.size]? = some (.deferred (some [])) := ⟨_, rfl⟩
  have hJ0 : J (fun _ => False) [] W1 := by rw [hJ]; exact ⟨hI1, fun _ h => h.elim, by omega, hL1, hK1⟩
  refine ⟨w.heap.size + 1, [{ target := .collected w.heap.size, args := #[] }], W1, { target := .fn (.func gf) lb, args := #[.func (.yield (w.heap.size + 1)) #[] #[]] }, W1, gf,
    #[.func (.yield (w.heap.size + 1)) #[] #[]] ++ lb, W1, ?_, ?_, ?_, ?_, fun _ => h1, ?_⟩
  · rw [← hW1, hrec]; exact run_enterLoop_outer _ _ _ _ _
  · simp only [resolve, hg]
    simp [go_sem]
  · intro f' hf'; simp [Target.leads] at hf'; subst hf'; exact hFg
  · simp [invoke, go_sem, eg]
  · refine (hseq (w.heap.size + 1) J
      (fun pre W => ∃ c, Ix c pre W ∧ w.heap.size + 2 ≤ W.heap.size ∧ W.heap[w.heap.size + 1]? = some (.loop (rec .done (some c))) ∧ W.heap[w.heap.size]? = some (.deferred (some [])))
      W1 hb1 ?_ ?_ ?_ hJ0).mono ?_
    · -- a step of the iterator
      intro O pre A B hA hT
      rw [hJ] at hA ⊢
      obtain ⟨hi, hO, hs, hl, hd⟩ := hA
      have hOM : ∀ k, M O k → w.heap.size ≤ k ∧ k < A.heap.size := fun k hk => by
        rcases (hM1 O k).1 hk with h | h
        · have := hO k h; omega
        · omega
      have hI2 := hI _ _ _ _ (by omega) hOM hi (hT.wider fun k hk => (hM1 O k).2 (.inl hk))
      have e : more (M O) A B = M (more O A B) := by
        funext k; rw [hM]; apply propext
        constructor
        · rintro ((h | h) | h)
          · exact .inl (.inl h)
          · exact .inr h
          · exact .inl (.inr h)
        · rintro ((h | h) | h)
          · exact .inl (.inl h)
          · exact .inr h
          · exact .inl (.inr h)
      rw [e] at hI2
      refine ⟨hI2, fun k hk => ?_, Nat.le_trans hs hT.size, (hT.block _ (by omega) fun h => by have := hO _ h; omega).trans hl, (hT.block _ (by omega) fun h => by have := hO _ h; omega).trans hd⟩
      rcases hk with h | h
      · have := hO k h; have := hT.size; omega
      · omega
    · intro O pre A hA
      rw [hJ] at hA
      exact hBd _ _ _ hA.1
    · -- one round
      intro O pre x W hA hnx
      have hA' := hA
      rw [hJ] at hA'
      obtain ⟨hi, hO, hs, hl, hk⟩ := hA'
      have hlt : w.heap.size + 1 < W.heap.size := by omega
      have hy := run_yield (P := P) (args := encs x) hl (by rw [hrec]; exact hps x)
      rw [hrec] at hy
      refine ⟨fn, _, assign, body, hy, roundIn_of_wpIn hfn (hassign _ x W _ ⟨_, run_beginRound hl (by rw [hrec]), ?_⟩)⟩
      clear hy
      have hOM : ∀ k, M O k → w.heap.size ≤ k ∧ k < W.heap.size := fun k hk => by
        rcases (hM1 O k).1 hk with h | h
        · have := hO k h; omega
        · omega
      have idem : ∀ A B : World, A.heap.size = B.heap.size → more (M O) A B = M O := fun A B e => by
        funext k; apply propext
        exact ⟨fun h => h.elim id fun h => by omega, .inl⟩
      have turn : ∀ (pre : List α) (A : World) (o : Obj), w.heap.size + 2 ≤ A.heap.size → (∀ k, M O k → w.heap.size ≤ k ∧ k < A.heap.size) → I (M O) pre A → I (M O) pre (A.putObj (w.heap.size + 1) o) := fun pre A o hs hOA hi => by
        have h2 := hI _ _ _ _ (by omega) hOA hi (Turns.putObj (l := w.heap.size + 1) ((hM1 O _).2 (.inr ⟨by omega, by omega⟩)) o)
        rwa [idem _ _ (by simp)] at h2
      obtain ⟨W2, hW2⟩ : ∃ W2, W.putObj (w.heap.size + 1) (.loop { rec .ready none with state := .busy }) = W2 := ⟨_, rfl⟩
      rw [hW2]
      have hl2 : W2.heap[w.heap.size + 1]? = some (.loop { rec .ready none with state := .busy }) := by rw [← hW2]; exact World.putObj_heap_same hlt
      have hk2 : W2.heap[w.heap.size]? = some (.deferred (some [])) := by rw [← hW2]; exact (World.putObj_heap_other (by omega)).trans hk
      have hs2 : W2.heap.size = W.heap.size := by rw [← hW2]; simp
      have hw2 : Keeps (fun k => R k ∨ O k) W W2 := by
        rw [← hW2]
        refine ⟨by simp, fun k _ h => World.putObj_heap_other ?_⟩
        rcases h with h | h
        · have := hR k h; omega
        · have := hO k h; omega
      have hi2 : I (M O) pre W2 := by rw [← hW2]; exact turn _ _ _ hs hOM hi
      refine wpIn_mono (hbody _ (M O) pre x W2 (by omega) (fun k hk => by rw [hs2]; exact hOM k hk) hi2 hnx) ?_
      have fin : ∀ (jump : Option Code) (W3 : World), Keeps (fun k => R k ∨ M O k) W2 W3 →
          (Instr.endRound (w.heap.size + 1) jump).run P W3 = .ok (.bool jump.isNone) (W3.putObj (w.heap.size + 1) (.loop (rec (if jump.isNone then .ready else .done) jump))) ∧
          w.heap.size + 2 ≤ W3.heap.size ∧
          (W3.putObj (w.heap.size + 1) (.loop (rec (if jump.isNone then .ready else .done) jump))).heap[w.heap.size + 1]? = some (.loop (rec (if jump.isNone then .ready else .done) jump)) ∧
          (W3.putObj (w.heap.size + 1) (.loop (rec (if jump.isNone then .ready else .done) jump))).heap[w.heap.size]? = some (.deferred (some [])) := fun jump W3 hk3 => by
        have hl3 := (hk3.2 (w.heap.size + 1) (by omega) (.inr ((hM1 O _).2 (.inr ⟨by omega, by omega⟩)))).trans hl2
        have hd3 := (hk3.2 w.heap.size (by omega) (.inr ((hM1 O _).2 (.inr ⟨by omega, by omega⟩)))).trans hk2
        have := run_endRound (P := P) jump hl3
        rw [hrec] at this ⊢
        exact ⟨this, by have := hk3.1; omega, World.putObj_heap_same (Array.getElem?_eq_some_iff.1 hl3).1, (World.putObj_heap_other (by omega)).trans hd3⟩
      have turnx : ∀ (c : Code) (pre : List α) (A : World) (o : Obj), w.heap.size ≤ A.heap.size → Ix c pre A → Ix c pre (A.putObj (w.heap.size + 1) o) := fun c pre A o hs h =>
        hIx c pre A _ hs h (Turns.putObj (.inr rfl) o)
      rintro e a3 W3 hp
      cases e with
      | normal =>
        obtain ⟨hk3, hi3⟩ := hp
        obtain ⟨hr, hs3, hl4, hk4⟩ := fin none W3 hk3
        have hOM3 : ∀ k, M O k → w.heap.size ≤ k ∧ k < W3.heap.size := fun k hk => by have := hOM k hk; have := hk3.1; omega
        refine ⟨_, _, hr, .inl ⟨rfl, ?_, (hw2.trans (hk3.fewer fun k h => h.elim .inl fun h => .inr ((hM1 O k).2 (.inl h)))).trans ⟨by simp, fun k _ h => World.putObj_heap_other ?_⟩⟩⟩
        · rw [hJ]
          exact ⟨turn _ _ _ hs3 hOM3 hi3, fun k hk => by have := hO k hk; have := hk3.1; simp; omega, by simp; omega, hl4, hk4⟩
        · rcases h with h | h
          · have := hR k h; omega
          · have := hO k h; omega
      | ret =>
        obtain ⟨hk3, hi3⟩ := hp
        obtain ⟨hr, hs3, hl4, hk4⟩ := fin (some .ret) W3 hk3
        exact ⟨_, _, hr, .inr ⟨rfl, .ret, turnx _ _ _ _ (by omega) hi3, by simp; omega, hl4, hk4⟩⟩
      | exit id =>
        obtain ⟨hk3, hi3⟩ := hp
        obtain ⟨hr, hs3, hl4, hk4⟩ := fin (some (.exit id)) W3 hk3
        exact ⟨_, _, hr, .inr ⟨rfl, .exit id, turnx _ _ _ _ (by omega) hi3, by simp; omega, hl4, hk4⟩⟩
      | goto t =>
        obtain ⟨hk3, hi3⟩ := hp
        obtain ⟨hr, hs3, hl4, hk4⟩ := fin (some (.goto t)) W3 hk3
        exact ⟨_, _, hr, .inr ⟨rfl, .goto t, turnx _ _ _ _ (by omega) hi3, by simp; omega, hl4, hk4⟩⟩
      | panic ch => exact hp.elim
      | outgrown => exact hp.elim
    · -- behind the iterator
      rintro e W2 ⟨⟨v, rfl⟩, (⟨xs, O, hS, hA⟩ | ⟨pre, hSp, c, hi, hs, hl, hk⟩)⟩
      · rw [hJ] at hA
        obtain ⟨hi, hO, hs, hl, hk⟩ := hA
        have hOM : ∀ k, M O k → w.heap.size ≤ k ∧ k < W2.heap.size := fun k hk => by
          rcases (hM1 O k).1 hk with h | h
          · have := hO k h; omega
          · omega
        have h2 := hI _ _ _ _ (by omega) hOM hi (Turns.putObj (l := w.heap.size + 1) ((hM1 O _).2 (.inr ⟨by omega, by omega⟩)) (.loop { rec .ready none with state := .exhausted }))
        refine ⟨none, _, by have := run_endLoop (P := P) hl (by rw [hrec]; simp); rw [hrec] at this; exact this, hdone _ (more (M O) W2 (W2.putObj (w.heap.size + 1) (.loop { rec .ready none with state := .exhausted }))) xs _ rfl ?_ hS (by rw [hrec] at h2 ⊢; exact h2) (.inl ((hM1 O _).2 (.inr ⟨by omega, by omega⟩))) ((World.putObj_heap_other (by omega)).trans hk)⟩
        intro k h
        rcases h with h | h
        · have := hOM k h; simp; omega
        · simp at h ⊢; omega
      · exact ⟨some c, _, by have := run_endLoop (P := P) hl (by rw [hrec]; simp); rw [hrec] at this; exact this, hstop _ c pre _ rfl hSp (hIx c pre W2 _ (by omega) hi (Turns.putObj (.inr rfl) _)) ((World.putObj_heap_other (by omega)).trans hk)⟩

end Go.Proofs.YtdpjdhllaokbfaaGreat

/-
  A queue: a slice that may begin inside its row; what is appended to it; its first one taken off.
-/
namespace Go.Proofs.YtdpjdhllaokbfaaGreat
open Go.RowKit

/-- The slice v holds n elements, the cells xs, in a row of O's. -/
def Que (w : World) (e : TypeId) (size : Nat) (O : Nat → Prop) (v : Value) (n : Nat) (xs : List Value) : Prop :=
  ∃ B off cap cs, v = .slice (some ⟨B, off, none⟩) n cap ∧ n ≤ cap ∧ w.heap[B]? = some (.cells cs e (0, 0)) ∧ off + cap * size ≤ cs.size ∧ O B ∧ xs.length = n * size ∧ ∀ j, j < xs.length → cs[off + j]? = xs[j]?

theorem Que.kept {w w' : World} {e : TypeId} {size : Nat} {O O' : Nat → Prop} {v : Value} {n : Nat} {xs : List Value} (h : Que w e size O v n xs) (hk : Keeps O w w') (hO : ∀ k, k < w.heap.size → O k → O' k) : Que w' e size O' v n xs := by
  obtain ⟨B, off, cap, cs, hv, hn, hb, hs, ho, hx, hc⟩ := h
  exact ⟨B, off, cap, cs, hv, hn, (hk.2 B (Array.getElem?_eq_some_iff.1 hb).1 ho).trans hb, hs, hO B (Array.getElem?_eq_some_iff.1 hb).1 ho, hx, hc⟩

theorem Que.made (w : World) (e : TypeId) (size : Nat) (O : Nat → Prop) (cs : Array Value) (n : Nat) (hs : cs.size = n * size) (hO : O w.heap.size) :
    Que (w.alloc (.cells cs e)) e size O (.slice (some ⟨w.heap.size, 0, none⟩) n n) n cs.toList :=
  ⟨w.heap.size, 0, n, cs, rfl, Nat.le_refl _, World.alloc_heap_new w _, by omega, hO, by simpa using hs, fun j hj => by simp⟩

/-- Its first element, and the rest. -/
theorem Que.cells {w : World} {e : TypeId} {size : Nat} {O : Nat → Prop} {v : Value} {n : Nat} {xs : List Value} (h : Que w e size O v n xs) :
    ∃ B off cap, v = .slice (some ⟨B, off, none⟩) n cap ∧ n ≤ cap ∧ O B ∧ B < w.heap.size ∧ ∀ j, j < xs.length → w.cell? ⟨B, off + j, none⟩ = xs[j]? := by
  obtain ⟨B, off, cap, cs, hv, hn, hb, hs, ho, hx, hc⟩ := h
  refine ⟨B, off, cap, hv, hn, ho, (Array.getElem?_eq_some_iff.1 hb).1, fun j hj => ?_⟩
  rw [cell_of_row w B (off + j) cs e (0, 0) hb]
  exact hc j hj

theorem Que.tail {w : World} {e : TypeId} {size : Nat} {O : Nat → Prop} {B off cap n : Nat} {xs : List Value} (h : Que w e size O (.slice (some ⟨B, off, none⟩) (n + 1) cap) (n + 1) xs) :
    Que w e size O (.slice (some ⟨B, off + size, none⟩) n (cap - 1)) n (xs.drop size) := by
  obtain ⟨B', off', cap', cs, hv, hn, hb, hs, ho, hx, hc⟩ := h
  simp only [Value.slice.injEq, Option.some.injEq, Addr.mk.injEq, and_true, true_and] at hv
  obtain ⟨⟨rfl, rfl⟩, rfl⟩ := hv
  have e1 : (n + 1) * size = n * size + size := Nat.succ_mul n size
  have e2 : cap * size = (cap - 1) * size + size := by rw [← Nat.succ_mul, Nat.succ_eq_add_one, Nat.sub_add_cancel (by omega)]
  refine ⟨B, off + size, cap - 1, cs, rfl, by omega, hb, by omega, ho, by rw [List.length_drop]; omega, fun j hj => ?_⟩
  rw [List.length_drop] at hj
  rw [List.getElem?_drop, Nat.add_assoc]
  exact hc (size + j) (by omega)

/-- The rest of one whose capacity is one. -/
theorem Que.tail0 {w : World} {e : TypeId} {O : Nat → Prop} {size B off cap n : Nat} {xs : List Value} (h : Que w e size O (.slice (some ⟨B, off, none⟩) (n + 1) cap) (n + 1) xs) (h1 : cap = 1) :
    Que w e size O (.slice (some ⟨B, off, none⟩) n 0) n (xs.drop size) := by
  obtain ⟨B', off', cap', cs, hv, hn, hb, hs, ho, hx, hc⟩ := h
  simp only [Value.slice.injEq, Option.some.injEq, Addr.mk.injEq, and_true, true_and] at hv
  obtain ⟨⟨rfl, rfl⟩, rfl⟩ := hv
  obtain rfl : n = 0 := by omega
  have hl : (xs.drop size).length = 0 := by rw [List.length_drop, hx]; omega
  exact ⟨B, off, 0, cs, rfl, Nat.le_refl _, hb, by omega, ho, by rw [hl]; omega, fun j hj => absurd hj (by omega)⟩

theorem setCells_block (b : Nat) (e : TypeId) : ∀ (vs : List Value) (o : Nat) (w : World) (cs : Array Value), w.heap[b]? = some (.cells cs e (0, 0)) →
    (∃ cs', (w.setCells b o vs).heap[b]? = some (.cells cs' e (0, 0)) ∧ cs'.size = cs.size ∧ (∀ j, j < vs.length → o + j < cs.size → cs'[o + j]? = vs[j]?) ∧ (∀ k, k < o ∨ o + vs.length ≤ k → cs'[k]? = cs[k]?)) ∧
    Turns (fun k => k = b) w (w.setCells b o vs) ∧ (w.setCells b o vs).heap.size = w.heap.size
  | [], o, w, cs, h => ⟨⟨cs, h, rfl, fun j hj => absurd hj (by simp), fun _ _ => rfl⟩, Turns.refl _ _, rfl⟩
  | v :: vs, o, w, cs, h => by
    have h1 : (w.setCell ⟨b, o, none⟩ v).heap[b]? = some (.cells (cs.setIfInBounds o v) e (0, 0)) := by simp [World.setCell, Array.getElem?_modify, h]
    obtain ⟨⟨cs', a1, a2, a3, a4⟩, a5, a6⟩ := setCells_block b e vs (o + 1) _ _ h1
    have hs0 : (w.setCell ⟨b, o, none⟩ v).heap.size = w.heap.size := by simp
    refine ⟨⟨cs', a1, by simpa using a2, fun j hj hb => ?_, fun k hk => ?_⟩, (Turns.setCell (O := fun k => k = b) (p := ⟨b, o, none⟩) rfl v).trans (a5.wider fun k hk => .inl hk), a6.trans hs0⟩
    · cases j with
      | zero => rw [Nat.add_zero, a4 o (.inl (by omega))]; simp at hb ⊢; rw [Array.getElem?_setIfInBounds_self_of_lt hb]
      | succ j =>
        have := a3 j (by simpa using hj) (by simp; omega)
        rw [show o + (j + 1) = o + 1 + j by omega, this]; simp
    · simp only [List.length_cons] at hk
      rw [a4 k (by omega), Array.getElem?_setIfInBounds_ne (by omega)]

/-- More behind it. -/
theorem run_append_que {P : Program} (w : World) (t ty e : TypeId) (i : TypeInfo) (z : Value) (size : Nat) (ht : P.underlying t = some (.slice e)) (hi : P.info? e = some i) (hz : i.zero = some z) (hsize : i.size = size) (hby : i.bytes ≤ 1024) (hzs : z.cells.size = size)
    (O : Nat → Prop) (v : Value) (n : Nat) (xs : List Value) (hq : Que w e size O v n xs) (a : Addr) (m c : Nat) (news : List Value) (hl : news.length = m * size) (hnews : ∀ j u, news[j]? = some u → w.cell? (a.add j) = some u) (h1 : ∀ u ∈ news, u.oneCell' = true) (hn : n + m ≤ 1048576) :
    ∃ v' w', (Builtin.append_ #[t, t] ty #[v, .slice (some a) m c]).run P w = .ok v' w' ∧ Que w' e size (more O w w') v' (n + m) (xs ++ news) ∧ Turns O w w' := by
  obtain ⟨B, off, cap, cs, rfl, hle, hb, hs, ho, hx, hc⟩ := hq
  have hsrc := Src.ofSlice (P := P) (w := w) (size := i.size) ht a m c news (by rw [hsize]; exact hl) hnews h1
  have hxl : (xs ++ news).length = (n + m) * size := by rw [List.length_append, hx, hl, Nat.add_mul]
  by_cases hfit : n + m ≤ cap
  · have hcm : (n + m) * size ≤ cap * size := Nat.mul_le_mul_right _ hfit
    rw [Nat.add_mul] at hcm
    have hrun := run_append_room_src (P := P) w t t ty e i ht hi B off n cap _ m news hsrc hfit
      (fun j hj => by
        rw [cell_of_row w B _ cs e (0, 0) hb, hsize, Array.getElem?_eq_getElem (by rw [hl] at hj; omega)]; rfl)
      (fun j hj => by simp [World.frozen?, hb])
    obtain ⟨⟨cs', a1, a2, a3, a4⟩, a5, a6⟩ := setCells_block B e news (off + n * i.size) w cs hb
    refine ⟨_, _, hrun, ⟨B, off, cap, cs', rfl, hfit, a1, by omega, .inl ho, hxl, fun j hj => ?_⟩, a5.wider fun k hk => hk ▸ ho⟩
    rw [hsize] at a3 a4
    by_cases hj1 : j < xs.length
    · rw [a4 _ (.inl (by omega)), hc j hj1, List.getElem?_append_left hj1]
    · have hj2 : j - xs.length < news.length := by rw [List.length_append] at hj; omega
      have := a3 (j - xs.length) hj2 (by rw [hl] at hj2; omega)
      rw [List.getElem?_append_right (by omega), ← this]
      congr 1; omega
  · have hold : (Builtin.firstCells i.size n (.slice (some ⟨B, off, none⟩) n cap)).run P w.drew = .ok xs.toArray w.drew :=
      run_firstCells_some w.drew i.size n ⟨B, off, none⟩ n cap xs (by rw [hsize]; exact hx) (fun j u hu => by
        have hj : j < xs.length := (List.getElem?_eq_some_iff.1 hu).1
        have hadd : (⟨B, off, none⟩ : Addr).add j = ⟨B, off + j, none⟩ := by unfold Addr.add; split <;> simp_all
        rw [hadd, cell_of_row w.drew B (off + j) cs e (0, 0) hb, hc j hj, hu])
    have hg : cap < n + m := by omega
    have hb48 : (n + m) * i.bytes ≤ 1048576 * 1024 := Nat.mul_le_mul hn hby
    have hrun := run_append_grow_src (P := P) w t t ty e i z ht hi hz (some ⟨B, off, none⟩) n cap xs hold _ m news hsrc hg (by omega) (growslice_fits hg (by omega))
    have hge := grownCap_ge w (n + m) cap e
    refine ⟨_, _, hrun, ⟨w.heap.size, 0, _, _, rfl, hge, World.alloc_heap_new w.drew _, ?_, .inr ⟨Nat.le_refl _, by simp⟩, hxl, fun j hj => ?_⟩, (Turns.drew O w).trans ((Turns.alloc O w.drew _).wider fun k hk => .inl hk)⟩
    · rw [Array.size_append, List.size_toArray, hxl, size_zeroCells, hzs, ← Nat.add_mul, Nat.zero_add]
      exact Nat.mul_le_mul_right _ (by omega)
    · rw [Nat.zero_add, Array.getElem?_append_left (by simpa using hj), List.getElem?_toArray]

theorem wpListIn_append_que {F : Fence} {n : Nat} {P : Program} (w : World) {ops : Array Oper} {rest : List Oper} {o : Oper} {a : Act} {Q : Exit → Act → World → Prop}
    (hg : o.guard = none) (s x : Operand) (t : TypeId) (hop : o.op = Op.call { callee := Callee.builtin Builtin.append, args := #[s, x], argTypes := #[t, t] })
    (e : TypeId) (i : TypeInfo) (z : Value) (size : Nat) (ht : P.underlying t = some (.slice e)) (hi : P.info? e = some i) (hz : i.zero = some z) (hsize : i.size = size) (hby : i.bytes ≤ 1024) (hzs : z.cells.size = size)
    (O : Nat → Prop) (v : Value) (k : Nat) (xs : List Value) (hs : a.eval s = v) (hq : Que w e size O v k xs) (ad : Addr) (m c : Nat) (news : List Value) (hx : a.eval x = .slice (some ad) m c) (hl : news.length = m * size)
    (hc : ∀ j u, news[j]? = some u → w.cell? (ad.add j) = some u) (h1c : ∀ u ∈ news, u.oneCell' = true) (b1 : k + m ≤ 1048576)
    (hK : ∀ v' w', Que w' e size (more O w w') v' (k + m) (xs ++ news) → Turns O w w' → wpListIn F n P ops Q rest (a.put o.dst v') w') :
    wpListIn F n P ops Q (o :: rest) a w := by
  refine wpListIn_plain hg fun K hK' => ?_
  obtain ⟨v', w', hrun, r1, r2⟩ := run_append_que (P := P) w t o.type e i z size ht hi hz hsize hby hzs O v k xs hq ad m c news hl hc h1c b1
  unfold Oper.wpIn
  refine ⟨?_, ?_⟩
  · simp [Oper.about, hop, resolve, Target.leads, Sem.run_pure]
  · rw [Oper.semAt_plain F _ _ (by rw [hop]; intro c hc'; cases hc')]
    simp [execOp, hop, resolve, invoke, builtin, hs, hx, hrun, Result.andThen]
    exact hK' _ _ (hK v' w' r1 r2)

/-- The same, or nil. -/
def Row (w : World) (e : TypeId) (size : Nat) (O : Nat → Prop) (v : Value) (n : Nat) (xs : List Value) : Prop := (v = .slice none 0 0 ∧ n = 0 ∧ xs = []) ∨ Que w e size O v n xs

theorem Row.nil (w : World) (e : TypeId) (size : Nat) (O : Nat → Prop) : Row w e size O (.slice none 0 0) 0 [] := .inl ⟨rfl, rfl, rfl⟩

theorem Row.kept {w w' : World} {e : TypeId} {size : Nat} {O O' : Nat → Prop} {v : Value} {n : Nat} {xs : List Value} (h : Row w e size O v n xs) (hk : Keeps O w w') (hO : ∀ k, k < w.heap.size → O k → O' k) : Row w' e size O' v n xs :=
  h.imp id fun h => h.kept hk hO

theorem run_append_row {P : Program} (w : World) (t ty e : TypeId) (i : TypeInfo) (z : Value) (size : Nat) (ht : P.underlying t = some (.slice e)) (hi : P.info? e = some i) (hz : i.zero = some z) (hsize : i.size = size) (hby : i.bytes ≤ 1024) (hzs : z.cells.size = size)
    (O : Nat → Prop) (v : Value) (n : Nat) (xs : List Value) (hq : Row w e size O v n xs) (a : Addr) (m c : Nat) (news : List Value) (hl : news.length = m * size) (hnews : ∀ j u, news[j]? = some u → w.cell? (a.add j) = some u) (h1 : ∀ u ∈ news, u.oneCell' = true) (hn : n + m ≤ 1048576) (hm : 0 < m) :
    ∃ v' w', (Builtin.append_ #[t, t] ty #[v, .slice (some a) m c]).run P w = .ok v' w' ∧ Que w' e size (more O w w') v' (n + m) (xs ++ news) ∧ Turns O w w' := by
  rcases hq with ⟨rfl, rfl, rfl⟩ | hq
  · have hsrc := Src.ofSlice (P := P) (w := w) (size := i.size) ht a m c news (by rw [hsize]; exact hl) hnews h1
    have hg : 0 < 0 + m := by omega
    have hb48 : (0 + m) * i.bytes ≤ 1048576 * 1024 := Nat.mul_le_mul hn hby
    have hrun := run_append_grow_src (P := P) w t t ty e i z ht hi hz none 0 0 [] (run_firstCells_none w.drew i.size 0 0 0) _ m news hsrc hg (by omega) (growslice_fits hg (by omega))
    have hge := grownCap_ge w (0 + m) 0 e
    refine ⟨_, _, hrun, ⟨w.heap.size, 0, _, _, rfl, hge, World.alloc_heap_new w.drew _, ?_, .inr ⟨Nat.le_refl _, by simp⟩, by rw [List.nil_append, hl, Nat.zero_add], fun j hj => ?_⟩, (Turns.drew O w).trans ((Turns.alloc O w.drew _).wider fun k hk => .inl hk)⟩
    · rw [Array.size_append, List.size_toArray, List.nil_append, hl, size_zeroCells, hzs, ← Nat.add_mul, Nat.zero_add]
      exact Nat.mul_le_mul_right _ (by omega)
    · rw [Array.getElem?_append_left (by simpa using hj), List.getElem?_toArray, Nat.zero_add]
  · exact run_append_que w t ty e i z size ht hi hz hsize hby hzs O v n xs hq a m c news hl hnews h1 hn

theorem wpListIn_append_row {F : Fence} {n : Nat} {P : Program} (w : World) {ops : Array Oper} {rest : List Oper} {o : Oper} {a : Act} {Q : Exit → Act → World → Prop}
    (hg : o.guard = none) (s x : Operand) (t : TypeId) (hop : o.op = Op.call { callee := Callee.builtin Builtin.append, args := #[s, x], argTypes := #[t, t] })
    (e : TypeId) (i : TypeInfo) (z : Value) (size : Nat) (ht : P.underlying t = some (.slice e)) (hi : P.info? e = some i) (hz : i.zero = some z) (hsize : i.size = size) (hby : i.bytes ≤ 1024) (hzs : z.cells.size = size)
    (O : Nat → Prop) (v : Value) (k : Nat) (xs : List Value) (hs : a.eval s = v) (hq : Row w e size O v k xs) (ad : Addr) (m c : Nat) (news : List Value) (hx : a.eval x = .slice (some ad) m c) (hl : news.length = m * size)
    (hc : ∀ j u, news[j]? = some u → w.cell? (ad.add j) = some u) (h1c : ∀ u ∈ news, u.oneCell' = true) (b1 : k + m ≤ 1048576) (hm : 0 < m)
    (hK : ∀ v' w', Que w' e size (more O w w') v' (k + m) (xs ++ news) → Turns O w w' → wpListIn F n P ops Q rest (a.put o.dst v') w') :
    wpListIn F n P ops Q (o :: rest) a w := by
  refine wpListIn_plain hg fun K hK' => ?_
  obtain ⟨v', w', hrun, r1, r2⟩ := run_append_row (P := P) w t o.type e i z size ht hi hz hsize hby hzs O v k xs hq ad m c news hl hc h1c b1 hm
  unfold Oper.wpIn
  refine ⟨?_, ?_⟩
  · simp [Oper.about, hop, resolve, Target.leads, Sem.run_pure]
  · rw [Oper.semAt_plain F _ _ (by rw [hop]; intro c hc'; cases hc')]
    simp [execOp, hop, resolve, invoke, builtin, hs, hx, hrun, Result.andThen]
    exact hK' _ _ (hK v' w' r1 r2)

end Go.Proofs.YtdpjdhllaokbfaaGreat

/-
  Contracts of ChoicesValid, the program's and the model's.
-/
namespace Go.Proofs.YtdpjdhllaokbfaaGreat
open Go.RowKit Go.Sort

/-- Only l and r. -/
def isLR (s : List UInt8) : Bool := s.all fun c => c == 108 || c == 114

def choicesB (s : ByteArray) : Bool := decide (s.size ≤ 20) && isLR s.data.toList

theorem choices_no {s : ByteArray} (h : 20 < s.size) : choicesB s = false := by
  unfold choicesB; rw [decide_eq_false (by omega)]; rfl

theorem choices_bad {s : ByteArray} {k : Nat} (hk : k < s.size) (h1 : s[k] ≠ 108) (h2 : s[k] ≠ 114) : choicesB s = false := by
  unfold choicesB isLR
  have hm : s[k] ∈ s.data.toList := List.mem_of_getElem? (byte_at s k hk)
  have : s.data.toList.all (fun c => c == 108 || c == 114) = false := by
    rw [List.all_eq_false]
    exact ⟨_, hm, by simp [h1, h2]⟩
  rw [this, Bool.and_false]

theorem choices_good {s : ByteArray} (h : ∀ k (hk : k < s.size), s[k] = 108 ∨ s[k] = 114) : isLR s.data.toList = true := by
  unfold isLR
  rw [List.all_eq_true]
  intro c hc
  obtain ⟨k, hk, e⟩ := List.getElem_of_mem hc
  have hk' : k < s.size := by simpa using hk
  have h1 := byte_at s k hk'
  rw [List.getElem?_eq_getElem hk, e] at h1
  have h2 := h k hk'
  rw [← Option.some.inj h1] at h2
  simpa using h2

theorem byte_bne {a b : UInt8} {n : Int} (h : a ≠ b) (hn : (b.toNat : Int) = n) : ((a.toNat : Int) != n) = true := by
  subst hn; simp only [bne, byte_ne h, Bool.not_false]


theorem bytes_below (w : World) (e : TypeId) (s : ByteArray) : Below w.heap.size w (Lib.bytesWorld w e s) :=
  ⟨rfl, rfl, rfl, by rw [Lib.bytesWorld_size]; omega, fun k hk => Lib.bytesWorld_at_old w e s k hk⟩


end Go.Proofs.YtdpjdhllaokbfaaGreat

/-
  A range over a function that is never left ahead of its end, whose iterator writes blocks of its own: what both promise each other, and the law for the loop.
-/
namespace Go.Proofs.YtdpjdhllaokbfaaGreat
open Go.RowKit

variable {F : Fence} {n : Nat} {P : Program}

/-- The contract of an iterator whose loop goes on to the end: R: blocks that it reads; O: blocks of its own, which grow. -/
def SeqAll {α : Type} (F : Fence) (n : Nat) (P : Program) (g : Nat) (lb : Array Value) (encs : α → Array Value) (R : Nat → Prop) (Nx : List α → α → Prop) (S : List α → Prop) (w : World) : Prop :=
  ∀ (l : Nat) (J : (Nat → Prop) → List α → World → Prop) (W : World), Below w.heap.size w W →
    (∀ O pre A B, J O pre A → Turns O A B → J (more O A B) pre B) →
    (∀ O pre x A, J O pre A → Nx pre x → YieldAt F (n - 1) P l (encs x) A fun e B =>
      e = .returned (.bool true) ∧ J O (pre ++ [x]) B ∧ Keeps (fun k => R k ∨ O k) A B) →
    J (fun _ => False) [] W →
    CallsIn F n P g (#[.func (.yield l) #[] #[]] ++ lb) W fun e W' => (∃ v, e = .returned v) ∧ ∃ xs O, S xs ∧ J O xs W'

/-- The body of a round ends, and has kept what it was to keep. -/
def allEnd {α : Type} (K : Nat → Prop) (J : List α → World → Prop) (xs : List α) (W : World) : Exit → Act → World → Prop
  | .normal, _, W' => Keeps K W W' ∧ J xs W'
  | .ret, _, _ => False
  | .exit _, _, _ => False
  | .goto _, _, _ => False
  | .panic _, _, _ => False
  | .outgrown, _, _ => False

/-- The law: 'for x := range g { body }'. I speaks of what is not in O. -/
theorem wpIn_rangeFunc_all {α : Type} {g : Operand} {ps : Array Tmp} {assign body : Code} {Q : Exit → Act → World → Prop} {a : Act} {w : World}
    (hro : F.round = none) (h1 : 1 ≤ n) {gf : Nat} {lb : Array Value} (hg : a.eval g = .func (.func gf) #[] lb) (hFg : F.fn gf) (eg : ∀ args w, (callFunc gf args).run P w = .ok (.enter gf args) w)
    {encs : α → Array Value} {R : Nat → Prop} {S : List α → Prop} {Nx : List α → α → Prop} {w0 : World} (hseq : SeqAll F (n - 1) P gf lb encs R Nx S w0)
    (hb0 : Below w0.heap.size w0 w) (hps : ∀ x, (encs x).size = ps.size) (hR : ∀ k, R k → k < w.heap.size)
    (I : (Nat → Prop) → List α → World → Prop)
    (hI : ∀ O pre A B, w.heap.size ≤ A.heap.size → (∀ k, O k → w.heap.size ≤ k ∧ k < A.heap.size) → I O pre A → Turns O A B → I (more O A B) pre B)
    (h0 : I (fun _ => False) [] w) (a₁ : α → Act)
    (hassign : ∀ (l : Nat) (x : α) (W : World) (K : Act → World → Prop), K (a₁ x) W →
      assign.wpIn (F.inRound l) (n - 1 - 1) P (Exit.then K (fun _ _ _ => False)) { tmps := (ps.zip (encs x)).foldl (fun t (p, v) => t.setIfInBounds p v) a.tmps, defers := [] } W)
    (hbody : ∀ (l : Nat) (O : Nat → Prop) (pre : List α) (x : α) (W : World), w.heap.size ≤ W.heap.size → (∀ k, O k → w.heap.size ≤ k ∧ k < W.heap.size) → I O pre W → Nx pre x →
      body.wpIn (F.inRound l) (n - 1 - 1) P (allEnd (fun k => R k ∨ O k) (I O) (pre ++ [x]) W) (a₁ x) W)
    (hdone : ∀ (D : Nat) (O : Nat → Prop) (xs : List α) (W : World), w.heap.size = D → (∀ k, O k → w.heap.size ≤ k ∧ k < W.heap.size) → S xs → I O xs W → O D → W.heap[D]? = some (.deferred (some [])) → Q .normal { a with defers := { target := .collected D, args := #[] } :: a.defers } W) :
    (Code.rangeFunc g ps assign body).wpIn F n P Q a w := by
  refine wpIn_rangeFunc ?_
  intro fn hfn
  rw [hro]
  obtain ⟨rec, hrec⟩ : ∃ rec : LoopState → Option Code → Loop, rec = fun st pe => { state := st, pending := pe, fn, tmps := a.tmps, params := ps, assign, body, defers := w.heap.size } := ⟨_, rfl⟩
  obtain ⟨W1, hW1⟩ : ∃ W1, (w.alloc (.deferred (some []))).alloc (.loop (rec .ready none)) = W1 := ⟨_, rfl⟩
  have hL1 : W1.heap[w.heap.size + 1]? = some (.loop (rec .ready none)) := by
    rw [← hW1]; have := World.alloc_heap_new (w.alloc (.deferred (some []))) (.loop (rec .ready none)); rwa [World.size_alloc] at this
  have hK1 : W1.heap[w.heap.size]? = some (.deferred (some [])) := by
    rw [← hW1]; exact (Below.heap_alloc _ _ _ (by simp)).trans (World.alloc_heap_new w _)
  have hs1 : W1.heap.size = w.heap.size + 2 := by rw [← hW1]; simp
  have ht1 : Below w.heap.size w W1 := by rw [← hW1]; exact ((Below.refl _ w).alloc (Nat.le_refl _) _).alloc (by simp) _
  have hb1 : Below w0.heap.size w0 W1 := hb0.trans (ht1.mono hb0.size)
  -- what the loop itself has laid is counted among what is not the caller's
  obtain ⟨M, hM⟩ : ∃ M : (Nat → Prop) → Nat → Prop, M = fun O k => O k ∨ (w.heap.size ≤ k ∧ k < w.heap.size + 2) := ⟨_, rfl⟩
  have hM1 : ∀ O k, M O k ↔ (O k ∨ (w.heap.size ≤ k ∧ k < w.heap.size + 2)) := fun O k => by rw [hM]
  have hI1 : I (M (fun _ => False)) [] W1 := by
    have := hI _ _ _ _ (Nat.le_refl _) (fun _ h => h.elim) h0 (Turns.of_below (O := fun _ => False) ht1)
    have e : more (fun _ => False) w W1 = M (fun _ => False) := by funext k; rw [hM]; simp only [more, hs1]
    rwa [e] at this
  -- the invariant that the iterator is handed
  obtain ⟨J, hJ⟩ : ∃ J : (Nat → Prop) → List α → World → Prop, J = fun O pre W => I (M O) pre W ∧ (∀ k, O k → w.heap.size + 2 ≤ k ∧ k < W.heap.size) ∧ w.heap.size + 2 ≤ W.heap.size ∧
      W.heap[w.heap.size + 1]? = some (.loop (rec .ready none)) ∧ W.heap[w.heap.size]? = some (.deferred (some [])) := ⟨_, rfl⟩
  have hJ0 : J (fun _ => False) [] W1 := by rw [hJ]; exact ⟨hI1, fun _ h => h.elim, by omega, hL1, hK1⟩
  refine ⟨w.heap.size + 1, [{ target := .collected w.heap.size, args := #[] }], W1, { target := .fn (.func gf) lb, args := #[.func (.yield (w.heap.size + 1)) #[] #[]] }, W1, gf,
    #[.func (.yield (w.heap.size + 1)) #[] #[]] ++ lb, W1, ?_, ?_, ?_, ?_, fun _ => h1, ?_⟩
  · rw [← hW1, hrec]; exact run_enterLoop_outer _ _ _ _ _
  · simp only [resolve, hg]
    simp [go_sem]
  · intro f' hf'; simp [Target.leads] at hf'; subst hf'; exact hFg
  · simp [invoke, go_sem, eg]
  · refine (hseq (w.heap.size + 1) J W1 hb1 ?_ ?_ hJ0).mono ?_
    · -- a step of the iterator
      intro O pre A B hA hT
      rw [hJ] at hA ⊢
      obtain ⟨hi, hO, hs, hl, hd⟩ := hA
      have hOM : ∀ k, M O k → w.heap.size ≤ k ∧ k < A.heap.size := fun k hk => by
        rcases (hM1 O k).1 hk with h | h
        · have := hO k h; omega
        · omega
      have hI2 := hI _ _ _ _ (by omega) hOM hi (hT.wider fun k hk => (hM1 O k).2 (.inl hk))
      have e : more (M O) A B = M (more O A B) := by
        funext k; rw [hM]; apply propext
        constructor
        · rintro ((h | h) | h)
          · exact .inl (.inl h)
          · exact .inr h
          · exact .inl (.inr h)
        · rintro ((h | h) | h)
          · exact .inl (.inl h)
          · exact .inr h
          · exact .inl (.inr h)
      rw [e] at hI2
      refine ⟨hI2, fun k hk => ?_, Nat.le_trans hs hT.size, (hT.block _ (by omega) fun h => by have := hO _ h; omega).trans hl, (hT.block _ (by omega) fun h => by have := hO _ h; omega).trans hd⟩
      rcases hk with h | h
      · have := hO k h; have := hT.size; omega
      · omega
    · -- one round
      intro O pre x W hA hnx
      have hA' := hA
      rw [hJ] at hA'
      obtain ⟨hi, hO, hs, hl, hk⟩ := hA'
      have hlt : w.heap.size + 1 < W.heap.size := by omega
      have hy := run_yield (P := P) (args := encs x) hl (by rw [hrec]; exact hps x)
      rw [hrec] at hy
      refine ⟨fn, _, assign, body, hy, roundIn_of_wpIn hfn (hassign _ x W _ ⟨_, run_beginRound hl (by rw [hrec]), ?_⟩)⟩
      clear hy
      have hOM : ∀ k, M O k → w.heap.size ≤ k ∧ k < W.heap.size := fun k hk => by
        rcases (hM1 O k).1 hk with h | h
        · have := hO k h; omega
        · omega
      have idem : ∀ A B : World, A.heap.size = B.heap.size → more (M O) A B = M O := fun A B e => by
        funext k; apply propext
        exact ⟨fun h => h.elim id fun h => by omega, .inl⟩
      have turn : ∀ (pre : List α) (A : World) (o : Obj), w.heap.size + 2 ≤ A.heap.size → (∀ k, M O k → w.heap.size ≤ k ∧ k < A.heap.size) → I (M O) pre A → I (M O) pre (A.putObj (w.heap.size + 1) o) := fun pre A o hs hOA hi => by
        have h2 := hI _ _ _ _ (by omega) hOA hi (Turns.putObj (l := w.heap.size + 1) ((hM1 O _).2 (.inr ⟨by omega, by omega⟩)) o)
        rwa [idem _ _ (by simp)] at h2
      obtain ⟨W2, hW2⟩ : ∃ W2, W.putObj (w.heap.size + 1) (.loop { rec .ready none with state := .busy }) = W2 := ⟨_, rfl⟩
      rw [hW2]
      have hl2 : W2.heap[w.heap.size + 1]? = some (.loop { rec .ready none with state := .busy }) := by rw [← hW2]; exact World.putObj_heap_same hlt
      have hk2 : W2.heap[w.heap.size]? = some (.deferred (some [])) := by rw [← hW2]; exact (World.putObj_heap_other (by omega)).trans hk
      have hs2 : W2.heap.size = W.heap.size := by rw [← hW2]; simp
      have hw2 : Keeps (fun k => R k ∨ O k) W W2 := by
        rw [← hW2]
        refine ⟨by simp, fun k _ h => World.putObj_heap_other ?_⟩
        rcases h with h | h
        · have := hR k h; omega
        · have := hO k h; omega
      have hi2 : I (M O) pre W2 := by rw [← hW2]; exact turn _ _ _ hs hOM hi
      refine wpIn_mono (hbody _ (M O) pre x W2 (by omega) (fun k hk => by rw [hs2]; exact hOM k hk) hi2 hnx) ?_
      have fin : ∀ (jump : Option Code) (W3 : World), Keeps (fun k => R k ∨ M O k) W2 W3 →
          (Instr.endRound (w.heap.size + 1) jump).run P W3 = .ok (.bool jump.isNone) (W3.putObj (w.heap.size + 1) (.loop (rec (if jump.isNone then .ready else .done) jump))) ∧
          w.heap.size + 2 ≤ W3.heap.size ∧
          (W3.putObj (w.heap.size + 1) (.loop (rec (if jump.isNone then .ready else .done) jump))).heap[w.heap.size + 1]? = some (.loop (rec (if jump.isNone then .ready else .done) jump)) ∧
          (W3.putObj (w.heap.size + 1) (.loop (rec (if jump.isNone then .ready else .done) jump))).heap[w.heap.size]? = some (.deferred (some [])) := fun jump W3 hk3 => by
        have hl3 := (hk3.2 (w.heap.size + 1) (by omega) (.inr ((hM1 O _).2 (.inr ⟨by omega, by omega⟩)))).trans hl2
        have hd3 := (hk3.2 w.heap.size (by omega) (.inr ((hM1 O _).2 (.inr ⟨by omega, by omega⟩)))).trans hk2
        have := run_endRound (P := P) jump hl3
        rw [hrec] at this ⊢
        exact ⟨this, by have := hk3.1; omega, World.putObj_heap_same (Array.getElem?_eq_some_iff.1 hl3).1, (World.putObj_heap_other (by omega)).trans hd3⟩
      rintro e a3 W3 hp
      cases e with
      | normal =>
        obtain ⟨hk3, hi3⟩ := hp
        obtain ⟨hr, hs3, hl4, hk4⟩ := fin none W3 hk3
        have hOM3 : ∀ k, M O k → w.heap.size ≤ k ∧ k < W3.heap.size := fun k hk => by have := hOM k hk; have := hk3.1; omega
        refine ⟨_, _, hr, rfl, ?_, (hw2.trans (hk3.fewer fun k h => h.elim .inl fun h => .inr ((hM1 O k).2 (.inl h)))).trans ⟨by simp, fun k _ h => World.putObj_heap_other ?_⟩⟩
        · rw [hJ]
          exact ⟨turn _ _ _ hs3 hOM3 hi3, fun k hk => by have := hO k hk; have := hk3.1; simp; omega, by simp; omega, hl4, hk4⟩
        · rcases h with h | h
          · have := hR k h; omega
          · have := hO k h; omega
      | ret => exact hp.elim
      | exit id => exact hp.elim
      | goto t => exact hp.elim
      | panic ch => exact hp.elim
      | outgrown => exact hp.elim
    · -- behind the iterator
      rintro e W2 ⟨⟨v, rfl⟩, xs, O, hS, hA⟩
      rw [hJ] at hA
      obtain ⟨hi, hO, hs, hl, hk⟩ := hA
      have hOM : ∀ k, M O k → w.heap.size ≤ k ∧ k < W2.heap.size := fun k hk => by
        rcases (hM1 O k).1 hk with h | h
        · have := hO k h; omega
        · omega
      have h2 := hI _ _ _ _ (by omega) hOM hi (Turns.putObj (l := w.heap.size + 1) ((hM1 O _).2 (.inr ⟨by omega, by omega⟩)) (.loop { rec .ready none with state := .exhausted }))
      refine ⟨none, _, by have := run_endLoop (P := P) hl (by rw [hrec]; simp); rw [hrec] at this; exact this, hdone _ (more (M O) W2 (W2.putObj (w.heap.size + 1) (.loop { rec .ready none with state := .exhausted }))) xs _ rfl ?_ hS (by rw [hrec] at h2 ⊢; exact h2) (.inl ((hM1 O _).2 (.inr ⟨by omega, by omega⟩))) ((World.putObj_heap_other (by omega)).trans hk)⟩
      intro k h
      rcases h with h | h
      · have := hOM k h; simp; omega
      · simp at h ⊢; omega

end Go.Proofs.YtdpjdhllaokbfaaGreat
