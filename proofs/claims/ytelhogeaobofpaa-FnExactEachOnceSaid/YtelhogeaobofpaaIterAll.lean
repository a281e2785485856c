/-
  A range over a function that is never left ahead of its end, whose iterator writes blocks of its own: what both promise each other, and the law for the loop.
-/
import Derived.Test.YtelhogeaobofpaaIter
namespace Go.Proofs.Ytelhogeaobofpaa
open Go.RowKit

variable {F : Fence} {n : Nat} {P : Program}

/-- The contract of an iterator whose loop goes on to the end: R: blocks that it reads; O: blocks of its own, which grow. -/
def SeqAll {α : Type} (F : Fence) (n : Nat) (P : Program) (g : Nat) (lb : Array Value) (encs : α → Array Value) (R : Nat → Prop) (Nx : List α → α → Prop) (S : List α → Prop) (w : World) : Prop :=
  ∀ (l : Nat) (J : (Nat → Prop) → List α → World → Prop) (W : World), Below w.heap.size w W →
    (∀ O pre A B, J O pre A → Turns O A B → J (more O A B) pre B) →
    (∀ O pre x A, J O pre A → Nx pre x → YieldAt F (n - 1) P l (encs x) A fun e B =>
      e = .returned (.bool true) ∧ J O (pre ++ [x]) B ∧ Keeps (fun k => R k ∨ O k) A B) →
    J (fun _ => False) [] W →
    CallsIn F n P g (#[.func (.yield l) #[] #[]] ++ lb) W fun e W' => (∃ v, e = .returned v) ∧ ∃ xs O, S xs ∧ J O xs W'

/-- The body of a round ends, and has kept what it was to keep. -/
def allEnd {α : Type} (K : Nat → Prop) (J : List α → World → Prop) (xs : List α) (W : World) : Exit → Act → World → Prop
  | .normal, _, W' => Keeps K W W' ∧ J xs W'
  | .ret, _, _ => False
  | .exit _, _, _ => False
  | .goto _, _, _ => False
  | .panic _, _, _ => False
  | .outgrown, _, _ => False

/-- The law: 'for x := range g { body }'. I speaks of what is not in O. -/
theorem wpIn_rangeFunc_all {α : Type} {g : Operand} {ps : Array Tmp} {assign body : Code} {Q : Exit → Act → World → Prop} {a : Act} {w : World}
    (hro : F.round = none) (h1 : 1 ≤ n) {gf : Nat} {lb : Array Value} (hg : a.eval g = .func (.func gf) #[] lb) (hFg : F.fn gf) (eg : ∀ args w, (callFunc gf args).run P w = .ok (.enter gf args) w)
    {encs : α → Array Value} {R : Nat → Prop} {S : List α → Prop} {Nx : List α → α → Prop} {w0 : World} (hseq : SeqAll F (n - 1) P gf lb encs R Nx S w0)
    (hb0 : Below w0.heap.size w0 w) (hps : ∀ x, (encs x).size = ps.size) (hR : ∀ k, R k → k < w.heap.size)
    (I : (Nat → Prop) → List α → World → Prop)
    (hI : ∀ O pre A B, w.heap.size ≤ A.heap.size → (∀ k, O k → w.heap.size ≤ k ∧ k < A.heap.size) → I O pre A → Turns O A B → I (more O A B) pre B)
    (h0 : I (fun _ => False) [] w) (a₁ : α → Act)
    (hassign : ∀ (l : Nat) (x : α) (W : World) (K : Act → World → Prop), K (a₁ x) W →
      assign.wpIn (F.inRound l) (n - 1 - 1) P (Exit.then K (fun _ _ _ => False)) { tmps := (ps.zip (encs x)).foldl (fun t (p, v) => t.setIfInBounds p v) a.tmps, defers := [] } W)
    (hbody : ∀ (l : Nat) (O : Nat → Prop) (pre : List α) (x : α) (W : World), w.heap.size ≤ W.heap.size → (∀ k, O k → w.heap.size ≤ k ∧ k < W.heap.size) → I O pre W → Nx pre x →
      body.wpIn (F.inRound l) (n - 1 - 1) P (allEnd (fun k => R k ∨ O k) (I O) (pre ++ [x]) W) (a₁ x) W)
    (hdone : ∀ (D : Nat) (O : Nat → Prop) (xs : List α) (W : World), w.heap.size = D → (∀ k, O k → w.heap.size ≤ k ∧ k < W.heap.size) → S xs → I O xs W → O D → W.heap[D]? = some (.deferred (some [])) → Q .normal { a with defers := { target := .collected D, args := #[] } :: a.defers } W) :
    (Code.rangeFunc g ps assign body).wpIn F n P Q a w := by
  refine wpIn_rangeFunc ?_
  intro fn hfn
  rw [hro]
  obtain ⟨rec, hrec⟩ : ∃ rec : LoopState → Option Code → Loop, rec = fun st pe => { state := st, pending := pe, fn, tmps := a.tmps, params := ps, assign, body, defers := w.heap.size } := ⟨_, rfl⟩
  obtain ⟨W1, hW1⟩ : ∃ W1, (w.alloc (.deferred (some []))).alloc (.loop (rec .ready none)) = W1 := ⟨_, rfl⟩
  have hL1 : W1.heap[w.heap.size + 1]? = some (.loop (rec .ready none)) := by
    rw [← hW1]; have := World.alloc_heap_new (w.alloc (.deferred (some []))) (.loop (rec .ready none)); rwa [World.size_alloc] at this
  have hK1 : W1.heap[w.heap.size]? = some (.deferred (some [])) := by
    rw [← hW1]; exact (Below.heap_alloc _ _ _ (by simp)).trans (World.alloc_heap_new w _)
  have hs1 : W1.heap.size = w.heap.size + 2 := by rw [← hW1]; simp
  have ht1 : Below w.heap.size w W1 := by rw [← hW1]; exact ((Below.refl _ w).alloc (Nat.le_refl _) _).alloc (by simp) _
  have hb1 : Below w0.heap.size w0 W1 := hb0.trans (ht1.mono hb0.size)
  -- what the loop itself has laid is counted among what is not the caller's
  obtain ⟨M, hM⟩ : ∃ M : (Nat → Prop) → Nat → Prop, M = fun O k => O k ∨ (w.heap.size ≤ k ∧ k < w.heap.size + 2) := ⟨_, rfl⟩
  have hM1 : ∀ O k, M O k ↔ (O k ∨ (w.heap.size ≤ k ∧ k < w.heap.size + 2)) := fun O k => by rw [hM]
  have hI1 : I (M (fun _ => False)) [] W1 := by
    have := hI _ _ _ _ (Nat.le_refl _) (fun _ h => h.elim) h0 (Turns.of_below (O := fun _ => False) ht1)
    have e : more (fun _ => False) w W1 = M (fun _ => False) := by funext k; rw [hM]; simp only [more, hs1]
    rwa [e] at this
  -- the invariant that the iterator is handed
  obtain ⟨J, hJ⟩ : ∃ J : (Nat → Prop) → List α → World → Prop, J = fun O pre W => I (M O) pre W ∧ (∀ k, O k → w.heap.size + 2 ≤ k ∧ k < W.heap.size) ∧ w.heap.size + 2 ≤ W.heap.size ∧
      W.heap[w.heap.size + 1]? = some (.loop (rec .ready none)) ∧ W.heap[w.heap.size]? = some (.deferred (some [])) := ⟨_, rfl⟩
  have hJ0 : J (fun _ => False) [] W1 := by rw [hJ]; exact ⟨hI1, fun _ h => h.elim, by omega, hL1, hK1⟩
  refine ⟨w.heap.size + 1, [{ target := .collected w.heap.size, args := #[] }], W1, { target := .fn (.func gf) lb, args := #[.func (.yield (w.heap.size + 1)) #[] #[]] }, W1, gf,
    #[.func (.yield (w.heap.size + 1)) #[] #[]] ++ lb, W1, ?_, ?_, ?_, ?_, fun _ => h1, ?_⟩
  · rw [← hW1, hrec]; exact run_enterLoop_outer _ _ _ _ _
  · simp only [resolve, hg]
    simp [go_sem]
  · intro f' hf'; simp [Target.leads] at hf'; subst hf'; exact hFg
  · simp [invoke, go_sem, eg]
  · refine (hseq (w.heap.size + 1) J W1 hb1 ?_ ?_ hJ0).mono ?_
    · -- a step of the iterator
      intro O pre A B hA hT
      rw [hJ] at hA ⊢
      obtain ⟨hi, hO, hs, hl, hd⟩ := hA
      have hOM : ∀ k, M O k → w.heap.size ≤ k ∧ k < A.heap.size := fun k hk => by
        rcases (hM1 O k).1 hk with h | h
        · have := hO k h; omega
        · omega
      have hI2 := hI _ _ _ _ (by omega) hOM hi (hT.wider fun k hk => (hM1 O k).2 (.inl hk))
      have e : more (M O) A B = M (more O A B) := by
        funext k; rw [hM]; apply propext
        constructor
        · rintro ((h | h) | h)
          · exact .inl (.inl h)
          · exact .inr h
          · exact .inl (.inr h)
        · rintro ((h | h) | h)
          · exact .inl (.inl h)
          · exact .inr h
          · exact .inl (.inr h)
      rw [e] at hI2
      refine ⟨hI2, fun k hk => ?_, Nat.le_trans hs hT.size, (hT.block _ (by omega) fun h => by have := hO _ h; omega).trans hl, (hT.block _ (by omega) fun h => by have := hO _ h; omega).trans hd⟩
      rcases hk with h | h
      · have := hO k h; have := hT.size; omega
      · omega
    · -- one round
      intro O pre x W hA hnx
      have hA' := hA
      rw [hJ] at hA'
      obtain ⟨hi, hO, hs, hl, hk⟩ := hA'
      have hlt : w.heap.size + 1 < W.heap.size := by omega
      have hy := run_yield (P := P) (args := encs x) hl (by rw [hrec]; exact hps x)
      rw [hrec] at hy
      refine ⟨fn, _, assign, body, hy, roundIn_of_wpIn hfn (hassign _ x W _ ⟨_, run_beginRound hl (by rw [hrec]), ?_⟩)⟩
      clear hy
      have hOM : ∀ k, M O k → w.heap.size ≤ k ∧ k < W.heap.size := fun k hk => by
        rcases (hM1 O k).1 hk with h | h
        · have := hO k h; omega
        · omega
      have idem : ∀ A B : World, A.heap.size = B.heap.size → more (M O) A B = M O := fun A B e => by
        funext k; apply propext
        exact ⟨fun h => h.elim id fun h => by omega, .inl⟩
      have turn : ∀ (pre : List α) (A : World) (o : Obj), w.heap.size + 2 ≤ A.heap.size → (∀ k, M O k → w.heap.size ≤ k ∧ k < A.heap.size) → I (M O) pre A → I (M O) pre (A.putObj (w.heap.size + 1) o) := fun pre A o hs hOA hi => by
        have h2 := hI _ _ _ _ (by omega) hOA hi (Turns.putObj (l := w.heap.size + 1) ((hM1 O _).2 (.inr ⟨by omega, by omega⟩)) o)
        rwa [idem _ _ (by simp)] at h2
      obtain ⟨W2, hW2⟩ : ∃ W2, W.putObj (w.heap.size + 1) (.loop { rec .ready none with state := .busy }) = W2 := ⟨_, rfl⟩
      rw [hW2]
      have hl2 : W2.heap[w.heap.size + 1]? = some (.loop { rec .ready none with state := .busy }) := by rw [← hW2]; exact World.putObj_heap_same hlt
      have hk2 : W2.heap[w.heap.size]? = some (.deferred (some [])) := by rw [← hW2]; exact (World.putObj_heap_other (by omega)).trans hk
      have hs2 : W2.heap.size = W.heap.size := by rw [← hW2]; simp
      have hw2 : Keeps (fun k => R k ∨ O k) W W2 := by
        rw [← hW2]
        refine ⟨by simp, fun k _ h => World.putObj_heap_other ?_⟩
        rcases h with h | h
        · have := hR k h; omega
        · have := hO k h; omega
      have hi2 : I (M O) pre W2 := by rw [← hW2]; exact turn _ _ _ hs hOM hi
      refine wpIn_mono (hbody _ (M O) pre x W2 (by omega) (fun k hk => by rw [hs2]; exact hOM k hk) hi2 hnx) ?_
      have fin : ∀ (jump : Option Code) (W3 : World), Keeps (fun k => R k ∨ M O k) W2 W3 →
          (Instr.endRound (w.heap.size + 1) jump).run P W3 = .ok (.bool jump.isNone) (W3.putObj (w.heap.size + 1) (.loop (rec (if jump.isNone then .ready else .done) jump))) ∧
          w.heap.size + 2 ≤ W3.heap.size ∧
          (W3.putObj (w.heap.size + 1) (.loop (rec (if jump.isNone then .ready else .done) jump))).heap[w.heap.size + 1]? = some (.loop (rec (if jump.isNone then .ready else .done) jump)) ∧
          (W3.putObj (w.heap.size + 1) (.loop (rec (if jump.isNone then .ready else .done) jump))).heap[w.heap.size]? = some (.deferred (some [])) := fun jump W3 hk3 => by
        have hl3 := (hk3.2 (w.heap.size + 1) (by omega) (.inr ((hM1 O _).2 (.inr ⟨by omega, by omega⟩)))).trans hl2
        have hd3 := (hk3.2 w.heap.size (by omega) (.inr ((hM1 O _).2 (.inr ⟨by omega, by omega⟩)))).trans hk2
        have := run_endRound (P := P) jump hl3
        rw [hrec] at this ⊢
        exact ⟨this, by have := hk3.1; omega, World.putObj_heap_same (Array.getElem?_eq_some_iff.1 hl3).1, (World.putObj_heap_other (by omega)).trans hd3⟩
      rintro e a3 W3 hp
      cases e with
      | normal =>
        obtain ⟨hk3, hi3⟩ := hp
        obtain ⟨hr, hs3, hl4, hk4⟩ := fin none W3 hk3
        have hOM3 : ∀ k, M O k → w.heap.size ≤ k ∧ k < W3.heap.size := fun k hk => by have := hOM k hk; have := hk3.1; omega
        refine ⟨_, _, hr, rfl, ?_, (hw2.trans (hk3.fewer fun k h => h.elim .inl fun h => .inr ((hM1 O k).2 (.inl h)))).trans ⟨by simp, fun k _ h => World.putObj_heap_other ?_⟩⟩
        · rw [hJ]
          exact ⟨turn _ _ _ hs3 hOM3 hi3, fun k hk => by have := hO k hk; have := hk3.1; simp; omega, by simp; omega, hl4, hk4⟩
        · rcases h with h | h
          · have := hR k h; omega
          · have := hO k h; omega
      | ret => exact hp.elim
      | exit id => exact hp.elim
      | goto t => exact hp.elim
      | panic ch => exact hp.elim
      | outgrown => exact hp.elim
    · -- behind the iterator
      rintro e W2 ⟨⟨v, rfl⟩, xs, O, hS, hA⟩
      rw [hJ] at hA
      obtain ⟨hi, hO, hs, hl, hk⟩ := hA
      have hOM : ∀ k, M O k → w.heap.size ≤ k ∧ k < W2.heap.size := fun k hk => by
        rcases (hM1 O k).1 hk with h | h
        · have := hO k h; omega
        · omega
      have h2 := hI _ _ _ _ (by omega) hOM hi (Turns.putObj (l := w.heap.size + 1) ((hM1 O _).2 (.inr ⟨by omega, by omega⟩)) (.loop { rec .ready none with state := .exhausted }))
      refine ⟨none, _, by have := run_endLoop (P := P) hl (by rw [hrec]; simp); rw [hrec] at this; exact this, hdone _ (more (M O) W2 (W2.putObj (w.heap.size + 1) (.loop { rec .ready none with state := .exhausted }))) xs _ rfl ?_ hS (by rw [hrec] at h2 ⊢; exact h2) (.inl ((hM1 O _).2 (.inr ⟨by omega, by omega⟩))) ((World.putObj_heap_other (by omega)).trans hk)⟩
      intro k h
      rcases h with h | h
      · have := hOM k h; simp; omega
      · simp at h ⊢; omega

end Go.Proofs.Ytelhogeaobofpaa
