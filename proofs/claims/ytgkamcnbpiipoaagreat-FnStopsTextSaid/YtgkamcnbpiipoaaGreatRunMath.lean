/-
  Runs of a text: what items, one item, a frame do with a state of a run, by fuel; one outcome alone; plain facts.
-/
import Derived.Test.YtgkamcnbpiipoaaGreatTextMath
namespace Go.Proofs.YtgkamcnbpiipoaaGreat

/-- The state of a run: choices left, blocks done, the number, steps behind the last block. -/
structure RSt where
  left : List UInt8
  trace : List UInt8
  num : Nat
  idle : Nat
def RSt.step (s : RSt) : RSt := { s with idle := s.idle + 1 }
def RSt.blk (s : RSt) (c : UInt8) : RSt := { s with trace := s.trace ++ [c], idle := 0 }

/-- What comes of it: it goes on, a step leaves so many frames more, or the run has ended. -/
inductive ROut
  | next (s : RSt)
  | leave (n : Nat) (s : RSt)
  | fin (e : Nat) (t : List UInt8) (m : Nat)

/-- What is run: items, one item (its step is made), a frame (its step is made). -/
inductive Tk
  | l (l : List It)
  | i (i : It)
  | f (b : Bool) (l : List It)

def run : Nat → Tk → RSt → Option ROut
  | 0, _, _ => none
  | _ + 1, .l [], s => some (.next s)
  | N + 1, .l (i :: l), s => if s.idle = 4000 then some (.fin 2 s.trace s.num) else
      match run N (.i i) s.step with
      | some (.next s') => run N (.l l) s'
      | r => r
  | _ + 1, .i (.blk c), s => if s.trace.length = 60 then some (.fin 2 s.trace s.num) else some (.next (s.blk c))
  | N + 1, .i (.ask c l r), s => if s.trace.length = 60 then some (.fin 2 s.trace s.num) else
      match s.left with
      | [] => some (.fin 1 (s.blk c).trace s.num)
      | x :: t => run N (.l (if x = 108 then l else r)) { s.blk c with left := t }
  | _ + 1, .i .stop, s => some (.fin 0 s.trace s.num)
  | N + 1, .i (.frame b l), s => run N (.f b l) s
  | _ + 1, .i (.leave n), s => some (.leave n s)
  | _ + 1, .i (.set n), s => some (.next { s with num := n })
  | N + 1, .i (.pick bs), s => match bs[s.num]? with
      | some b => run N (.l b) s
      | none => some (.next s)
  | N + 1, .f b l, s => match run N (.l l) s with
      | some (.leave 0 s') => if b = true then (if s'.idle = 4000 then some (.fin 2 s'.trace s'.num) else run N (.f b l) s'.step) else some (.next s')
      | some (.leave (n + 1) s') => some (.leave n s')
      | r => r

theorem run_more : ∀ (N : Nat) (t : Tk) (s : RSt) (o : ROut), run N t s = some o → run (N + 1) t s = some o := by
  intro N
  induction N with
  | zero => intro t s o h; cases h
  | succ N ih =>
    intro t s o h
    match t, h with
    | .l [], h => exact h
    | .l (i :: l), h =>
      rw [run] at h ⊢
      split at h
      · rename_i hi; rw [if_pos hi]; exact h
      · rename_i hi
        rw [if_neg hi]
        cases hr : run N (.i i) s.step with
        | none => rw [hr] at h; cases h
        | some r =>
          rw [ih _ _ _ hr]
          rw [hr] at h
          cases r with
          | next s' => exact ih _ _ _ h
          | leave n s' => exact h
          | fin e t m => exact h
    | .i (.blk c), h => exact h
    | .i (.ask c l r), h =>
      rw [run] at h ⊢
      split at h
      · rename_i hi; rw [if_pos hi]; exact h
      · rename_i hi
        rw [if_neg hi]
        cases hl : s.left with
        | nil => rw [hl] at h; exact h
        | cons x t => rw [hl] at h; exact ih _ _ _ h
    | .i .stop, h => exact h
    | .i (.frame b l), h => rw [run] at h ⊢; exact ih _ _ _ h
    | .i (.leave n), h => exact h
    | .i (.set n), h => exact h
    | .i (.pick bs), h =>
      rw [run] at h ⊢
      cases hb : bs[s.num]? with
      | none => rw [hb] at h; exact h
      | some b => rw [hb] at h; exact ih _ _ _ h
    | .f b l, h =>
      rw [run] at h ⊢
      cases hr : run N (.l l) s with
      | none => rw [hr] at h; cases h
      | some r =>
        rw [ih _ _ _ hr]
        rw [hr] at h
        cases r with
        | next s' => exact h
        | fin e t m => exact h
        | leave n s' =>
          cases n with
          | succ n => exact h
          | zero =>
            simp only at h ⊢
            split at h
            · rename_i hb
              rw [if_pos hb]
              split at h
              · rename_i hi; rw [if_pos hi]; exact h
              · rename_i hi; rw [if_neg hi]; exact ih _ _ _ h
            · rename_i hb; rw [if_neg hb]; exact h
theorem run_le {N K : Nat} (hk : N ≤ K) {t : Tk} {s : RSt} {o : ROut} (h : run N t s = some o) : run K t s = some o := by
  obtain ⟨d, rfl⟩ := Nat.le.dest hk
  clear hk
  induction d with
  | zero => exact h
  | succ d ih => exact run_more _ _ _ _ ih

/-- What comes of it in the end. -/
def Runs (t : Tk) (s : RSt) (o : ROut) : Prop := ∃ N, run N t s = some o
theorem Runs.uniq {t : Tk} {s : RSt} {o o' : ROut} (h : Runs t s o) (h' : Runs t s o') : o = o' := by
  obtain ⟨N, h⟩ := h
  obtain ⟨K, h'⟩ := h'
  have h1 := run_le (Nat.le_max_left N K) h
  have h2 := run_le (Nat.le_max_right N K) h'
  rw [h1] at h2
  exact Option.some.inj h2

theorem Runs.nil (s : RSt) : Runs (.l []) s (.next s) := ⟨1, rfl⟩
theorem Runs.long {i : It} {l : List It} {s : RSt} (h : s.idle = 4000) : Runs (.l (i :: l)) s (.fin 2 s.trace s.num) := ⟨1, by rw [run, if_pos h]⟩
theorem Runs.cons {i : It} {l : List It} {s s' : RSt} {o : ROut} (h : s.idle ≠ 4000) (h1 : Runs (.i i) s.step (.next s')) (h2 : Runs (.l l) s' o) : Runs (.l (i :: l)) s o := by
  obtain ⟨N, h1⟩ := h1
  obtain ⟨K, h2⟩ := h2
  refine ⟨max N K + 1, ?_⟩
  rw [run, if_neg h, run_le (Nat.le_max_left N K) h1]
  exact run_le (Nat.le_max_right N K) h2
theorem Runs.cons_leave {i : It} {l : List It} {s s' : RSt} {n : Nat} (h : s.idle ≠ 4000) (h1 : Runs (.i i) s.step (.leave n s')) : Runs (.l (i :: l)) s (.leave n s') := by
  obtain ⟨N, h1⟩ := h1
  exact ⟨N + 1, by rw [run, if_neg h, h1]⟩
theorem Runs.cons_fin {i : It} {l : List It} {s : RSt} {e : Nat} {t : List UInt8} {m : Nat} (h : s.idle ≠ 4000) (h1 : Runs (.i i) s.step (.fin e t m)) : Runs (.l (i :: l)) s (.fin e t m) := by
  obtain ⟨N, h1⟩ := h1
  exact ⟨N + 1, by rw [run, if_neg h, h1]⟩
theorem Runs.blk {c : UInt8} {s : RSt} (h : s.trace.length ≠ 60) : Runs (.i (.blk c)) s (.next (s.blk c)) := ⟨1, by rw [run, if_neg h]⟩
theorem Runs.blkLong {c : UInt8} {s : RSt} (h : s.trace.length = 60) : Runs (.i (.blk c)) s (.fin 2 s.trace s.num) := ⟨1, by rw [run, if_pos h]⟩
theorem Runs.askLong {c : UInt8} {l r : List It} {s : RSt} (h : s.trace.length = 60) : Runs (.i (.ask c l r)) s (.fin 2 s.trace s.num) := ⟨1, by rw [run, if_pos h]⟩
theorem Runs.askNone {c : UInt8} {l r : List It} {s : RSt} (h : s.trace.length ≠ 60) (hl : s.left = []) : Runs (.i (.ask c l r)) s (.fin 1 (s.blk c).trace s.num) := ⟨1, by rw [run, if_neg h, hl]⟩
theorem Runs.ask {c x : UInt8} {l r : List It} {s : RSt} {t : List UInt8} {o : ROut} (h : s.trace.length ≠ 60) (hl : s.left = x :: t) (h1 : Runs (.l (if x = 108 then l else r)) { s.blk c with left := t } o) : Runs (.i (.ask c l r)) s o := by
  obtain ⟨N, h1⟩ := h1
  exact ⟨N + 1, by rw [run, if_neg h, hl]; exact h1⟩
theorem Runs.stop (s : RSt) : Runs (.i .stop) s (.fin 0 s.trace s.num) := ⟨1, rfl⟩
theorem Runs.leave (n : Nat) (s : RSt) : Runs (.i (.leave n)) s (.leave n s) := ⟨1, rfl⟩
theorem Runs.set (n : Nat) (s : RSt) : Runs (.i (.set n)) s (.next { s with num := n }) := ⟨1, rfl⟩
theorem Runs.frame {b : Bool} {l : List It} {s : RSt} {o : ROut} (h : Runs (.f b l) s o) : Runs (.i (.frame b l)) s o := by
  obtain ⟨N, h⟩ := h
  exact ⟨N + 1, by rw [run]; exact h⟩
theorem Runs.pick {bs : List (List It)} {b : List It} {s : RSt} {o : ROut} (hb : bs[s.num]? = some b) (h : Runs (.l b) s o) : Runs (.i (.pick bs)) s o := by
  obtain ⟨N, h⟩ := h
  exact ⟨N + 1, by rw [run, hb]; exact h⟩
theorem Runs.pickNone {bs : List (List It)} {s : RSt} (hb : bs[s.num]? = none) : Runs (.i (.pick bs)) s (.next s) := ⟨1, by rw [run, hb]⟩
theorem Runs.f_next {b : Bool} {l : List It} {s s' : RSt} (h : Runs (.l l) s (.next s')) : Runs (.f b l) s (.next s') := by
  obtain ⟨N, h⟩ := h
  exact ⟨N + 1, by rw [run, h]⟩
theorem Runs.f_fin {b : Bool} {l : List It} {s : RSt} {e : Nat} {t : List UInt8} {m : Nat} (h : Runs (.l l) s (.fin e t m)) : Runs (.f b l) s (.fin e t m) := by
  obtain ⟨N, h⟩ := h
  exact ⟨N + 1, by rw [run, h]⟩
theorem Runs.f_out {b : Bool} {l : List It} {s s' : RSt} {n : Nat} (h : Runs (.l l) s (.leave (n + 1) s')) : Runs (.f b l) s (.leave n s') := by
  obtain ⟨N, h⟩ := h
  exact ⟨N + 1, by rw [run, h]⟩
theorem Runs.f_once {l : List It} {s s' : RSt} (h : Runs (.l l) s (.leave 0 s')) : Runs (.f false l) s (.next s') := by
  obtain ⟨N, h⟩ := h
  exact ⟨N + 1, by rw [run, h]; rfl⟩
theorem Runs.f_long {l : List It} {s s' : RSt} (h : Runs (.l l) s (.leave 0 s')) (hi : s'.idle = 4000) : Runs (.f true l) s (.fin 2 s'.trace s'.num) := by
  obtain ⟨N, h⟩ := h
  exact ⟨N + 1, by rw [run, h]; simp only [if_true]; rw [if_pos hi]⟩
theorem Runs.f_again {l : List It} {s s' : RSt} {o : ROut} (h : Runs (.l l) s (.leave 0 s')) (hi : s'.idle ≠ 4000) (h2 : Runs (.f true l) s'.step o) : Runs (.f true l) s o := by
  obtain ⟨N, h⟩ := h
  obtain ⟨K, h2⟩ := h2
  refine ⟨max N K + 1, ?_⟩
  rw [run, run_le (Nat.le_max_left N K) h]
  simp only [if_true]
  rw [if_neg hi]
  exact run_le (Nat.le_max_right N K) h2

/-- Within the limits. -/
def RSt.ok (s : RSt) : Prop := s.trace.length ≤ 60 ∧ s.idle ≤ 4000
/-- How much a run can still do. -/
def RSt.room (s : RSt) : Nat := (60 - s.trace.length) * 4001 + (4000 - s.idle)
theorem RSt.step_ok {s : RSt} (h : s.ok) (hi : s.idle ≠ 4000) : s.step.ok ∧ s.step.room < s.room := by
  unfold RSt.ok RSt.room RSt.step at *
  simp only
  omega
theorem RSt.blk_ok {s : RSt} (h : s.ok) (hl : s.trace.length ≠ 60) (c : UInt8) : (s.blk c).ok ∧ (s.blk c).room ≤ s.room := by
  unfold RSt.ok RSt.room RSt.blk at *
  simp only [List.length_append, List.length_singleton]
  omega
def ROut.ok (o : ROut) (r : Nat) : Prop := match o with
  | .next s => s.ok ∧ s.room ≤ r
  | .leave _ s => s.ok ∧ s.room ≤ r
  | .fin _ t _ => t.length ≤ 60
theorem ROut.ok.le {o : ROut} {r q : Nat} (h : o.ok r) (hq : r ≤ q) : o.ok q := by
  cases o with
  | next s => exact ⟨h.1, Nat.le_trans h.2 hq⟩
  | leave n s => exact ⟨h.1, Nat.le_trans h.2 hq⟩
  | fin e t m => exact h

theorem run_ok : ∀ (N : Nat) (t : Tk) (s : RSt) (o : ROut), run N t s = some o → s.ok → o.ok s.room := by
  intro N
  induction N with
  | zero => intro t s o h; cases h
  | succ N ih =>
    intro t s o h hs
    match t, h with
    | .l [], h => rw [run] at h; injection h with h; subst h; exact ⟨hs, Nat.le_refl _⟩
    | .l (i :: l), h =>
      rw [run] at h
      split at h
      · injection h with h; subst h; exact hs.1
      · rename_i hi
        have h1 := RSt.step_ok hs hi
        cases hr : run N (.i i) s.step with
        | none => rw [hr] at h; cases h
        | some r =>
          have h2 := ih _ _ _ hr h1.1
          rw [hr] at h
          cases r with
          | next s' => exact (ih _ _ _ h h2.1).le (by have := h2.2; omega)
          | leave n s' => injection h with h; subst h; exact h2.le (by omega)
          | fin e t m => injection h with h; subst h; exact h2
    | .i (.blk c), h =>
      rw [run] at h
      split at h
      · injection h with h; subst h; exact hs.1
      · rename_i hi; injection h with h; subst h; exact RSt.blk_ok hs hi c
    | .i (.ask c l r), h =>
      rw [run] at h
      split at h
      · injection h with h; subst h; exact hs.1
      · rename_i hi
        have h1 := RSt.blk_ok hs hi c
        cases hl : s.left with
        | nil => rw [hl] at h; injection h with h; subst h; exact h1.1.1
        | cons x t => rw [hl] at h; exact (ih _ _ _ h h1.1).le h1.2
    | .i .stop, h => rw [run] at h; injection h with h; subst h; exact hs.1
    | .i (.frame b l), h => rw [run] at h; exact ih _ _ _ h hs
    | .i (.leave n), h => rw [run] at h; injection h with h; subst h; exact ⟨hs, Nat.le_refl _⟩
    | .i (.set n), h => rw [run] at h; injection h with h; subst h; exact ⟨hs, Nat.le_refl _⟩
    | .i (.pick bs), h =>
      rw [run] at h
      cases hb : bs[s.num]? with
      | none => rw [hb] at h; injection h with h; subst h; exact ⟨hs, Nat.le_refl _⟩
      | some b => rw [hb] at h; exact ih _ _ _ h hs
    | .f b l, h =>
      rw [run] at h
      cases hr : run N (.l l) s with
      | none => rw [hr] at h; cases h
      | some r =>
        have h2 := ih _ _ _ hr hs
        rw [hr] at h
        cases r with
        | next s' => injection h with h; subst h; exact h2
        | fin e t m => injection h with h; subst h; exact h2
        | leave n s' =>
          cases n with
          | succ n => injection h with h; subst h; exact h2
          | zero =>
            simp only at h
            split at h
            · split at h
              · injection h with h; subst h; exact h2.1.1
              · rename_i hi
                have h3 := RSt.step_ok h2.1 hi
                exact (ih _ _ _ h h3.1).le (by have := h2.2; omega)
            · injection h with h; subst h; exact h2
theorem Runs.ok {t : Tk} {s : RSt} {o : ROut} (h : Runs t s o) (hs : s.ok) : o.ok s.room := by
  obtain ⟨N, h⟩ := h
  exact run_ok N t s o h hs

/-- Items with no more leaves than frames. -/
def Tk.fits (t : Tk) (f : Nat) : Prop := match t with
  | .l xs => OkL xs f
  | .i x => OkI x f
  | .f _ xs => f < 9 ∧ OkL xs (f + 1)
theorem okB_get : ∀ {bs : List (List It)} {f : Nat}, OkB bs f → ∀ {k : Nat} {b : List It}, bs[k]? = some b → OkL b f
  | [], _, _, k, b, h => by simp at h
  | a :: bs, f, ho, k, b, h => by
    rw [OkB] at ho
    cases k with
    | zero => simp at h; rw [← h]; exact ho.1
    | succ k => exact okB_get ho.2 (by simpa using h)
theorem run_leave : ∀ (N : Nat) (t : Tk) (f : Nat) (s : RSt) (n : Nat) (s' : RSt), run N t s = some (.leave n s') → t.fits f → n < f := by
  intro N
  induction N with
  | zero => intro t f s n s' h; cases h
  | succ N ih =>
    intro t f s n s' h ht
    match t, h, ht with
    | .l [], h, ht => rw [run] at h; cases h
    | .l (i :: l), h, ht =>
      rw [run] at h
      have ht' : OkI i f ∧ OkL l f := by have : OkL (i :: l) f := ht; rw [OkL] at this; exact this
      split at h
      · cases h
      · cases hr : run N (.i i) s.step with
        | none => rw [hr] at h; cases h
        | some r =>
          rw [hr] at h
          cases r with
          | next s1 => exact ih _ f _ _ _ h ht'.2
          | leave m s1 => injection h with h; injection h with h1 h2; subst h1; exact ih _ f _ _ _ hr ht'.1
          | fin e t m => cases h
    | .i (.blk c), h, ht => rw [run] at h; split at h <;> cases h
    | .i (.ask c l r), h, ht =>
      rw [run] at h
      have ht' : letB c = true ∧ OkL l f ∧ OkL r f := by have : OkI (.ask c l r) f := ht; rw [OkI] at this; exact this
      split at h
      · cases h
      · cases hl : s.left with
        | nil => rw [hl] at h; cases h
        | cons x t =>
          rw [hl] at h
          refine ih _ f _ _ _ h ?_
          show OkL _ f
          split
          · exact ht'.2.1
          · exact ht'.2.2
    | .i .stop, h, ht => rw [run] at h; cases h
    | .i (.frame b l), h, ht =>
      rw [run] at h
      have ht' : f < 9 ∧ OkL l (f + 1) := by have : OkI (.frame b l) f := ht; rw [OkI] at this; exact this
      exact ih (.f b l) f _ _ _ h ht'
    | .i (.leave k), h, ht =>
      rw [run] at h
      have ht' : k < f := by have : OkI (.leave k) f := ht; rw [OkI] at this; exact this.1
      injection h with h; injection h with h1 h2; omega
    | .i (.set k), h, ht => rw [run] at h; cases h
    | .i (.pick bs), h, ht =>
      rw [run] at h
      have ht' : OkB bs f := by have : OkI (.pick bs) f := ht; rw [OkI] at this; exact this.2.2
      cases hb : bs[s.num]? with
      | none => rw [hb] at h; cases h
      | some b => rw [hb] at h; exact ih (.l b) f _ _ _ h (okB_get ht' hb)
    | .f b l, h, ht =>
      rw [run] at h
      have ht' : f < 9 ∧ OkL l (f + 1) := ht
      cases hr : run N (.l l) s with
      | none => rw [hr] at h; cases h
      | some r =>
        rw [hr] at h
        cases r with
        | next s1 => cases h
        | fin e t m => cases h
        | leave m s1 =>
          cases m with
          | succ m =>
            injection h with h; injection h with h1 h2; subst h1
            have := ih (.l l) (f + 1) _ _ _ hr ht'.2
            omega
          | zero =>
            simp only at h
            split at h
            · split at h
              · cases h
              · exact ih (.f b l) f _ _ _ h ht
            · cases h
theorem Runs.leave_lt {t : Tk} {f : Nat} {s : RSt} {n : Nat} {s' : RSt} (h : Runs t s (.leave n s')) (ht : t.fits f) : n < f := by
  obtain ⟨N, h⟩ := h
  exact run_leave N t f s n s' h ht
end Go.Proofs.YtgkamcnbpiipoaaGreat
