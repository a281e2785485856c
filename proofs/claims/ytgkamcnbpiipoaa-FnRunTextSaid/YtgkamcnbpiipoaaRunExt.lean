/-
  Runs of a text with more choices: they go on from where the others ask, and do the same where those ended for good.
-/
import Derived.Test.YtgkamcnbpiipoaaRunVal
namespace Go.Proofs.Ytgkamcnbpiipoaa
open Go.RowKit Go.Sort

def RSt.ext (s : RSt) (b : List UInt8) : RSt := { s with left := s.left ++ b }
/-- What comes of it with more choices. -/
def Ext (b : List UInt8) (o o' : ROut) : Prop := match o with
  | .next s => o' = .next (s.ext b)
  | .leave n s => o' = .leave n (s.ext b)
  | .fin k t m => (k ≠ 1 ∧ o' = .fin k t m) ∨ (k = 1 ∧ t <+: o'.trace)

theorem run_pre : ∀ (N : Nat) (t : Tk) (s : RSt) (o : ROut), run N t s = some o → s.trace <+: o.trace := by
  intro N
  induction N with
  | zero => intro t s o h; cases h
  | succ N ih =>
    intro t s o h
    match t, h with
    | .l [], h => rw [run] at h; injection h with h; subst h; exact List.prefix_refl _
    | .l (i :: l), h =>
      rw [run] at h
      split at h
      · injection h with h; subst h; exact List.prefix_refl _
      · cases hr : run N (.i i) s.step with
        | none => rw [hr] at h; cases h
        | some r =>
          have h2 := ih _ _ _ hr
          rw [hr] at h
          cases r with
          | next s' => exact h2.trans (ih _ _ _ h)
          | leave n s' => injection h with h; subst h; exact h2
          | fin e t m => injection h with h; subst h; exact h2
    | .i (.blk c), h =>
      rw [run] at h
      split at h
      · injection h with h; subst h; exact List.prefix_refl _
      · injection h with h; subst h; exact List.prefix_append _ _
    | .i (.ask c l r), h =>
      rw [run] at h
      split at h
      · injection h with h; subst h; exact List.prefix_refl _
      · cases hl : s.left with
        | nil => rw [hl] at h; injection h with h; subst h; exact List.prefix_append _ _
        | cons x t => rw [hl] at h; exact (List.prefix_append s.trace [c]).trans (ih _ _ _ h)
    | .i .stop, h => rw [run] at h; injection h with h; subst h; exact List.prefix_refl _
    | .i (.frame b l), h => rw [run] at h; exact ih _ _ _ h
    | .i (.leave n), h => rw [run] at h; injection h with h; subst h; exact List.prefix_refl _
    | .i (.set n), h => rw [run] at h; injection h with h; subst h; exact List.prefix_refl _
    | .i (.pick bs), h =>
      rw [run] at h
      cases hb : bs[s.num]? with
      | none => rw [hb] at h; injection h with h; subst h; exact List.prefix_refl _
      | some b => rw [hb] at h; exact ih _ _ _ h
    | .f b l, h =>
      rw [run] at h
      cases hr : run N (.l l) s with
      | none => rw [hr] at h; cases h
      | some r =>
        have h2 := ih _ _ _ hr
        rw [hr] at h
        cases r with
        | next s' => injection h with h; subst h; exact h2
        | fin e t m => injection h with h; subst h; exact h2
        | leave n s' =>
          cases n with
          | succ n => injection h with h; subst h; exact h2
          | zero =>
            simp only at h
            split at h
            · split at h
              · injection h with h; subst h; exact h2
              · exact h2.trans (show s'.trace <+: o.trace from ih _ s'.step _ h)
            · injection h with h; subst h; exact h2

theorem run_ext (b : List UInt8) : ∀ (N K : Nat) (t : Tk) (s : RSt) (o o' : ROut), run N t s = some o → run K t (s.ext b) = some o' → Ext b o o' := by
  intro N
  induction N with
  | zero => intro K t s o o' h; cases h
  | succ N ih =>
    intro K t s o o' h h'
    cases K with
    | zero => cases h'
    | succ K =>
      match t, h, h' with
      | .l [], h, h' =>
        rw [run] at h h'; injection h with h; injection h' with h'; subst h; subst h'; rfl
      | .l (i :: l), h, h' =>
        rw [run] at h h'
        by_cases hi : s.idle = 4000
        · rw [if_pos hi] at h
          rw [if_pos (show (s.ext b).idle = 4000 from hi)] at h'
          injection h with h; injection h' with h'; subst h; subst h'
          exact .inl ⟨by decide, rfl⟩
        · rw [if_neg hi] at h
          rw [if_neg (show ¬ (s.ext b).idle = 4000 from hi)] at h'
          cases hr : run N (.i i) s.step with
          | none => rw [hr] at h; cases h
          | some r =>
            cases hr' : run K (.i i) (s.ext b).step with
            | none => rw [hr'] at h'; cases h'
            | some r' =>
              have h2 := ih K (.i i) s.step r r' hr hr'
              rw [hr] at h
              rw [hr'] at h'
              cases r with
              | next s1 =>
                have h3 : r' = .next (s1.ext b) := h2
                subst h3
                exact ih _ _ _ _ _ h h'
              | leave n s1 =>
                have h3 : r' = .leave n (s1.ext b) := h2
                subst h3
                injection h with h; injection h' with h'; subst h; subst h'
                rfl
              | fin k t m =>
                injection h with h; subst h
                rcases h2 with ⟨hk, rfl⟩ | ⟨hk, hp⟩
                · injection h' with h'; subst h'; exact .inl ⟨hk, rfl⟩
                · refine .inr ⟨hk, ?_⟩
                  cases r' with
                  | next s1 => exact hp.trans (run_pre _ _ _ _ h')
                  | leave n s1 => injection h' with h'; subst h'; exact hp
                  | fin k t m => injection h' with h'; subst h'; exact hp
      | .i (.blk c), h, h' =>
        rw [run] at h h'
        by_cases hl : s.trace.length = 60
        · rw [if_pos hl] at h
          rw [if_pos (show (s.ext b).trace.length = 60 from hl)] at h'
          injection h with h; injection h' with h'; subst h; subst h'
          exact .inl ⟨by decide, rfl⟩
        · rw [if_neg hl] at h
          rw [if_neg (show ¬ (s.ext b).trace.length = 60 from hl)] at h'
          injection h with h; injection h' with h'; subst h; subst h'
          rfl
      | .i (.ask c l r), h, h' =>
        rw [run] at h h'
        by_cases hl : s.trace.length = 60
        · rw [if_pos hl] at h
          rw [if_pos (show (s.ext b).trace.length = 60 from hl)] at h'
          injection h with h; injection h' with h'; subst h; subst h'
          exact .inl ⟨by decide, rfl⟩
        · rw [if_neg hl] at h
          rw [if_neg (show ¬ (s.ext b).trace.length = 60 from hl)] at h'
          cases hx : s.left with
          | nil =>
            rw [hx] at h
            injection h with h; subst h
            refine .inr ⟨rfl, ?_⟩
            cases hx' : (s.ext b).left with
            | nil => rw [hx'] at h'; injection h' with h'; subst h'; exact List.prefix_refl _
            | cons x t => rw [hx'] at h'; exact run_pre K (.l (if x = 108 then l else r)) { (s.ext b).blk c with left := t } _ h'
          | cons x t =>
            rw [hx] at h
            rw [show (s.ext b).left = x :: (t ++ b) by show s.left ++ b = _; rw [hx]; rfl] at h'
            exact ih K _ { s.blk c with left := t } _ _ h h'
      | .i .stop, h, h' =>
        rw [run] at h h'; injection h with h; injection h' with h'; subst h; subst h'
        exact .inl ⟨by decide, rfl⟩
      | .i (.frame g l), h, h' => rw [run] at h h'; exact ih _ _ _ _ _ h h'
      | .i (.leave n), h, h' => rw [run] at h h'; injection h with h; injection h' with h'; subst h; subst h'; rfl
      | .i (.set n), h, h' => rw [run] at h h'; injection h with h; injection h' with h'; subst h; subst h'; rfl
      | .i (.pick bs), h, h' =>
        rw [run] at h h'
        cases hb : bs[s.num]? with
        | none =>
          rw [hb] at h
          rw [show bs[(s.ext b).num]? = none from hb] at h'
          injection h with h; injection h' with h'; subst h; subst h'; rfl
        | some l =>
          rw [hb] at h
          rw [show bs[(s.ext b).num]? = some l from hb] at h'
          exact ih _ _ _ _ _ h h'
      | .f g l, h, h' =>
        rw [run] at h h'
        cases hr : run N (.l l) s with
        | none => rw [hr] at h; cases h
        | some r =>
          cases hr' : run K (.l l) (s.ext b) with
          | none => rw [hr'] at h'; cases h'
          | some r' =>
            have h2 := ih K (.l l) s r r' hr hr'
            rw [hr] at h
            rw [hr'] at h'
            cases r with
            | next s1 =>
              have h3 : r' = .next (s1.ext b) := h2
              subst h3
              injection h with h; injection h' with h'; subst h; subst h'; rfl
            | leave n s1 =>
              have h3 : r' = .leave n (s1.ext b) := h2
              subst h3
              cases n with
              | succ n => injection h with h; injection h' with h'; subst h; subst h'; rfl
              | zero =>
                simp only at h h'
                by_cases hg : g = true
                · rw [if_pos hg] at h h'
                  by_cases hi : s1.idle = 4000
                  · rw [if_pos hi] at h
                    rw [if_pos (show (s1.ext b).idle = 4000 from hi)] at h'
                    injection h with h; injection h' with h'; subst h; subst h'
                    exact .inl ⟨by decide, rfl⟩
                  · rw [if_neg hi] at h
                    rw [if_neg (show ¬ (s1.ext b).idle = 4000 from hi)] at h'
                    exact ih K _ s1.step _ _ h h'
                · rw [if_neg hg] at h h'
                  injection h with h; injection h' with h'; subst h; subst h'; rfl
            | fin k t m =>
              injection h with h; subst h
              rcases h2 with ⟨hk, rfl⟩ | ⟨hk, hp⟩
              · injection h' with h'; subst h'; exact .inl ⟨hk, rfl⟩
              · refine .inr ⟨hk, hp.trans ?_⟩
                cases r' with
                | next s1 => injection h' with h'; subst h'; exact List.prefix_refl _
                | fin k t m => injection h' with h'; subst h'; exact List.prefix_refl _
                | leave n s1 =>
                  cases n with
                  | succ n => injection h' with h'; subst h'; exact List.prefix_refl _
                  | zero =>
                    simp only at h'
                    by_cases hg : g = true
                    · rw [if_pos hg] at h'
                      by_cases hi : s1.idle = 4000
                      · rw [if_pos hi] at h'; injection h' with h'; subst h'; exact List.prefix_refl _
                      · rw [if_neg hi] at h'; exact (show s1.trace <+: o'.trace from run_pre _ _ s1.step _ h')
                    · rw [if_neg hg] at h'; injection h' with h'; subst h'; exact List.prefix_refl _

theorem Ext.facts {b : List UInt8} {o o' : ROut} (h : Ext b o o') : o.trace <+: o'.trace ∧ (o.code ≠ 1 → o'.trace = o.trace ∧ o'.code = o.code ∧ o'.num = o.num) := by
  cases o with
  | next s => have h : o' = .next (s.ext b) := h; subst h; exact ⟨List.prefix_refl _, fun _ => ⟨rfl, rfl, rfl⟩⟩
  | leave n s => have h : o' = .leave n (s.ext b) := h; subst h; exact ⟨List.prefix_refl _, fun _ => ⟨rfl, rfl, rfl⟩⟩
  | fin k t m =>
    rcases h with ⟨hk, rfl⟩ | ⟨hk, hp⟩
    · exact ⟨List.prefix_refl _, fun _ => ⟨rfl, rfl, rfl⟩⟩
    · exact ⟨hp, fun h => absurd hk h⟩

/-- With the first of some choices. -/
theorem ran_take {s c : List UInt8} {o o1 : ROut} (i : Nat) (h : RanT s c (some o)) (h1 : RanT s (c.take i) (some o1)) : o1.trace <+: o.trace ∧ (o1.code ≠ 1 → o.trace = o1.trace ∧ o.code = o1.code ∧ o.num = o1.num) := by
  obtain ⟨l, hl, _, N, hr⟩ := h
  obtain ⟨l', hl', _, K, hr'⟩ := h1
  have := textOk_uniq hl hl'
  subst this
  have h2 : (rs0 (c.take i)).ext (c.drop i) = rs0 c := by unfold rs0 RSt.ext; simp
  rw [← h2] at hr
  exact (run_ext (c.drop i) K N (.l l) (rs0 (c.take i)) o1 o hr' hr).facts
theorem isLR_take {c : List UInt8} (h : choicesB (tb c) = true) (i : Nat) : choicesB (tb (c.take i)) = true := by
  unfold choicesB isLR at *
  rw [tb_data, tb_size, Bool.and_eq_true, decide_eq_true_iff, List.all_eq_true] at *
  exact ⟨by rw [List.length_take]; omega, fun x hx => h.2 x (List.mem_of_mem_take hx)⟩
/-- They are choices, too. -/
theorem ran_some {s c : List UInt8} {o : ROut} {q : Option ROut} (i : Nat) (h : RanT s c (some o)) (h1 : RanT s (c.take i) q) : ∃ o1, q = some o1 := by
  cases q with
  | some o1 => exact ⟨o1, rfl⟩
  | none =>
    obtain ⟨l, hl, hc, _⟩ := h
    rcases h1 with h1 | h1
    · exact absurd hl (h1 l)
    · rw [isLR_take hc i] at h1; cases h1
end Go.Proofs.Ytgkamcnbpiipoaa
