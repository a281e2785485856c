/-
  Runs that go on silently: only with loops and leaves; with more choices nothing else comes of them.
-/
import Derived.Test.YtmjhoiaehmfkcaaNoLoopMath
import Derived.Test.YtmjhoiaehmfkcaaRunExt
namespace Go.Proofs.Ytmjhoiaehmfkcaa
open Go.RowKit Go.Sort

/-- None of a kind: loops or leaves. -/
def Tk.no (kd : UInt8) : Tk → Prop
  | .l xs => cnL kd xs = 0
  | .i x => cnI kd x = 0
  | .f b xs => (kd = 123 → b = false) ∧ cnL kd xs = 0

theorem run_noLeave : ∀ (N : Nat) (t : Tk) (s : RSt) (o : ROut), run N t s = some o → t.no 94 → ∀ n s1, o ≠ .leave n s1 := by
  intro N
  induction N with
  | zero => intro t s o h; cases h
  | succ N ih =>
    intro t s o h hn n0 s0 e
    subst e
    match t, h, hn with
    | .l [], h, hn => rw [run] at h; cases h
    | .l (i :: l), h, hn =>
      rw [run] at h
      have hn' : cnI 94 i = 0 ∧ cnL 94 l = 0 := by have : cnL 94 (i :: l) = 0 := hn; rw [cnL] at this; omega
      split at h
      · cases h
      · cases hr : run N (.i i) s.step with
        | none => rw [hr] at h; cases h
        | some r =>
          rw [hr] at h
          cases r with
          | next s1 => exact ih (.l l) s1 _ h hn'.2 n0 s0 rfl
          | leave n s1 => exact ih (.i i) s.step _ hr hn'.1 n s1 rfl
          | fin e t m => cases h
    | .i (.blk c), h, hn => rw [run] at h; split at h <;> cases h
    | .i (.ask c l r), h, hn =>
      rw [run] at h
      have hn' : cnL 94 l = 0 ∧ cnL 94 r = 0 := by have : cnI 94 (.ask c l r) = 0 := hn; rw [cnI] at this; omega
      split at h
      · cases h
      · cases hl : s.left with
        | nil => rw [hl] at h; cases h
        | cons x t =>
          rw [hl] at h
          exact ih _ _ _ h (by show cnL 94 _ = 0; split; exact hn'.1; exact hn'.2) n0 s0 rfl
    | .i .stop, h, hn => rw [run] at h; cases h
    | .i (.frame b l), h, hn =>
      rw [run] at h
      have hn' : cnL 94 l = 0 := by have : cnI 94 (.frame b l) = 0 := hn; rw [cnI] at this; omega
      exact ih (.f b l) s _ h ⟨fun e => absurd e (by decide), hn'⟩ n0 s0 rfl
    | .i (.leave n), h, hn =>
      have : cnI 94 (.leave n) = 0 := hn
      rw [cnI, if_pos (show kdI (.leave n) = 94 from rfl)] at this
      cases this
    | .i (.set n), h, hn => rw [run] at h; cases h
    | .i (.pick bs), h, hn =>
      rw [run] at h
      have hn' : cnB 94 bs = 0 := by have : cnI 94 (.pick bs) = 0 := hn; rw [cnI] at this; omega
      cases hb : bs[s.num]? with
      | none => rw [hb] at h; cases h
      | some b => rw [hb] at h; exact ih (.l b) s _ h (cnB_get hb hn') n0 s0 rfl
    | .f b l, h, hn =>
      rw [run] at h
      cases hr : run N (.l l) s with
      | none => rw [hr] at h; cases h
      | some r =>
        cases r with
        | next s1 => rw [hr] at h; cases h
        | fin e t m => rw [hr] at h; cases h
        | leave n s1 => exact ih (.l l) s _ hr hn.2 n s1 rfl

theorem run_mild2 {kd : UInt8} (hkd : kd = 123 ∨ kd = 94) : ∀ (N : Nat) (t : Tk) (s : RSt) (o : ROut), run N t s = some o → t.no kd → Mild s t.ns t.sz o := by
  intro N
  induction N with
  | zero => intro t s o h; cases h
  | succ N ih =>
    intro t s o h hn
    match t, h, hn with
    | .l [], h, hn => rw [run] at h; injection h with h; subst h; exact ⟨[], by simp, List.Sublist.refl _, by omega⟩
    | .l (i :: l), h, hn =>
      rw [run] at h
      have hn' : cnI kd i = 0 ∧ cnL kd l = 0 := by have : cnL kd (i :: l) = 0 := hn; rw [cnL] at this; omega
      have hns : (Tk.l (i :: l)).ns = blI i ++ blL l := by show blL (i :: l) = _; rw [blL]
      have hsz : (Tk.l (i :: l)).sz = (txI i).length + (txL l).length := by show (txL (i :: l)).length = _; rw [txL, List.length_append]
      have hp := txI_pos i
      rw [hns, hsz]
      split at h
      · rename_i hi; injection h with h; subst h; exact ⟨[], by simp, List.nil_sublist _, fun _ => .inl (by omega)⟩
      · rename_i hi
        cases hr : run N (.i i) s.step with
        | none => rw [hr] at h; cases h
        | some r =>
          have h2 : Mild s.step (blI i) ((txI i).length - 1) r := ih _ _ _ hr hn'.1
          have h3 : Mild s (blI i) (txI i).length r := by
            have := Mild.then (s := s) (s1 := s.step) (d := []) (n1 := []) (z1 := 1) (by show s.trace = _; simp) (List.Sublist.refl _) (Nat.le_refl _) h2
            rw [List.nil_append] at this
            exact this.mono (List.Sublist.refl _) (by omega)
          rw [hr] at h
          cases r with
          | next s1 =>
            obtain ⟨d, h4, h5, h6⟩ := h3
            exact Mild.then h4 h5 h6 (ih (.l l) s1 o h hn'.2)
          | leave n s1 => injection h with h; subst h; exact h3.mono (List.sublist_append_left _ _) (by omega)
          | fin e t m => injection h with h; subst h; exact h3.mono (List.sublist_append_left _ _) (by omega)
    | .i (.blk c), h, hn =>
      rw [run] at h
      have hns : (Tk.i (.blk c)).ns = [c] := by show blI (.blk c) = _; rw [blI]
      rw [hns]
      split at h
      · rename_i hl; injection h with h; subst h; exact ⟨[], by simp, List.nil_sublist _, fun _ => .inr ⟨hl, by simp⟩⟩
      · injection h with h; subst h; exact ⟨[c], rfl, List.Sublist.refl _, Nat.zero_le _⟩
    | .i (.ask c l r), h, hn =>
      rw [run] at h
      have hn' : cnL kd l = 0 ∧ cnL kd r = 0 := by have : cnI kd (.ask c l r) = 0 := hn; rw [cnI] at this; omega
      have hns : (Tk.i (.ask c l r)).ns = [c] ++ (blL l ++ blL r) := by show blI (.ask c l r) = _; rw [blI]; rfl
      have hsz : (txL l).length ≤ (Tk.i (.ask c l r)).sz ∧ (txL r).length ≤ (Tk.i (.ask c l r)).sz := by
        constructor
        · show _ ≤ (txI (.ask c l r)).length - 1; rw [txI]; simp; omega
        · show _ ≤ (txI (.ask c l r)).length - 1; rw [txI]; simp; omega
      rw [hns]
      split at h
      · rename_i hl; injection h with h; subst h; exact ⟨[], by simp, List.nil_sublist _, fun _ => .inr ⟨hl, by simp⟩⟩
      · cases hl : s.left with
        | nil =>
          rw [hl] at h; injection h with h; subst h
          exact ⟨[c], rfl, List.sublist_append_left _ _, fun hk => by cases hk⟩
        | cons x t =>
          rw [hl] at h
          have h2 := ih _ _ _ h (by show cnL kd _ = 0; split; exact hn'.1; exact hn'.2)
          have h3 : Mild { s.blk c with left := t } (blL l ++ blL r) (Tk.i (.ask c l r)).sz o := by
            refine h2.mono ?_ ?_
            · show (blL _).Sublist _
              split
              · exact List.sublist_append_left _ _
              · exact List.sublist_append_right _ _
            · show (txL _).length ≤ _
              split
              · exact hsz.1
              · exact hsz.2
          have h4 := Mild.then (s := s) (s1 := { s.blk c with left := t }) (d := [c]) (n1 := [c]) (z1 := 0) rfl (List.Sublist.refl _) (Nat.zero_le _) h3
          rw [Nat.zero_add] at h4
          exact h4
    | .i .stop, h, hn => rw [run] at h; injection h with h; subst h; exact ⟨[], by simp, List.nil_sublist _, fun hk => by cases hk⟩
    | .i (.frame b l), h, hn =>
      rw [run] at h
      have hb : (kd = 123 → b = false) ∧ cnL kd l = 0 := by
        have : cnI kd (.frame b l) = 0 := hn
        rw [cnI] at this
        refine ⟨fun e => ?_, by omega⟩
        subst e
        cases b with
        | false => rfl
        | true => rw [if_pos (show kdI (.frame true l) = 123 from rfl)] at this; omega
      have h2 := ih (.f b l) s o h hb
      have hns : (Tk.i (.frame b l)).ns = blL l := by show blI (.frame b l) = _; rw [blI]
      rw [hns]
      exact h2.mono (List.Sublist.refl _) (by show (txL l).length ≤ (txI (.frame b l)).length - 1; rw [txI]; simp)
    | .i (.leave n), h, hn => rw [run] at h; injection h with h; subst h; exact ⟨[], by simp, List.nil_sublist _, by omega⟩
    | .i (.set n), h, hn => rw [run] at h; injection h with h; subst h; exact ⟨[], by simp, List.nil_sublist _, by show s.idle ≤ _; omega⟩
    | .i (.pick bs), h, hn =>
      rw [run] at h
      have hn' : cnB kd bs = 0 := by have : cnI kd (.pick bs) = 0 := hn; rw [cnI] at this; omega
      have hns : (Tk.i (.pick bs)).ns = blB bs := by show blI (.pick bs) = _; rw [blI]
      rw [hns]
      cases hb : bs[s.num]? with
      | none => rw [hb] at h; injection h with h; subst h; exact ⟨[], by simp, List.nil_sublist _, by omega⟩
      | some b =>
        rw [hb] at h
        have h2 := ih (.l b) s o h (cnB_get hb hn')
        have h3 := txB_mem (List.mem_of_getElem? hb)
        exact h2.mono (blB_get hb) (by show (txL b).length ≤ (txI (.pick bs)).length - 1; rw [txI]; simp; omega)
    | .f b l, h, hn =>
      rw [run] at h
      obtain ⟨hbf, hn'⟩ : (kd = 123 → b = false) ∧ cnL kd l = 0 := hn
      cases hr : run N (.l l) s with
      | none => rw [hr] at h; cases h
      | some r =>
        have h2 : Mild s (blL l) (txL l).length r := ih (.l l) s r hr hn'
        rw [hr] at h
        cases r with
        | next s1 => injection h with h; subst h; exact h2
        | fin e t m => injection h with h; subst h; exact h2
        | leave n s1 =>
          cases n with
          | succ n => injection h with h; subst h; exact h2
          | zero =>
            rcases hkd with e | e
            · have hbf' := hbf e
              subst hbf'
              simp only [Bool.false_eq_true, if_false] at h
              injection h with h; subst h; exact h2
            · subst e
              exact absurd rfl (run_noLeave N (.l l) s _ hr hn' 0 s1)

/-- Without loops, and without leaves, a run is too long only by its blocks. -/
theorem noKind_long {kd : UInt8} (hkd : kd = 123 ∨ kd = 94) {s c : List UInt8} {l : List It} {o : ROut} (hl : textOk s l) (h : Runs (.l l) (rs0 c) o) (hn : cnL kd l = 0) (h2 : o.code = 2) : o.trace.length = 60 := by
  obtain ⟨N, h⟩ := h
  have h1 := run_mild2 hkd N (.l l) (rs0 c) o h hn
  have h3 : (txL l).length ≤ 200 := by rw [← hl.2.2]; exact hl.1
  cases o with
  | next s1 => cases h2
  | leave n s1 => cases h2
  | fin k t m =>
    obtain ⟨d, _, _, h5⟩ := h1
    rcases h5 h2 with h | ⟨h, _⟩
    · have : 4000 ≤ 0 + (txL l).length := h
      omega
    · exact h

mutual
theorem cn_memI {kd : UInt8} (h88 : kd ≠ 88) : ∀ (i : It), cnI kd i ≠ 0 → kd ∈ txI i
  | .blk c, h => by rw [cnI, if_neg (show ¬ kdI (.blk c) = kd from fun e => h88 e.symm)] at h; exact absurd rfl h
  | .ask c l r, h => by
    rw [cnI] at h; rw [txI]
    by_cases e : kdI (.ask c l r) = kd
    · have e' : (63 : UInt8) = kd := e; subst e'; simp
    · rw [if_neg e] at h
      by_cases hl : cnL kd l = 0
      · have := cn_memL h88 r (by omega); simp [this]
      · have := cn_memL h88 l hl; simp [this]
  | .stop, h => by
    rw [cnI] at h; rw [txI]
    by_cases e : kdI .stop = kd
    · have e' : (46 : UInt8) = kd := e; subst e'; simp
    · rw [if_neg e] at h; exact absurd rfl h
  | .frame b l, h => by
    rw [cnI] at h; rw [txI]
    by_cases e : kdI (.frame b l) = kd
    · have e' : opn b = kd := e; subst e'; simp
    · rw [if_neg e] at h
      have := cn_memL h88 l (by omega); simp [this]
  | .leave n, h => by
    rw [cnI] at h; rw [txI]
    by_cases e : kdI (.leave n) = kd
    · have e' : (94 : UInt8) = kd := e; subst e'; simp
    · rw [if_neg e] at h; exact absurd rfl h
  | .set n, h => by
    rw [cnI] at h; rw [txI]
    by_cases e : kdI (.set n) = kd
    · have e' : (61 : UInt8) = kd := e; subst e'; simp
    · rw [if_neg e] at h; exact absurd rfl h
  | .pick bs, h => by
    rw [cnI] at h; rw [txI]
    by_cases e : kdI (.pick bs) = kd
    · have e' : (35 : UInt8) = kd := e; subst e'; simp
    · rw [if_neg e] at h
      have := cn_memB h88 bs (by omega); simp [this]
theorem cn_memL {kd : UInt8} (h88 : kd ≠ 88) : ∀ (l : List It), cnL kd l ≠ 0 → kd ∈ txL l
  | [], h => by rw [cnL] at h; exact absurd rfl h
  | i :: l, h => by
    rw [cnL] at h; rw [txL]
    by_cases hi : cnI kd i = 0
    · have := cn_memL h88 l (by omega); simp [this]
    · have := cn_memI h88 i hi; simp [this]
theorem cn_memB {kd : UInt8} (h88 : kd ≠ 88) : ∀ (bs : List (List It)), cnB kd bs ≠ 0 → kd ∈ txB bs
  | [], h => by rw [cnB] at h; exact absurd rfl h
  | b :: bs, h => by
    rw [cnB] at h; rw [txB]
    by_cases hb : cnL kd b = 0
    · have := cn_memB h88 bs (by omega); simp [this]
    · have := cn_memL h88 b hb; simp [this]
end

/-- What goes on silently has a loop and a leave. -/
theorem silent_has {s c : List UInt8} {o : ROut} (h : RanT s c (some o)) (he : o.code = 2 ∧ o.trace.length < 60) {kd : UInt8} (hkd : kd = 123 ∨ kd = 94) : kd ∈ s := by
  obtain ⟨l, hl, _, hr⟩ := h
  have h1 : cnL kd l ≠ 0 := fun hn => by have := noKind_long hkd hl hr hn he.1; omega
  rw [hl.2.2]
  exact cn_memL (by rcases hkd with rfl | rfl <;> decide) l h1
/-- One choice more. -/
theorem choices_more {c : List UInt8} {x : UInt8} (h : choicesB (tb c) = true) (hx : x = 108 ∨ x = 114) (hl : c.length < 20) : choicesB (tb (c ++ [x])) = true := by
  unfold choicesB isLR at *
  rw [tb_data, tb_size, Bool.and_eq_true, decide_eq_true_iff, List.all_eq_true] at *
  refine ⟨by rw [List.length_append, List.length_singleton]; omega, fun y hy => ?_⟩
  rcases List.mem_append.1 hy with h1 | h1
  · exact h.2 y h1
  · rw [List.mem_singleton] at h1; subst h1; rcases hx with rfl | rfl <;> decide
theorem silent_more {s c : List UInt8} {o : ROut} {q : Option ROut} {x : UInt8} (h : RanT s c (some o)) (he : o.code = 2) (hx : x = 108 ∨ x = 114) (hl : c.length < 20) (hq : RanT s (c ++ [x]) q) :
    ∃ o', q = some o' ∧ o'.trace = o.trace ∧ o'.code = o.code := by
  cases q with
  | none =>
    obtain ⟨l, h1, hc, _⟩ := h
    rcases hq with h2 | h2
    · exact absurd h1 (h2 l)
    · rw [choices_more hc hx hl] at h2; cases h2
  | some o' =>
    have h1 : RanT s ((c ++ [x]).take c.length) (some o) := by rw [List.take_left]; exact h
    have h2 := (ran_take c.length hq h1).2 (by omega)
    exact ⟨o', rfl, h2.1, h2.2.1⟩
end Go.Proofs.Ytmjhoiaehmfkcaa
