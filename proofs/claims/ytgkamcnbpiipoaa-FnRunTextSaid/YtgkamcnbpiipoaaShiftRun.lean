/-
  Runs of a text within one frame more, and with a stop behind it: they do the same. What blocks a run does, and that the number stays.
-/
import Derived.Test.YtgkamcnbpiipoaaSilence
import Derived.Test.YtgkamcnbpiipoaaRunExt
import Derived.Test.YtgkamcnbpiipoaaTextB
import Derived.Test.YtgkamcnbpiipoaaNoLoopMath
namespace Go.Proofs.Ytgkamcnbpiipoaa
open Go.RowKit Go.Sort

/-- A text with a frame around it. -/
def frT (b : Bool) (s : List UInt8) : List UInt8 := opn b :: (s ++ [cls b])
theorem frT_len (b : Bool) (s : List UInt8) : (frT b s).length = s.length + 2 := by unfold frT; simp
theorem frT_tx (b : Bool) (l : List It) : txL [.frame b l] = frT b (txL l) := by
  rw [txL, txL, txI, List.append_nil]; rfl
theorem frT_yes {s : List UInt8} {l : List It} (b : Bool) (h : textOk s l) (hd : dpL l < 9) (hn : (frT b s).length ≤ 200) : textOk (frT b s) [.frame b l] := by
  refine ⟨hn, ?_, by rw [frT_tx, ← h.2.2]⟩
  rw [OkL, OkL, OkI]
  exact ⟨⟨by omega, ok_nextL l 0 h.2.1 (by omega)⟩, trivial⟩
theorem frT_no {s : List UInt8} {l : List It} (b : Bool) (h : textOk s l) {l' : List It} (h' : textOk (frT b s) l') : dpL l < 9 ∧ (frT b s).length ≤ 200 := by
  refine ⟨?_, h'.1⟩
  have h1 := scan_all h'.2.1
  rw [← h'.2.2] at h1
  unfold frT at h1
  rw [List.foldl_cons, scn_opn, List.foldl_append, h.2.2, scanL l 0 _ _ h.2.1] at h1
  simp only [List.foldl_cons, List.foldl_nil, scn_cls] at h1
  have h2 := (Prod.mk.inj h1).2
  have h3 := dp_okL l' 0 h'.2.1 (by omega)
  unfold scU at h2
  split at h2 <;> omega
/-- The items of a text with a frame around it. -/
theorem frT_items {s : List UInt8} {l : List It} (b : Bool) (h : textOk s l) {l' : List It} (h' : textOk (frT b s) l') : l' = [.frame b l] :=
  textOk_uniq h' (frT_yes b h (frT_no b h h').1 (frT_no b h h').2)
/-- Both kinds of frames fit alike. -/
theorem frT_both {s : List UInt8} {l : List It} (b c : Bool) (h : textOk s l) {l' : List It} (h' : textOk (frT b s) l') : ∃ l'', textOk (frT c s) l'' :=
  ⟨_, frT_yes c h (frT_no b h h').1 (by have := (frT_no b h h').2; rw [frT_len] at this ⊢; exact this)⟩

/-- What is handed back of an outcome's trace and end. -/
theorem rtV_of {o o' : ROut} (h1 : o'.code = o.code) (h2 : o'.trace = o.trace) : rtV (some o') = rtV (some o) := by
  unfold rtV; simp only [h1, h2]

theorem runs_of_cons {i : It} {s : RSt} {o : ROut} (h : Runs (.l [i]) s o) (hi : s.idle ≠ 4000) : ∃ r, Runs (.i i) s.step r ∧ (o = r) := by
  obtain ⟨N, h⟩ := h
  cases N with
  | zero => cases h
  | succ N =>
    rw [run, if_neg hi] at h
    cases hr : run N (.i i) s.step with
    | none => rw [hr] at h; cases h
    | some r =>
      rw [hr] at h
      refine ⟨r, ⟨N, hr⟩, ?_⟩
      cases r with
      | next s' =>
        simp only at h
        cases N with
        | zero => cases h
        | succ N => rw [run] at h; injection h with h; exact h.symm
      | leave n s' => injection h with h; exact h.symm
      | fin e t m => injection h with h; exact h.symm
/-- The run of a frame whose items are not left. -/
theorem runs_frame_body {b : Bool} {l : List It} {s : RSt} {o : ROut} (h : Runs (.i (.frame b l)) s o) (hok : OkL l 0) : Runs (.l l) s o := by
  obtain ⟨N, h⟩ := h
  cases N with
  | zero => cases h
  | succ N =>
    rw [run] at h
    cases N with
    | zero => cases h
    | succ N =>
      rw [run] at h
      cases hr : run N (.l l) s with
      | none => rw [hr] at h; cases h
      | some r =>
        rw [hr] at h
        cases r with
        | next s' => injection h with h; subst h; exact ⟨N, hr⟩
        | fin e t m => injection h with h; subst h; exact ⟨N, hr⟩
        | leave n s' => exact absurd (run_leave N (.l l) 0 _ _ _ hr hok) (Nat.not_lt_zero _)

/-- One frame more changes nothing. -/
theorem frame_ran {s c : List UInt8} (b : Bool) {l : List It} (hl : textOk s l) {o o' : ROut} (h : RanT s c (some o)) (h' : RanT (frT b s) c (some o')) : o'.code = o.code ∧ o'.trace = o.trace := by
  obtain ⟨l1, h1, _, hr⟩ := h
  have := textOk_uniq h1 hl
  subst this
  obtain ⟨l2, h2, _, hr'⟩ := h'
  have := frT_items b hl h2
  subst this
  obtain ⟨r, h3, rfl⟩ := runs_of_cons hr' (by show (0 : Nat) ≠ 4000; decide)
  have h4 := runs_frame_body h3 hl.2.1
  have hlen : (txL l1).length ≤ 202 := by rw [← hl.2.2]; have := hl.1; omega
  exact shift hl.2.1 hlen (s := rs0 c) (s' := (rs0 c).step) (by show (0 : Nat) < 10; decide) (by show (0 : Nat) ≤ 1000; decide) (by show 0 + 1 ≤ 1000; decide) rfl rfl rfl hr h4
theorem ran_none {s c : List UInt8} {l : List It} (hl : textOk s l) (h : RanT s c none) : choicesB (tb c) = false := by
  rcases h with h | h
  · exact absurd hl (h l)
  · exact h
theorem ran_yes {s c : List UInt8} {o : ROut} (h : RanT s c (some o)) : choicesB (tb c) = true := by
  obtain ⟨_, _, h, _⟩ := h; exact h
/-- As values. -/
theorem frame_rtV {s c : List UInt8} (b : Bool) {l l' : List It} (hl : textOk s l) (hl' : textOk (frT b s) l') {o o' : Option ROut} (h : RanT s c o) (h' : RanT (frT b s) c o') : rtV o' = rtV o := by
  match o, o', h, h' with
  | none, none, _, _ => rfl
  | some o, some o', h, h' => obtain ⟨h1, h2⟩ := frame_ran b hl h h'; exact rtV_of h1 h2
  | none, some o', h, h' => have := ran_none hl h; rw [ran_yes h'] at this; cases this
  | some o, none, h, h' => have := ran_none hl' h'; rw [ran_yes h] at this; cases this

/-- Items with more behind them. -/
theorem run_append {k : List It} : ∀ (N : Nat) (l : List It) (s : RSt) (o : ROut), run N (.l l) s = some o → match o with
    | .next s' => ∀ o', Runs (.l k) s' o' → Runs (.l (l ++ k)) s o'
    | o => Runs (.l (l ++ k)) s o := by
  intro N
  induction N with
  | zero => intro l s o h; cases h
  | succ N ih =>
    intro l s o h
    cases l with
    | nil => rw [run] at h; injection h with h; subst h; exact fun o' h => h
    | cons i l =>
      rw [run] at h
      split at h
      · rename_i hi; injection h with h; subst h; exact Runs.long hi
      · rename_i hi
        cases hr : run N (.i i) s.step with
        | none => rw [hr] at h; cases h
        | some r =>
          rw [hr] at h
          cases r with
          | next s1 =>
            have h2 := ih l s1 o h
            cases o with
            | next s' => exact fun o' ho => Runs.cons hi ⟨N, hr⟩ (h2 o' ho)
            | leave n s' => exact Runs.cons hi ⟨N, hr⟩ h2
            | fin e t m => exact Runs.cons hi ⟨N, hr⟩ h2
          | leave n s1 => injection h with h; subst h; exact Runs.cons_leave hi ⟨N, hr⟩
          | fin e t m => injection h with h; subst h; exact Runs.cons_fin hi ⟨N, hr⟩
theorem dot_tx : txL [.stop, .blk 65] = [46, 65] := by rw [txL, txL, txL, txI, txI]; rfl
theorem dot_ok : OkL [.stop, .blk 65] 0 := by rw [OkL, OkL, OkL, OkI, OkI]; exact ⟨trivial, rfl, trivial⟩
/-- A stop behind a text changes nothing. -/
theorem dot_ran {s c : List UInt8} {l l' : List It} (hl : textOk s l) (_ : textOk (s ++ [46, 65]) l') {o o' : ROut} (h : RanT s c (some o)) (h' : RanT (s ++ [46, 65]) c (some o')) : o'.code = o.code ∧ o'.trace = o.trace ∧ o'.num = o.num := by
  obtain ⟨l1, h1, _, N, hr⟩ := h
  have := textOk_uniq h1 hl
  subst this
  obtain ⟨l2, h2, _, hr'⟩ := h'
  have e2 : l2 = l1 ++ [.stop, .blk 65] := textOk_uniq h2 ⟨h2.1, (okL_append _ _ _).2 ⟨hl.2.1, dot_ok⟩, by rw [txL_append, dot_tx, ← hl.2.2]⟩
  subst e2
  have ha := run_append (k := [.stop, .blk 65]) N l1 _ o hr
  cases o with
  | next s' =>
    have hlen : (txL l1).length ≤ 202 := by rw [← hl.2.2]; have := hl.1; omega
    have hi : s'.idle < 4000 := idle_end hl.2.1 hlen (s := rs0 c) (by show (0 : Nat) < 10; decide) (by show (0 : Nat) ≤ 1000; decide) ⟨N, hr⟩
    have := (ha _ (Runs.cons_fin (by omega) (Runs.stop s'.step))).uniq hr'
    subst this
    exact ⟨rfl, rfl, rfl⟩
  | leave n s' => have := Runs.uniq ha hr'; subst this; exact ⟨rfl, rfl, rfl⟩
  | fin e t m => have := Runs.uniq ha hr'; subst this; exact ⟨rfl, rfl, rfl⟩
theorem dot_vals {s c : List UInt8} {l l' : List It} (hl : textOk s l) (hl' : textOk (s ++ [46, 65]) l') {o o' : Option ROut} (h : RanT s c o) (h' : RanT (s ++ [46, 65]) c o') : rtV o' = rtV o ∧ niV o' = niV o := by
  match o, o', h, h' with
  | none, none, _, _ => exact ⟨rfl, rfl⟩
  | some o, some o', h, h' => obtain ⟨h1, h2, h3⟩ := dot_ran hl hl' h h'; exact ⟨rtV_of h1 h2, by unfold niV; simp only [h3]⟩
  | none, some o', h, h' => have := ran_none hl h; rw [ran_yes h'] at this; cases this
  | some o, none, h, h' => have := ran_none hl' h'; rw [ran_yes h] at this; cases this

/-- A run does blocks of its text alone. -/
theorem run_blocks : ∀ (N : Nat) (t : Tk) (s : RSt) (o : ROut), run N t s = some o → ∀ c ∈ o.trace, c ∈ s.trace ∨ c ∈ t.ns := by
  intro N
  induction N with
  | zero => intro t s o h; cases h
  | succ N ih =>
    intro t s o h c hc
    match t, h with
    | .l [], h => rw [run] at h; injection h with h; subst h; exact .inl hc
    | .l (i :: l), h =>
      have hns : (Tk.l (i :: l)).ns = blI i ++ blL l := by show blL (i :: l) = _; rw [blL]
      rw [hns]
      rw [run] at h
      split at h
      · injection h with h; subst h; exact .inl hc
      · cases hr : run N (.i i) s.step with
        | none => rw [hr] at h; cases h
        | some r =>
          have h2 := ih _ _ _ hr
          rw [hr] at h
          cases r with
          | next s' =>
            rcases ih _ _ _ h c hc with h3 | h3
            · rcases h2 c h3 with h4 | h4
              · exact .inl h4
              · exact .inr (List.mem_append_left _ h4)
            · exact .inr (List.mem_append_right _ h3)
          | leave n s' =>
            injection h with h; subst h
            rcases h2 c hc with h4 | h4
            · exact .inl h4
            · exact .inr (List.mem_append_left _ h4)
          | fin e t m =>
            injection h with h; subst h
            rcases h2 c hc with h4 | h4
            · exact .inl h4
            · exact .inr (List.mem_append_left _ h4)
    | .i (.blk b), h =>
      have hns : (Tk.i (.blk b)).ns = [b] := by show blI (.blk b) = _; rw [blI]
      rw [hns]
      rw [run] at h
      split at h
      · injection h with h; subst h; exact .inl hc
      · injection h with h; subst h; exact List.mem_append.1 hc
    | .i (.ask b l r), h =>
      have hns : (Tk.i (.ask b l r)).ns = b :: (blL l ++ blL r) := by show blI (.ask b l r) = _; rw [blI]
      rw [hns]
      rw [run] at h
      split at h
      · injection h with h; subst h; exact .inl hc
      · cases hl : s.left with
        | nil =>
          rw [hl] at h; injection h with h; subst h
          rcases List.mem_append.1 hc with h | h
          · exact .inl h
          · rw [List.mem_singleton] at h; exact .inr (by rw [h]; exact List.mem_cons_self ..)
        | cons x t =>
          rw [hl] at h
          rcases ih _ _ _ h c hc with h | h
          · rcases List.mem_append.1 h with h | h
            · exact .inl h
            · rw [List.mem_singleton] at h; exact .inr (by rw [h]; exact List.mem_cons_self ..)
          · refine .inr (List.mem_cons_of_mem _ ?_)
            have h : c ∈ blL (if x = 108 then l else r) := h
            split at h
            · exact List.mem_append_left _ h
            · exact List.mem_append_right _ h
    | .i .stop, h => rw [run] at h; injection h with h; subst h; exact .inl hc
    | .i (.frame b l), h =>
      have hns : (Tk.i (.frame b l)).ns = (Tk.f b l).ns := by show blI (.frame b l) = blL l; rw [blI]
      rw [hns]
      rw [run] at h
      exact ih _ _ _ h c hc
    | .i (.leave n), h => rw [run] at h; injection h with h; subst h; exact .inl hc
    | .i (.set n), h => rw [run] at h; injection h with h; subst h; exact .inl hc
    | .i (.pick bs), h =>
      have hns : (Tk.i (.pick bs)).ns = blB bs := by show blI (.pick bs) = _; rw [blI]
      rw [hns]
      rw [run] at h
      cases hb : bs[s.num]? with
      | none => rw [hb] at h; injection h with h; subst h; exact .inl hc
      | some b =>
        rw [hb] at h
        rcases ih _ _ _ h c hc with h | h
        · exact .inl h
        · exact .inr ((blB_get hb).subset h)
    | .f b l, h =>
      rw [run] at h
      cases hr : run N (.l l) s with
      | none => rw [hr] at h; cases h
      | some r =>
        have h2 := ih _ _ _ hr
        rw [hr] at h
        cases r with
        | next s' => injection h with h; subst h; exact h2 c hc
        | fin e t m => injection h with h; subst h; exact h2 c hc
        | leave n s' =>
          cases n with
          | succ n => injection h with h; subst h; exact h2 c hc
          | zero =>
            simp only at h
            split at h
            · split at h
              · injection h with h; subst h; exact h2 c hc
              · rcases ih _ _ _ h c hc with h3 | h3
                · exact h2 c h3
                · exact .inr h3
            · injection h with h; subst h; exact h2 c hc

/-- Neither sets the number. -/
def Tk.nn : Tk → Prop
  | .l xs => cnL 61 xs = 0
  | .i x => cnI 61 x = 0
  | .f _ xs => cnL 61 xs = 0
theorem run_num : ∀ (N : Nat) (t : Tk) (s : RSt) (o : ROut), run N t s = some o → t.nn → o.num = s.num := by
  intro N
  induction N with
  | zero => intro t s o h; cases h
  | succ N ih =>
    intro t s o h hn
    match t, h, hn with
    | .l [], h, hn => rw [run] at h; injection h with h; subst h; rfl
    | .l (i :: l), h, hn =>
      have hn' : cnI 61 i = 0 ∧ cnL 61 l = 0 := by have : cnL 61 (i :: l) = 0 := hn; rw [cnL] at this; omega
      rw [run] at h
      split at h
      · injection h with h; subst h; rfl
      · cases hr : run N (.i i) s.step with
        | none => rw [hr] at h; cases h
        | some r =>
          have h2 := ih _ _ _ hr hn'.1
          rw [hr] at h
          cases r with
          | next s' => exact (ih _ _ _ h hn'.2).trans h2
          | leave n s' => injection h with h; subst h; exact h2
          | fin e t m => injection h with h; subst h; exact h2
    | .i (.blk b), h, hn =>
      rw [run] at h
      split at h <;> (injection h with h; subst h; rfl)
    | .i (.ask b l r), h, hn =>
      have hn' : cnL 61 l = 0 ∧ cnL 61 r = 0 := by have : cnI 61 (.ask b l r) = 0 := hn; rw [cnI] at this; omega
      rw [run] at h
      split at h
      · injection h with h; subst h; rfl
      · cases hl : s.left with
        | nil => rw [hl] at h; injection h with h; subst h; rfl
        | cons x t =>
          rw [hl] at h
          refine (ih _ _ _ h ?_).trans rfl
          show cnL 61 _ = 0
          split
          · exact hn'.1
          · exact hn'.2
    | .i .stop, h, hn => rw [run] at h; injection h with h; subst h; rfl
    | .i (.frame b l), h, hn =>
      have hn' : cnL 61 l = 0 := by have : cnI 61 (.frame b l) = 0 := hn; rw [cnI] at this; omega
      rw [run] at h
      exact ih (.f b l) _ _ h hn'
    | .i (.leave n), h, hn => rw [run] at h; injection h with h; subst h; rfl
    | .i (.set n), h, hn =>
      have : cnI 61 (.set n) = 0 := hn
      rw [cnI, if_pos (show kdI (.set n) = 61 from rfl)] at this
      cases this
    | .i (.pick bs), h, hn =>
      have hn' : cnB 61 bs = 0 := by have : cnI 61 (.pick bs) = 0 := hn; rw [cnI] at this; omega
      rw [run] at h
      cases hb : bs[s.num]? with
      | none => rw [hb] at h; injection h with h; subst h; rfl
      | some b => rw [hb] at h; exact ih (.l b) _ _ h (cnB_get hb hn')
    | .f b l, h, hn =>
      rw [run] at h
      cases hr : run N (.l l) s with
      | none => rw [hr] at h; cases h
      | some r =>
        have h2 := ih (.l l) _ _ hr hn
        rw [hr] at h
        cases r with
        | next s' => injection h with h; subst h; exact h2
        | fin e t m => injection h with h; subst h; exact h2
        | leave n s' =>
          cases n with
          | succ n => injection h with h; subst h; exact h2
          | zero =>
            simp only at h
            split at h
            · split at h
              · injection h with h; subst h; exact h2
              · exact (ih (.f b l) _ _ h hn).trans h2
            · injection h with h; subst h; exact h2
theorem ran_blocks {s c : List UInt8} {l : List It} (hl : textOk s l) {o : ROut} (h : RanT s c (some o)) : ∀ x ∈ o.trace, x ∈ blL l := by
  obtain ⟨l1, h1, _, N, hr⟩ := h
  have := textOk_uniq h1 hl
  subst this
  intro x hx
  rcases run_blocks N (.l l1) _ o hr x hx with h | h
  · exact absurd h (List.not_mem_nil)
  · exact h
theorem ran_num {s c : List UInt8} {l : List It} (hl : textOk s l) {o : ROut} (h : RanT s c (some o)) (hn : cnL 61 l = 0) : o.num = 0 := by
  obtain ⟨l1, h1, _, N, hr⟩ := h
  have := textOk_uniq h1 hl
  subst this
  exact run_num N (.l l1) _ o hr hn
theorem ran_len {s c : List UInt8} {o : ROut} (h : RanT s c (some o)) : o.trace.length ≤ 60 := by
  obtain ⟨l1, h1, _, hr⟩ := h
  have h2 := hr.ok (rs0_ok c)
  cases o with
  | next s' => exact h2.1.1
  | leave n s' => exact h2.1.1
  | fin e t m => exact h2
end Go.Proofs.Ytgkamcnbpiipoaa
