/-
  Runs of texts without loops: they do blocks in the order of the text, and end.
-/
import Derived.Test.YtgkamcnbpiipoaaRunVal
import Derived.Test.YtgkamcnbpiipoaaWithin
namespace Go.Proofs.Ytgkamcnbpiipoaa
open Go.RowKit Go.Sort

theorem blB_get : ∀ {bs : List (List It)} {k : Nat} {b : List It}, bs[k]? = some b → (blL b).Sublist (blB bs)
  | [], k, b, h => by simp at h
  | a :: bs, 0, b, h => by simp at h; subst h; rw [blB]; exact List.sublist_append_left _ _
  | a :: bs, k + 1, b, h => by rw [blB]; exact (blB_get (bs := bs) (by simpa using h)).trans (List.sublist_append_right _ _)
theorem cnB_get {kd : UInt8} : ∀ {bs : List (List It)} {k : Nat} {b : List It}, bs[k]? = some b → cnB kd bs = 0 → cnL kd b = 0
  | [], k, b, h, _ => by simp at h
  | a :: bs, 0, b, h, hc => by simp at h; subst h; rw [cnB] at hc; omega
  | a :: bs, k + 1, b, h, hc => by rw [cnB] at hc; exact cnB_get (bs := bs) (by simpa using h) (by omega)

/-- No loops, the blocks, how many items there can be. -/
def Tk.noLoop : Tk → Prop
  | .l xs => cnL 123 xs = 0
  | .i x => cnI 123 x = 0
  | .f b xs => b = false ∧ cnL 123 xs = 0
def Tk.ns : Tk → List UInt8
  | .l xs => blL xs
  | .i x => blI x
  | .f _ xs => blL xs
def Tk.sz : Tk → Nat
  | .l xs => (txL xs).length
  | .i x => (txI x).length - 1
  | .f _ xs => (txL xs).length
/-- What comes of it: some of the blocks in their order; too many steps or blocks only where there are so many. -/
def Mild (s : RSt) (ns : List UInt8) (sz : Nat) : ROut → Prop
  | .next s1 => ∃ d, s1.trace = s.trace ++ d ∧ d.Sublist ns ∧ s1.idle ≤ s.idle + sz
  | .leave _ s1 => ∃ d, s1.trace = s.trace ++ d ∧ d.Sublist ns ∧ s1.idle ≤ s.idle + sz
  | .fin k t _ => ∃ d, t = s.trace ++ d ∧ d.Sublist ns ∧ (k = 2 → 4000 ≤ s.idle + sz ∨ (t.length = 60 ∧ d.length < ns.length))
theorem Mild.mono {s : RSt} {ns ns' : List UInt8} {sz sz' : Nat} {o : ROut} (h : Mild s ns sz o) (hn : ns.Sublist ns') (hz : sz ≤ sz') : Mild s ns' sz' o := by
  cases o with
  | next s1 => obtain ⟨d, h1, h2, h3⟩ := h; exact ⟨d, h1, h2.trans hn, by omega⟩
  | leave n s1 => obtain ⟨d, h1, h2, h3⟩ := h; exact ⟨d, h1, h2.trans hn, by omega⟩
  | fin k t m =>
    obtain ⟨d, h1, h2, h3⟩ := h
    refine ⟨d, h1, h2.trans hn, fun hk => ?_⟩
    have := hn.length_le
    rcases h3 hk with h | ⟨h, h'⟩
    · exact .inl (by omega)
    · exact .inr ⟨h, by omega⟩
theorem Mild.then {s s1 : RSt} {d n1 n2 : List UInt8} {z1 z2 : Nat} {o : ROut} (ht : s1.trace = s.trace ++ d) (hd : d.Sublist n1) (hi : s1.idle ≤ s.idle + z1) (h : Mild s1 n2 z2 o) : Mild s (n1 ++ n2) (z1 + z2) o := by
  have hdl := hd.length_le
  cases o with
  | next s2 => obtain ⟨d2, h1, h2, h3⟩ := h; exact ⟨d ++ d2, by rw [h1, ht, List.append_assoc], hd.append h2, by omega⟩
  | leave n s2 => obtain ⟨d2, h1, h2, h3⟩ := h; exact ⟨d ++ d2, by rw [h1, ht, List.append_assoc], hd.append h2, by omega⟩
  | fin k t m =>
    obtain ⟨d2, h1, h2, h3⟩ := h
    refine ⟨d ++ d2, by rw [h1, ht, List.append_assoc], hd.append h2, fun hk => ?_⟩
    rcases h3 hk with h | ⟨h, h'⟩
    · exact .inl (by omega)
    · exact .inr ⟨h, by rw [List.length_append, List.length_append]; omega⟩

theorem run_mild : ∀ (N : Nat) (t : Tk) (s : RSt) (o : ROut), run N t s = some o → t.noLoop → Mild s t.ns t.sz o := by
  intro N
  induction N with
  | zero => intro t s o h; cases h
  | succ N ih =>
    intro t s o h hn
    match t, h, hn with
    | .l [], h, hn => rw [run] at h; injection h with h; subst h; exact ⟨[], by simp, List.Sublist.refl _, by omega⟩
    | .l (i :: l), h, hn =>
      rw [run] at h
      have hn' : cnI 123 i = 0 ∧ cnL 123 l = 0 := by have : cnL 123 (i :: l) = 0 := hn; rw [cnL] at this; omega
      have hns : (Tk.l (i :: l)).ns = blI i ++ blL l := by show blL (i :: l) = _; rw [blL]
      have hsz : (Tk.l (i :: l)).sz = (txI i).length + (txL l).length := by show (txL (i :: l)).length = _; rw [txL, List.length_append]
      have hp := txI_pos i
      rw [hns, hsz]
      split at h
      · rename_i hi; injection h with h; subst h; exact ⟨[], by simp, List.nil_sublist _, fun _ => .inl (by omega)⟩
      · rename_i hi
        cases hr : run N (.i i) s.step with
        | none => rw [hr] at h; cases h
        | some r =>
          have h2 : Mild s.step (blI i) ((txI i).length - 1) r := ih _ _ _ hr hn'.1
          have h3 : Mild s (blI i) (txI i).length r := by
            have := Mild.then (s := s) (s1 := s.step) (d := []) (n1 := []) (z1 := 1) (by show s.trace = _; simp) (List.Sublist.refl _) (Nat.le_refl _) h2
            rw [List.nil_append] at this
            exact this.mono (List.Sublist.refl _) (by omega)
          rw [hr] at h
          cases r with
          | next s1 =>
            obtain ⟨d, h4, h5, h6⟩ := h3
            exact Mild.then h4 h5 h6 (ih (.l l) s1 o h hn'.2)
          | leave n s1 => injection h with h; subst h; exact h3.mono (List.sublist_append_left _ _) (by omega)
          | fin e t m => injection h with h; subst h; exact h3.mono (List.sublist_append_left _ _) (by omega)
    | .i (.blk c), h, hn =>
      rw [run] at h
      have hns : (Tk.i (.blk c)).ns = [c] := by show blI (.blk c) = _; rw [blI]
      rw [hns]
      split at h
      · rename_i hl; injection h with h; subst h; exact ⟨[], by simp, List.nil_sublist _, fun _ => .inr ⟨hl, by simp⟩⟩
      · injection h with h; subst h; exact ⟨[c], rfl, List.Sublist.refl _, Nat.zero_le _⟩
    | .i (.ask c l r), h, hn =>
      rw [run] at h
      have hn' : cnL 123 l = 0 ∧ cnL 123 r = 0 := by have : cnI 123 (.ask c l r) = 0 := hn; rw [cnI] at this; omega
      have hns : (Tk.i (.ask c l r)).ns = [c] ++ (blL l ++ blL r) := by show blI (.ask c l r) = _; rw [blI]; rfl
      have hsz : (txL l).length ≤ (Tk.i (.ask c l r)).sz ∧ (txL r).length ≤ (Tk.i (.ask c l r)).sz := by
        constructor
        · show _ ≤ (txI (.ask c l r)).length - 1; rw [txI]; simp; omega
        · show _ ≤ (txI (.ask c l r)).length - 1; rw [txI]; simp; omega
      rw [hns]
      split at h
      · rename_i hl; injection h with h; subst h; exact ⟨[], by simp, List.nil_sublist _, fun _ => .inr ⟨hl, by simp⟩⟩
      · cases hl : s.left with
        | nil =>
          rw [hl] at h; injection h with h; subst h
          exact ⟨[c], rfl, List.sublist_append_left _ _, fun hk => by cases hk⟩
        | cons x t =>
          rw [hl] at h
          have h2 := ih _ _ _ h (by show cnL 123 _ = 0; split; exact hn'.1; exact hn'.2)
          have h3 : Mild { s.blk c with left := t } (blL l ++ blL r) (Tk.i (.ask c l r)).sz o := by
            refine h2.mono ?_ ?_
            · show (blL _).Sublist _
              split
              · exact List.sublist_append_left _ _
              · exact List.sublist_append_right _ _
            · show (txL _).length ≤ _
              split
              · exact hsz.1
              · exact hsz.2
          have h4 := Mild.then (s := s) (s1 := { s.blk c with left := t }) (d := [c]) (n1 := [c]) (z1 := 0) rfl (List.Sublist.refl _) (Nat.zero_le _) h3
          rw [Nat.zero_add] at h4
          exact h4
    | .i .stop, h, hn => rw [run] at h; injection h with h; subst h; exact ⟨[], by simp, List.nil_sublist _, fun hk => by cases hk⟩
    | .i (.frame b l), h, hn =>
      rw [run] at h
      have hb : b = false ∧ cnL 123 l = 0 := by
        have : cnI 123 (.frame b l) = 0 := hn
        rw [cnI] at this
        cases b with
        | false => exact ⟨rfl, by omega⟩
        | true => rw [if_pos (show kdI (.frame true l) = 123 from rfl)] at this; omega
      have h2 := ih (.f b l) s o h hb
      have hns : (Tk.i (.frame b l)).ns = blL l := by show blI (.frame b l) = _; rw [blI]
      rw [hns]
      exact h2.mono (List.Sublist.refl _) (by show (txL l).length ≤ (txI (.frame b l)).length - 1; rw [txI]; simp)
    | .i (.leave n), h, hn => rw [run] at h; injection h with h; subst h; exact ⟨[], by simp, List.nil_sublist _, by omega⟩
    | .i (.set n), h, hn => rw [run] at h; injection h with h; subst h; exact ⟨[], by simp, List.nil_sublist _, by show s.idle ≤ _; omega⟩
    | .i (.pick bs), h, hn =>
      rw [run] at h
      have hn' : cnB 123 bs = 0 := by have : cnI 123 (.pick bs) = 0 := hn; rw [cnI] at this; omega
      have hns : (Tk.i (.pick bs)).ns = blB bs := by show blI (.pick bs) = _; rw [blI]
      rw [hns]
      cases hb : bs[s.num]? with
      | none => rw [hb] at h; injection h with h; subst h; exact ⟨[], by simp, List.nil_sublist _, by omega⟩
      | some b =>
        rw [hb] at h
        have h2 := ih (.l b) s o h (cnB_get hb hn')
        have h3 := txB_mem (List.mem_of_getElem? hb)
        exact h2.mono (blB_get hb) (by show (txL b).length ≤ (txI (.pick bs)).length - 1; rw [txI]; simp; omega)
    | .f b l, h, hn =>
      rw [run] at h
      obtain ⟨rfl, hn'⟩ : b = false ∧ cnL 123 l = 0 := hn
      cases hr : run N (.l l) s with
      | none => rw [hr] at h; cases h
      | some r =>
        have h2 : Mild s (blL l) (txL l).length r := ih (.l l) s r hr hn'
        rw [hr] at h
        cases r with
        | next s1 => injection h with h; subst h; exact h2
        | fin e t m => injection h with h; subst h; exact h2
        | leave n s1 =>
          cases n with
          | succ n => injection h with h; subst h; exact h2
          | zero =>
            simp only [Bool.false_eq_true, if_false] at h
            injection h with h; subst h; exact h2

/-- A text without loops: some of its blocks in their order; too long only with more than 60 blocks. -/
theorem noLoop_run {s c : List UInt8} {l : List It} {o : ROut} (hl : textOk s l) (h : Runs (.l l) (rs0 c) o) (hn : cnL 123 l = 0) : o.trace.Sublist (blL l) ∧ (o.code = 2 → 60 < (blL l).length) := by
  obtain ⟨N, h⟩ := h
  have h1 := run_mild N (.l l) (rs0 c) o h hn
  have h2 : (txL l).length ≤ 200 := by rw [← hl.2.2]; exact hl.1
  cases o with
  | next s1 => obtain ⟨d, h3, h4, _⟩ := h1; exact ⟨by show s1.trace.Sublist _; rw [h3]; exact h4, fun h => by cases h⟩
  | leave n s1 => obtain ⟨d, h3, h4, _⟩ := h1; exact ⟨by show s1.trace.Sublist _; rw [h3]; exact h4, fun h => by cases h⟩
  | fin k t m =>
    obtain ⟨d, h3, h4, h5⟩ := h1
    have h3' : t = d := h3
    refine ⟨by show t.Sublist _; rw [h3']; exact h4, fun hk => ?_⟩
    rcases h5 hk with h | ⟨h, h'⟩
    · have : 4000 ≤ 0 + (txL l).length := h
      omega
    · have h'' : d.length < (blL l).length := h'
      rw [h3'] at h
      omega

/-- Names looked through in order. -/
theorem scan_same {n a : UInt8} {ns d : List UInt8} (h : (a :: d).Sublist (n :: ns)) (e : n = a) : d.Sublist ns := by
  subst e; exact List.cons_sublist_cons.1 h
theorem scan_other {n a : UInt8} {ns d : List UInt8} (h : (a :: d).Sublist (n :: ns)) (e : n ≠ a) : (a :: d).Sublist ns := by
  cases h with
  | cons _ h => exact h
  | cons_cons _ h => exact absurd rfl e
end Go.Proofs.Ytgkamcnbpiipoaa
