/-
  Runs with more choices: plain facts.
-/
import Derived.Test.YtgkamcnbpiipoaaGreatSpecRun
import Derived.Test.YtgkamcnbpiipoaaGreatWays
namespace Go.Proofs.YtgkamcnbpiipoaaGreat
open Go.RowKit Go.Sort

theorem lastEnd_cons (x : Nat × Nat) (l : List (Nat × Nat)) : lastEnd (x :: l) = if l = [] then x.2 else lastEnd l := by
  cases l with
  | nil => rfl
  | cons y l => simp [lastEnd]

/-- A run that doesn't end for want of a choice is the same with more. -/
theorem runL_more (g : List Bl) : ∀ (m i : Nat) (left extra : List UInt8), lastEnd (runL g m i left) ≠ 1 → runL g m i (left ++ extra) = runL g m i left
  | 0, _, _, _, _ => rfl
  | m + 1, i, left, extra, h => by
    have ih := runL_more g m
    unfold runL at h ⊢
    split
    · rfl
    · rename_i j hj
      rw [hj] at h
      rw [ih j left extra]
      simp only at h
      rw [lastEnd_cons] at h
      by_cases he : runL g m j left = []
      · rw [he]; decide
      · rwa [if_neg he] at h
    · rename_i j k r hj
      rw [hj] at h
      cases left with
      | nil => simp [lastEnd] at h
      | cons c l =>
        simp only [List.cons_append]
        simp only at h
        generalize (if c = 108 then j else k) = z at h ⊢
        rw [ih z l extra]
        rw [lastEnd_cons] at h
        by_cases he : runL g m z l = []
        · rw [he]; decide
        · rwa [if_neg he] at h

/-- Fewer choices: a first part of the run. -/
theorem runL_less (g : List Bl) : ∀ (m i : Nat) (left extra : List UInt8), (runL g m i left).map (·.1) <+: (runL g m i (left ++ extra)).map (·.1)
  | 0, _, _, _ => List.prefix_refl _
  | m + 1, i, left, extra => by
    have ih := runL_less g m
    unfold runL
    split
    · exact List.prefix_refl _
    · rename_i j hj
      simp only [List.map_cons]
      exact (List.prefix_cons_inj _).2 (ih _ _ _)
    · rename_i j k r hj
      cases left with
      | nil =>
        cases extra with
        | nil => exact List.prefix_refl _
        | cons c l => simp
      | cons c l =>
        simp only [List.cons_append, List.map_cons]
        exact (List.prefix_cons_inj _).2 (ih _ _ _)

theorem runOf_more {g : List Bl} {s e : ByteArray} (h : endOf g s ≠ 1) : runOf g (s ++ e) = runOf g s := by
  unfold runOf
  rw [ByteArray.data_append, Array.toList_append]
  exact runL_more g 60 0 _ _ h

theorem choicesB_more {s : ByteArray} {c : UInt8} (h : choicesB s = true) (hs : s.size < 20) (hc : c = 108 ∨ c = 114) : choicesB (s ++ ⟨#[c]⟩) = true := by
  unfold choicesB isLR at h ⊢
  obtain ⟨_, h2⟩ := Bool.and_eq_true_iff.1 h
  have e1 : decide ((s ++ ⟨#[c]⟩).size ≤ 20) = true := by
    rw [ByteArray.size_append]; exact decide_eq_true (show s.size + 1 ≤ 20 by omega)
  rw [e1, ByteArray.data_append, Array.toList_append, Bool.true_and, List.all_append, h2]
  rcases hc with rfl | rfl <;> rfl

/-- What is left over doesn't count. -/
theorem run_over {g : List Bl} {s : ByteArray} {c : UInt8} (hb : runB g s = true) (hs : s.size < 20) (he : runE g s ≠ 1) (hc : c = 108 ∨ c = 114) :
    runT g (s ++ ⟨#[c]⟩) = runT g s ∧ runE g (s ++ ⟨#[c]⟩) = runE g s ∧ runB g (s ++ ⟨#[c]⟩) = true := by
  have hb0 := hb
  unfold runB at hb0
  obtain ⟨hv, hch⟩ := Bool.and_eq_true_iff.1 hb0
  have hb2 := runB_yes hv (choicesB_more hch hs hc)
  rw [runE_yes hb] at he
  have hr := runOf_more (g := g) (s := s) (e := ⟨#[c]⟩) (by omega)
  rw [runT_yes hb, runT_yes hb2, runE_yes hb, runE_yes hb2]
  unfold traceOf endOf
  rw [hr]
  exact ⟨rfl, rfl, hb2⟩

theorem size_one (c : UInt8) : (⟨#[c]⟩ : ByteArray).size = 1 := rfl

theorem implRun_over (A : Option Addr) (cap : Nat) (g : List Bl) (s u : ByteArray) (c : UInt8) (w : World) (hg : Gr w A g) (hn : g.length + tot g ≤ 1048576) (hs : s.size < 20) (hb : runB g s = true) (he : runE g s ≠ 1) (hc : c = 108 ∨ c = 114) (hu : u = s ++ ⟨#[c]⟩) :
    Calls Tryz.prog 12 #[.slice A g.length cap, .string u] w (fun e w' => e = .returned (.tuple #[.string (runT g s), .int .i64 (runE g s), .bool true]) ∧ Below w.heap.size w w') := by
  obtain ⟨e1, e2, e3⟩ := run_over hb hs he hc
  have hsz : u.size ≤ 4611686018427387904 := by
    have h := size_one c
    rw [hu, ByteArray.size_append]; omega
  rw [← hu] at e1 e2 e3
  refine (implRun_any A cap g u w hg hn hsz).mono fun e w' hp => ?_
  unfold RunPost at hp
  rw [e1, e2, e3] at hp
  exact hp
end Go.Proofs.YtgkamcnbpiipoaaGreat

/-
  Runs along ways: a run with the choices of a way comes to its end; what a run comes to has a way: plain facts.
-/
namespace Go.Proofs.YtgkamcnbpiipoaaGreat
open Go.RowKit Go.Sort

theorem Path.lab {g : List Bl} {A : List Nat} {i m : Nat} {s : ByteArray} (h : Path g A i s m) : Lab g A i (cd s) := by
  induction h with
  | start ha => exact .start ha
  | jump _ hn ha ih => exact .jump ih hn ha
  | left _ hn ha ih => rw [cd_l]; exact .left ih hn ha
  | right _ hn ha ih => rw [cd_r]; exact .right ih hn ha

theorem Path.pos {g : List Bl} {A : List Nat} {i m : Nat} {s : ByteArray} (h : Path g A i s m) : 1 ≤ m := by
  cases h <;> omega

/-- A run with these choices and more comes along the way. -/
theorem Path.run {g : List Bl} {A : List Nat} {i m : Nat} {s : ByteArray} (h : Path g A i s m) :
    ∀ (M : Nat) (u : List UInt8), ∃ p, runL g (M + m) 0 (s.data.toList ++ u) = p ++ runL g (M + 1) i u ∧ p.length + 1 = m ∧ (∀ x ∈ p, x.2 = 2) ∧ ∀ x ∈ p, ∃ t m', Path g A x.1 t m' := by
  induction h with
  | start _ => intro M u; exact ⟨[], rfl, rfl, by simp, by simp⟩
  | jump h0 hn _ ih =>
    intro M u
    obtain ⟨p, h1, h2, h3, h4⟩ := ih (M + 1) u
    rename_i i t m s _
    refine ⟨p ++ [(i, 2)], ?_, by simp; omega, fun x hx => ?_, fun x hx => ?_⟩
    · rw [show M + (m + 1) = M + 1 + m by omega, h1, runL_jump hn, List.append_assoc]; rfl
    · rcases List.mem_append.1 hx with hx | hx
      · exact h3 x hx
      · simp at hx; subst hx; rfl
    · rcases List.mem_append.1 hx with hx | hx
      · exact h4 x hx
      · simp at hx; subst hx; exact ⟨_, _, h0⟩
  | left h0 hn _ ih =>
    intro M u
    obtain ⟨p, h1, h2, h3, h4⟩ := ih (M + 1) (108 :: u)
    rename_i i t k m s _
    refine ⟨p ++ [(i, 2)], ?_, by simp; omega, fun x hx => ?_, fun x hx => ?_⟩
    · rw [show M + (m + 1) = M + 1 + m by omega, data_app, List.append_assoc, show chL.data.toList ++ u = 108 :: u from rfl, h1, runL_go hn, if_pos rfl, List.append_assoc]; rfl
    · rcases List.mem_append.1 hx with hx | hx
      · exact h3 x hx
      · simp at hx; subst hx; rfl
    · rcases List.mem_append.1 hx with hx | hx
      · exact h4 x hx
      · simp at hx; subst hx; exact ⟨_, _, h0⟩
  | right h0 hn _ ih =>
    intro M u
    obtain ⟨p, h1, h2, h3, h4⟩ := ih (M + 1) (114 :: u)
    rename_i i t k m s _
    refine ⟨p ++ [(i, 2)], ?_, by simp; omega, fun x hx => ?_, fun x hx => ?_⟩
    · rw [show M + (m + 1) = M + 1 + m by omega, data_app, List.append_assoc, show chR.data.toList ++ u = 114 :: u from rfl, h1, runL_go hn, if_neg (by decide), List.append_assoc]; rfl
    · rcases List.mem_append.1 hx with hx | hx
      · exact h3 x hx
      · simp at hx; subst hx; rfl
    · rcases List.mem_append.1 hx with hx | hx
      · exact h4 x hx
      · simp at hx; subst hx; exact ⟨_, _, h0⟩

theorem runL_head' (g : List Bl) (m i : Nat) (left : List UInt8) : ∃ e r, runL g (m + 1) i left = (i, e) :: r := by
  unfold runL
  split
  · exact ⟨_, _, rfl⟩
  · exact ⟨_, _, rfl⟩
  · split <;> exact ⟨_, _, rfl⟩

theorem runOf_path {g : List Bl} {A : List Nat} {i m : Nat} {s : ByteArray} (h : Path g A i s m) (hm : m ≤ 60) :
    ∃ p, runOf g s = p ++ runL g (60 - m + 1) i [] ∧ (∀ x ∈ p, x.2 = 2) ∧ p.length + 1 = m ∧ ∀ x ∈ p, ∃ t m', Path g A x.1 t m' := by
  obtain ⟨p, h1, h2, h3, h4⟩ := h.run (60 - m) []
  refine ⟨p, ?_, h3, h2, h4⟩
  unfold runOf
  rw [show 60 - m + m = 60 by omega, List.append_nil] at h1
  exact h1

theorem lastEnd_app (a b : List (Nat × Nat)) (hb : b ≠ []) : lastEnd (a ++ b) = lastEnd b := by
  unfold lastEnd
  rw [List.getLast?_append, Option.or_of_isSome]
  cases b with
  | nil => exact absurd rfl hb
  | cons x l => simp

/-- It comes there. -/
theorem path_has {g : List Bl} {A : List Nat} {i m : Nat} {s : ByteArray} (h : Path g A i s m) (hm : m ≤ 60) : i ∈ (runOf g s).map (·.1) := by
  obtain ⟨p, hp, _⟩ := runOf_path h hm
  obtain ⟨e, r, hr⟩ := runL_head' g (60 - m) i []
  rw [hp, hr]; simp

/-- And ends there, or goes on by jumps. -/
theorem path_stop {g : List Bl} {A : List Nat} {i m : Nat} {s : ByteArray} (h : Path g A i s m) (hm : m ≤ 60) (hn : nxt g i = []) : endOf g s = 0 := by
  obtain ⟨p, hp, _⟩ := runOf_path h hm
  unfold endOf
  rw [hp, runL_stop hn, lastEnd_app _ _ (by simp)]; rfl
theorem path_ask {g : List Bl} {A : List Nat} {i j k m : Nat} {s : ByteArray} (h : Path g A i s m) (hm : m ≤ 60) (hn : nxt g i = [j, k]) : endOf g s = 1 := by
  obtain ⟨p, hp, _⟩ := runOf_path h hm
  unfold endOf
  rw [hp, runL_ask hn, lastEnd_app _ _ (by simp)]; rfl

/-- What a run comes to has a way, with a part of its choices. -/
theorem code_snoc (s : List UInt8) (c : UInt8) : code (s ++ [c]) = 2 * code s + (if c = 108 then 0 else 1) := by simp [code]

theorem run_lab {g : List Bl} (hv : validB g = true) : ∀ (M i : Nat) (pre left : List UInt8), Lab g [] i (code pre) → ∀ x ∈ runL g M i left, ∃ t, t <+: left ∧ Lab g [] x.1 (code (pre ++ t))
  | 0, _, _, _, _, x, hx => by simp [runL] at hx
  | M + 1, i, pre, left, h, x, hx => by
    have ih := run_lab hv M
    unfold runL at hx
    split at hx
    · simp at hx; subst hx; exact ⟨[], List.nil_prefix, by rw [List.append_nil]; exact h⟩
    · rename_i j hj
      rcases List.mem_cons.1 hx with rfl | hx
      · exact ⟨[], List.nil_prefix, by rw [List.append_nil]; exact h⟩
      · exact ih j pre left (.jump h hj (by simp)) x hx
    · rename_i j k r hj
      split at hx
      · simp at hx; subst hx; exact ⟨[], List.nil_prefix, by rw [List.append_nil]; exact h⟩
      · rename_i c l
        rcases List.mem_cons.1 hx with rfl | hx
        · exact ⟨[], List.nil_prefix, by rw [List.append_nil]; exact h⟩
        · have hr : r = [] := by
            rcases goes hv (h.lt hv) with ⟨e, _⟩ | ⟨p, _, e, _⟩ | ⟨p, q, _, _, e, _⟩
            · rw [e] at hj; cases hj
            · rw [e] at hj; cases hj
            · rw [e] at hj; injection hj with _ hj; injection hj with _ hj; exact hj.symm
          subst hr
          have hstep : Lab g [] (if c = 108 then j else k) (code (pre ++ [c])) := by
            rw [code_snoc]
            by_cases hc : c = 108
            · rw [if_pos hc, if_pos hc]; exact .left h hj (by simp)
            · rw [if_neg hc, if_neg hc]; exact .right h hj (by simp)
          obtain ⟨t, ht, hl⟩ := ih _ (pre ++ [c]) l hstep x hx
          refine ⟨c :: t, List.cons_prefix_cons.2 ⟨rfl, ht⟩, ?_⟩
          rw [List.append_assoc] at hl
          exact hl

theorem runOf_lab {g : List Bl} (hv : validB g = true) {s : ByteArray} {x : Nat × Nat} (hx : x ∈ runOf g s) : ∃ t, t <+: s.data.toList ∧ Lab g [] x.1 (code t) := by
  obtain ⟨t, ht, hl⟩ := run_lab hv 60 0 [] s.data.toList (.start (by simp)) x hx
  exact ⟨t, ht, by simpa using hl⟩

theorem runL_zero {g : List Bl} : ∀ (M i : Nat) (left : List UInt8), ∀ x ∈ runL g M i left, x.2 = 0 → nxt g x.1 = []
  | 0, _, _, x, hx, _ => by simp [runL] at hx
  | M + 1, i, left, x, hx, h0 => by
    have ih := runL_zero (g := g) M
    unfold runL at hx
    split at hx
    · rename_i h; simp at hx; subst hx; exact h
    · rcases List.mem_cons.1 hx with rfl | hx
      · cases h0
      · exact ih _ _ x hx h0
    · split at hx
      · simp at hx; subst hx; cases h0
      · rcases List.mem_cons.1 hx with rfl | hx
        · cases h0
        · exact ih _ _ x hx h0

/-- A run that stops has come to a block that stops. -/
theorem stop_lab {g : List Bl} (hv : validB g = true) {s : ByteArray} (he : endOf g s = 0) : ∃ i t, nxt g i = [] ∧ t <+: s.data.toList ∧ Lab g [] i (code t) := by
  have hne : runOf g s ≠ [] := by
    obtain ⟨e, r, hr⟩ := runL_head' g 59 0 s.data.toList
    unfold runOf; rw [hr]; simp
  obtain ⟨x, hx⟩ : ∃ x, (runOf g s).getLast? = some x := by
    cases h : (runOf g s).getLast? with
    | none => exact absurd (List.getLast?_eq_none_iff.1 h) hne
    | some x => exact ⟨x, rfl⟩
  have hm := List.mem_of_getLast? hx
  unfold endOf lastEnd at he
  rw [hx] at he
  obtain ⟨t, ht, hl⟩ := runOf_lab hv hm
  exact ⟨x.1, t, runL_zero 60 0 _ x hm he, ht, hl⟩

/-- Fewer of the best choices come to no wanted block. -/
theorem prefix_code {s t : List UInt8} {k : Nat} (ht : t <+: s.take k) (hk : k < s.length) : code t < code s := by
  have h1 := ht.length_le
  rw [List.length_take] at h1
  exact code_shorter (by omega)

end Go.Proofs.YtgkamcnbpiipoaaGreat
