/-
  Runs with more choices: plain facts.
-/
import Derived.Test.YteodlcgmncchpaaSpecRun
namespace Go.Proofs.Yteodlcgmncchpaa
open Go.RowKit Go.Sort

theorem lastEnd_cons (x : Nat × Nat) (l : List (Nat × Nat)) : lastEnd (x :: l) = if l = [] then x.2 else lastEnd l := by
  cases l with
  | nil => rfl
  | cons y l => simp [lastEnd]

/-- A run that doesn't end for want of a choice is the same with more. -/
theorem runL_more (g : List Bl) : ∀ (m i : Nat) (left extra : List UInt8), lastEnd (runL g m i left) ≠ 1 → runL g m i (left ++ extra) = runL g m i left
  | 0, _, _, _, _ => rfl
  | m + 1, i, left, extra, h => by
    have ih := runL_more g m
    unfold runL at h ⊢
    split
    · rfl
    · rename_i j hj
      rw [hj] at h
      rw [ih j left extra]
      simp only at h
      rw [lastEnd_cons] at h
      by_cases he : runL g m j left = []
      · rw [he]; decide
      · rwa [if_neg he] at h
    · rename_i j k r hj
      rw [hj] at h
      cases left with
      | nil => simp [lastEnd] at h
      | cons c l =>
        simp only [List.cons_append]
        simp only at h
        generalize (if c = 108 then j else k) = z at h ⊢
        rw [ih z l extra]
        rw [lastEnd_cons] at h
        by_cases he : runL g m z l = []
        · rw [he]; decide
        · rwa [if_neg he] at h

/-- Fewer choices: a first part of the run. -/
theorem runL_less (g : List Bl) : ∀ (m i : Nat) (left extra : List UInt8), (runL g m i left).map (·.1) <+: (runL g m i (left ++ extra)).map (·.1)
  | 0, _, _, _ => List.prefix_refl _
  | m + 1, i, left, extra => by
    have ih := runL_less g m
    unfold runL
    split
    · exact List.prefix_refl _
    · rename_i j hj
      simp only [List.map_cons]
      exact (List.prefix_cons_inj _).2 (ih _ _ _)
    · rename_i j k r hj
      cases left with
      | nil =>
        cases extra with
        | nil => exact List.prefix_refl _
        | cons c l => simp
      | cons c l =>
        simp only [List.cons_append, List.map_cons]
        exact (List.prefix_cons_inj _).2 (ih _ _ _)

theorem runOf_more {g : List Bl} {s e : ByteArray} (h : endOf g s ≠ 1) : runOf g (s ++ e) = runOf g s := by
  unfold runOf
  rw [ByteArray.data_append, Array.toList_append]
  exact runL_more g 60 0 _ _ h

theorem choicesB_more {s : ByteArray} {c : UInt8} (h : choicesB s = true) (hs : s.size < 20) (hc : c = 108 ∨ c = 114) : choicesB (s ++ ⟨#[c]⟩) = true := by
  unfold choicesB isLR at h ⊢
  obtain ⟨_, h2⟩ := Bool.and_eq_true_iff.1 h
  have e1 : decide ((s ++ ⟨#[c]⟩).size ≤ 20) = true := by
    rw [ByteArray.size_append]; exact decide_eq_true (show s.size + 1 ≤ 20 by omega)
  rw [e1, ByteArray.data_append, Array.toList_append, Bool.true_and, List.all_append, h2]
  rcases hc with rfl | rfl <;> rfl

/-- What is left over doesn't count. -/
theorem run_over {g : List Bl} {s : ByteArray} {c : UInt8} (hb : runB g s = true) (hs : s.size < 20) (he : runE g s ≠ 1) (hc : c = 108 ∨ c = 114) :
    runT g (s ++ ⟨#[c]⟩) = runT g s ∧ runE g (s ++ ⟨#[c]⟩) = runE g s ∧ runB g (s ++ ⟨#[c]⟩) = true := by
  have hb0 := hb
  unfold runB at hb0
  obtain ⟨hv, hch⟩ := Bool.and_eq_true_iff.1 hb0
  have hb2 := runB_yes hv (choicesB_more hch hs hc)
  rw [runE_yes hb] at he
  have hr := runOf_more (g := g) (s := s) (e := ⟨#[c]⟩) (by omega)
  rw [runT_yes hb, runT_yes hb2, runE_yes hb, runE_yes hb2]
  unfold traceOf endOf
  rw [hr]
  exact ⟨rfl, rfl, hb2⟩

theorem size_one (c : UInt8) : (⟨#[c]⟩ : ByteArray).size = 1 := rfl

theorem implRun_over (A : Option Addr) (cap : Nat) (g : List Bl) (s u : ByteArray) (c : UInt8) (w : World) (hg : Gr w A g) (hn : g.length + tot g ≤ 1048576) (hs : s.size < 20) (hb : runB g s = true) (he : runE g s ≠ 1) (hc : c = 108 ∨ c = 114) (hu : u = s ++ ⟨#[c]⟩) :
    Calls Try.prog 37 #[.slice A g.length cap, .string u] w (fun e w' => e = .returned (.tuple #[.string (runT g s), .int .i64 (runE g s), .bool true]) ∧ Below w.heap.size w w') := by
  obtain ⟨e1, e2, e3⟩ := run_over hb hs he hc
  have hsz : u.size ≤ 4611686018427387904 := by
    have h := size_one c
    rw [hu, ByteArray.size_append]; omega
  rw [← hu] at e1 e2 e3
  refine (implRun_any A cap g u w hg hn hsz).mono fun e w' hp => ?_
  unfold RunPost at hp
  rw [e1, e2, e3] at hp
  exact hp
end Go.Proofs.Yteodlcgmncchpaa
