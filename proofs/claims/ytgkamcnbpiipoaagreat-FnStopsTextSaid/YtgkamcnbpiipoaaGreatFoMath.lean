/-
  What a graph and a text do with short choices: the first with which they differ; plain facts.
-/
import Derived.Test.YtgkamcnbpiipoaaGreatRunVal
import Derived.Test.YtgkamcnbpiipoaaGreatShortSpec
import Derived.Test.YtgkamcnbpiipoaaGreatSpecRun
namespace Go.Proofs.YtgkamcnbpiipoaaGreat
open Go.RowKit Go.Sort

/-- They do the same with some choices, or not. -/
def Agr (g : List Bl) (l : List It) (x : List UInt8) : Prop := ∃ o, Runs (.l l) (rs0 x) o ∧ tb o.trace = runT g (tb x) ∧ (o.code : Int) = runE g (tb x)
def Dis (g : List Bl) (l : List It) (x : List UInt8) : Prop := ∃ o, Runs (.l l) (rs0 x) o ∧ ¬ (tb o.trace = runT g (tb x) ∧ (o.code : Int) = runE g (tb x))
theorem Agr.not {g : List Bl} {l : List It} {x : List UInt8} (h : Agr g l x) (h' : Dis g l x) : False := by
  obtain ⟨o, h1, h2⟩ := h
  obtain ⟨o', h3, h4⟩ := h'
  rw [h3.uniq h1] at h4
  exact h4 h2
/-- The first short choices with which they differ. -/
def FO (g : List Bl) (s : List UInt8) : Option (List UInt8) → Prop
  | some x => ∃ l, textOk s l ∧ validB g = true ∧ ∃ pre, pre ++ [x] <+: shortL 6 ∧ (∀ y ∈ pre, Agr g l y) ∧ Dis g l x
  | none => ∀ l, textOk s l → validB g = true → ∀ y ∈ shortL 6, Agr g l y
theorem FO.uniq {g : List Bl} {s : List UInt8} {r r' : Option (List UInt8)} (h : FO g s r) (h' : FO g s r') : r = r' := by
  have two : ∀ {x : List UInt8}, FO g s (some x) → ¬ FO g s none := by
    rintro x ⟨l, h1, h2, pre, h3, _, h5⟩ h6
    exact (h6 l h1 h2 x (h3.subset (List.mem_append_right _ (List.mem_singleton.2 rfl)))).not h5
  match r, r', h, h' with
  | none, none, _, _ => rfl
  | some x, none, h, h' => exact absurd h' (two h)
  | none, some x, h, h' => exact absurd h (two h')
  | some x, some x', ⟨l, h1, h2, pre, h3, h4, h5⟩, ⟨l', h1', _, pre', h3', h4', h5'⟩ =>
    have := textOk_uniq h1 h1'
    subst this
    have key : ∀ {p q : List (List UInt8)} {a b : List UInt8}, p ++ [a] <+: shortL 6 → q ++ [b] <+: shortL 6 → (∀ y ∈ q, Agr g l y) → Dis g l a → ¬ p.length < q.length := by
      intro p q a b hp hq hqa ha hlt
      have h7 : p ++ [a] <+: q ++ [b] := List.prefix_of_prefix_length_le hp hq (by simp; omega)
      obtain ⟨t, ht⟩ := h7
      have e1 : (q ++ [b])[p.length]? = some a := by rw [← ht]; simp
      rw [List.getElem?_append_left hlt] at e1
      exact (hqa a (List.mem_of_getElem? e1)).not ha
    have k1 := key h3 h3' h4' h5
    have k2 := key h3' h3 h4 h5'
    have h7 : pre ++ [x] <+: pre' ++ [x'] := List.prefix_of_prefix_length_le h3 h3' (by simp; omega)
    have h8 := h7.eq_of_length (by simp; omega)
    have h9 := (List.append_inj' h8 rfl).2
    injection h9 with h9
    rw [h9]
/-- As values. -/
def foV : Option (List UInt8) → Value
  | some x => .tuple #[.string (tb x), .bool true]
  | none => .tuple #[.string (tb []), .bool false]
theorem fo_no_text {g : List Bl} {s : List UInt8} (h : ∀ l, ¬ textOk s l) : FO g s none := fun l hl => absurd hl (h l)
theorem fo_no_graph {g : List Bl} {s : List UInt8} (h : validB g = false) : FO g s none := fun l _ hv => by rw [h] at hv; cases hv
theorem short_LR : ∀ x ∈ shortL 6, choicesB (tb x) = true ∧ x.length ≤ 6 := by
  have h : (shortL 6).all (fun x => decide (x.length ≤ 6) && x.all fun c => c == 108 || c == 114) = true := by decide +kernel
  intro x hx
  have h1 := List.all_eq_true.1 h x hx
  rw [Bool.and_eq_true, decide_eq_true_eq] at h1
  refine ⟨?_, h1.1⟩
  unfold choicesB isLR
  rw [tb_data, Bool.and_eq_true, decide_eq_true_eq]
  refine ⟨?_, h1.2⟩
  have : (tb x).size = x.length := by show x.toArray.size = _; simp
  omega
end Go.Proofs.YtgkamcnbpiipoaaGreat
