/-
  The text of a nest: plain facts.
-/
import Derived.Test.YtdpjdhllaokbfaaGreatNestMath
namespace Go.Proofs.YtdpjdhllaokbfaaGreat

mutual
/-- The text of an item. -/
def txN (g : List Bl) : NI → ByteArray
  | .blk i => nthName g i
  | .part _ D W => (⟨#[123]⟩ ++ nthName g (D.headD 0)) ++ txL g W ++ ⟨#[125]⟩
def txL (g : List Bl) : List NI → ByteArray
  | [] => ⟨#[]⟩
  | x :: xs => txN g x ++ txL g xs
end
theorem txL_nil (g : List Bl) : txL g [] = ⟨#[]⟩ := by unfold txL; rfl
theorem txL_cons (g : List Bl) (x : NI) (xs : List NI) : txL g (x :: xs) = txN g x ++ txL g xs := by rw [txL]
theorem txN_blk (g : List Bl) (i : Nat) : txN g (.blk i) = nthName g i := by unfold txN; rfl
theorem txN_part (g : List Bl) (P D : List Nat) (W : List NI) : txN g (.part P D W) = (⟨#[123]⟩ ++ nthName g (D.headD 0)) ++ txL g W ++ ⟨#[125]⟩ := by rw [txN]
theorem txL_snoc (g : List Bl) (xs : List NI) (x : NI) : txL g (xs ++ [x]) = txL g xs ++ txN g x := by
  induction xs with
  | nil => rw [List.nil_append, txL_cons, txL_nil, ba_append_empty, ba_empty_append]
  | cons y ys ih => rw [List.cons_append, txL_cons, txL_cons, ih, ba_append_assoc]
theorem txL_append (g : List Bl) (xs ys : List NI) : txL g (xs ++ ys) = txL g xs ++ txL g ys := by
  induction xs with
  | nil => rw [List.nil_append, txL_nil, ba_empty_append]
  | cons y ys ih => rw [List.cons_append, txL_cons, txL_cons, ih, ba_append_assoc]
mutual
/-- Blocks that are there, doors that are there. -/
def okN (g : List Bl) : NI → Prop
  | .blk i => i < g.length
  | .part _ D W => 0 < D.length ∧ (∀ x ∈ D, x < g.length) ∧ okL g W
def okL (g : List Bl) : List NI → Prop
  | [] => True
  | x :: xs => okN g x ∧ okL g xs
end
theorem okL_mem {g : List Bl} : ∀ {xs : List NI}, okL g xs → ∀ x ∈ xs, okN g x
  | [], _, x, h => by cases h
  | y :: ys, h, x, hx => by
    unfold okL at h
    rcases List.mem_cons.1 hx with rfl | hx
    · exact h.1
    · exact okL_mem h.2 x hx
theorem okL_of {g : List Bl} : ∀ {xs : List NI}, (∀ x ∈ xs, okN g x) → okL g xs
  | [], _ => by unfold okL; trivial
  | y :: ys, h => by unfold okL; exact ⟨h y List.mem_cons_self, okL_of fun x hx => h x (List.mem_cons_of_mem _ hx)⟩
theorem txL_len {g : List Bl} (hv : validB g = true) : ∀ {xs : List NI}, okL g xs → xs.length ≤ (txL g xs).size
  | [], _ => Nat.zero_le _
  | x :: xs, h => by
    unfold okL at h
    have h1 := txL_len hv h.2
    rw [txL_cons, ByteArray.size_append, List.length_cons]
    have h2 : 1 ≤ (txN g x).size := by
      cases x with
      | blk i =>
        have h3 := h.1
        unfold okN at h3
        obtain ⟨c, hc, _⟩ := valid_one hv (List.getElem_mem h3)
        rw [txN_blk, nthName_at h3, hc]; exact Nat.le_refl _
      | part P D W =>
        rw [txN_part, ByteArray.size_append]
        have : (⟨#[125]⟩ : ByteArray).size = 1 := rfl
        omega
    omega
mutual
theorem txN_wt {g : List Bl} (hv : validB g = true) : ∀ {x : NI}, okN g x → (txN g x).size ≤ 3 * wtN x
  | .blk i, h => by
    unfold okN at h
    obtain ⟨c, hc, _⟩ := valid_one hv (List.getElem_mem h)
    rw [txN_blk, nthName_at h, hc, wtN_blk]; show 1 ≤ 3 * 1; omega
  | .part P D W, h => by
    unfold okN at h
    obtain ⟨h1, h2, h3⟩ := h
    have h4 := txL_wt hv h3
    have hd : D.headD 0 < g.length := by
      cases D with
      | nil => simp at h1
      | cons d ds => exact h2 d List.mem_cons_self
    obtain ⟨c, hc, _⟩ := valid_one hv (List.getElem_mem hd)
    have h5 : (nthName g (D.headD 0)).size = 1 := by rw [nthName_at hd, hc]; rfl
    rw [txN_part, wtN_part, ByteArray.size_append, ByteArray.size_append, ByteArray.size_append, h5]
    have e1 : (⟨#[123]⟩ : ByteArray).size = 1 := rfl
    have e2 : (⟨#[125]⟩ : ByteArray).size = 1 := rfl
    omega
theorem txL_wt {g : List Bl} (hv : validB g = true) : ∀ {xs : List NI}, okL g xs → (txL g xs).size ≤ 3 * wtL xs
  | [], _ => by rw [txL_nil]; exact Nat.zero_le _
  | x :: xs, h => by
    unfold okL at h
    have h1 := txN_wt hv h.1
    have h2 := txL_wt hv h.2
    rw [txL_cons, wtL_cons, ByteArray.size_append]
    omega
end
theorem nest_ok {g : List Bl} (hv : validB g = true) : ∀ (m : Nat) (S : List Nat), (∀ x ∈ S, x < g.length ∧ Rch g [] x) → okL g (nestF g m S)
  | 0, S, _ => by unfold nestF okL; trivial
  | m + 1, S, hS => by
    refine okL_of fun x hx => ?_
    rw [nestF_succ] at hx
    obtain ⟨i, hi, h⟩ := List.mem_filterMap.1 hx
    have hSl : ∀ x ∈ S, x < g.length := fun x hx => (hS x hx).1
    cases x with
    | blk j =>
      unfold itemO at h
      by_cases hp : partL g S i = []
      · rw [if_pos hp] at h
        injection h with h; injection h with h
        subst h
        unfold okN; exact hSl i hi
      · rw [if_neg hp] at h
        split at h
        · injection h with h; cases h
        · cases h
    | part P D W =>
      obtain ⟨hG, hP, hW⟩ := itemO_good hSl h
      have hPS : ∀ x ∈ P, x ∈ S := fun x hx => by rw [hP] at hx; exact partL_sub hSl hx
      have hD : D = doorsL g P := hG.doors
      unfold okN
      refine ⟨?_, fun x hx => ?_, ?_⟩
      · have hm : P[0]'hG.pos ∈ P := List.getElem_mem hG.pos
        obtain ⟨d, hd⟩ := door_some hv hm (hS _ (hPS _ hm)).2
        rw [hD]; exact List.length_pos_of_mem hd
      · rw [hD] at hx; exact hG.lt x (doorsL_sub hx)
      · rw [hW]
        by_cases hd : (doorsL g P).length = 1
        · rw [if_pos hd]; exact nest_ok hv m _ fun x hx => hS x (hPS x (restL_sub hx))
        · rw [if_neg hd]; unfold okL; trivial
end Go.Proofs.YtdpjdhllaokbfaaGreat
