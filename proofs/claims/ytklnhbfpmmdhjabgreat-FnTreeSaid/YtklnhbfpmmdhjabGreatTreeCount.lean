/-
  How many letters the text of a tree has: plain facts.
-/
import Derived.Test.YtklnhbfpmmdhjabGreatSpecTree
namespace Go.Proofs.YtklnhbfpmmdhjabGreat
open Go.RowKit Go.Sort

theorem countP_split (p q : Nat → Bool) : ∀ l : List Nat, l.countP p = (l.countP fun x => p x && q x) + l.countP fun x => p x && !q x
  | [] => rfl
  | x :: l => by
    rw [List.countP_cons, List.countP_cons, List.countP_cons, countP_split p q l]
    cases p x <;> cases q x <;> simp <;> omega

/-- What one block dominates, but itself, one of its children dominates. -/
theorem kid_above {g : List Bl} (hv : validB g = true) {n x : Nat} (hx : Rch g [] x) (hd : Dm g n x) (hne : x ≠ n) : ∃ c ∈ kidsL g n, Dm g c x := by
  obtain ⟨i, hi, e⟩ := List.getElem_of_mem ((mem_domL hv hx).2 hd)
  have hnr := hd.live hx
  obtain ⟨l, hl⟩ := domL_pos hv hx
  have hlast : (domL g x)[(domL g x).length - 1]? = some x := by rw [hl]; simp
  have hi1 : i + 1 < (domL g x).length := by
    rcases Nat.lt_or_ge (i + 1) (domL g x).length with h | h
    · exact h
    · exfalso
      have : i = (domL g x).length - 1 := by omega
      rw [← this, List.getElem?_eq_getElem hi, e] at hlast
      exact hne (Option.some.inj hlast).symm
  have h1 := domL_take hv hx hi
  have h2 := domL_take hv hx hi1
  rw [e] at h1
  obtain ⟨c, hc⟩ : ∃ c, c = (domL g x)[i + 1] := ⟨_, rfl⟩
  rw [← hc] at h2
  have hcx : Dm g c x := (mem_domL hv hx).1 (hc ▸ List.getElem_mem hi1)
  have hcr := hcx.live hx
  have h3 : domL g c = domL g n ++ [c] := by rw [← h1, ← h2, List.take_succ_eq_append_getElem hi1, ← hc]
  have hp : parL g c = some n := by
    unfold parL
    rw [h3, List.dropLast_concat]
    obtain ⟨l', hl'⟩ := domL_pos hv hnr
    rw [hl', List.getLast?_concat]
  exact ⟨c, (mem_kids hv).2 ⟨hcr, (parL_iff hv hcr).1 hp⟩, hcx⟩

theorem kids_all {g : List Bl} (hv : validB g = true) {n : Nat} : subN g n ≤ sumF (subN g) (kidsL g n) + 1 := by
  have e : sumF (subN g) (kidsL g n) = sumF (fun x => (kidsL g n).countP fun c => dmB g c x) (reachS g) := countP_sum (dmB g) (kidsL g n) (reachS g)
  have h1 : ∀ x ∈ reachS g, (if (dmB g n x && !decide (x = n)) then 1 else 0) ≤ (kidsL g n).countP fun c => dmB g c x := by
    intro x hx
    have hxr := (mem_reachS' hv).1 hx
    by_cases hd : (dmB g n x && !decide (x = n)) = true
    · rw [if_pos hd]
      obtain ⟨h2, h3⟩ := Bool.and_eq_true_iff.1 hd
      obtain ⟨c, hc, hcx⟩ := kid_above hv hxr ((dmB_iff hv).1 h2) (by simpa using h3)
      exact List.countP_pos_iff.2 ⟨c, hc, (dmB_iff hv).2 hcx⟩
    · rw [if_neg hd]; exact Nat.zero_le _
  have h2 := sumF_le h1
  rw [sumF_count] at h2
  rw [e]
  have h3 := countP_split (fun x => dmB g n x) (fun x => decide (x = n)) (reachS g)
  have h4 : (reachS g).countP (fun x => dmB g n x && decide (x = n)) ≤ 1 := by
    refine countP_le_one (List.Pairwise.filter _ List.nodup_range) fun a _ b _ ha hb => ?_
    have ea := of_decide_eq_true (Bool.and_eq_true_iff.1 ha).2
    have eb := of_decide_eq_true (Bool.and_eq_true_iff.1 hb).2
    rw [ea, eb]
  unfold subN
  unfold subN at h3
  omega

theorem sub_is {g : List Bl} (hv : validB g = true) {n : Nat} (hn : Rch g [] n) : subN g n = sumF (subN g) (kidsL g n) + 1 := by
  have := kids_sub hv hn
  have := kids_all hv (n := n)
  omega

/-- How many letters a text has. -/
def letN (s : ByteArray) : Nat := s.data.toList.countP letB

theorem letN_app (a b : ByteArray) : letN (a ++ b) = letN a + letN b := by
  unfold letN; rw [ba_append_toList, List.countP_append]
theorem letN_name {g : List Bl} (hv : validB g = true) {i : Nat} (hi : i < g.length) : letN (nthName g i) = 1 := by
  obtain ⟨c, hc, hl⟩ := valid_one hv (List.getElem_mem hi)
  rw [nthName_at hi, hc]
  show [c].countP letB = 1
  rw [List.countP_singleton, if_pos hl]
theorem letN_inner (f : Nat → ByteArray) : ∀ l : List Nat, letN (innerT f l) = sumF (fun c => letN (f c)) l
  | [] => rfl
  | [c] => by show letN (f c) = _; rw [sumF_cons]; rfl
  | c :: d :: l => by
    show letN (f c ++ (⟨#[44]⟩ ++ innerT f (d :: l))) = _
    rw [letN_app, letN_app, letN_inner f (d :: l), sumF_cons _ c (d :: l)]
    have : letN ⟨#[44]⟩ = 0 := by decide
    omega

theorem sumF_congr {f k : Nat → Nat} {l : List Nat} (h : ∀ x ∈ l, f x = k x) : sumF f l = sumF k l := by
  unfold sumF; rw [List.map_congr_left h]

theorem tree_letters {g : List Bl} (hv : validB g = true) : ∀ (m n : Nat), Rch g [] n → g.length < m + (domL g n).length → letN (treeT g m n) = subN g n
  | 0, n, _, h => by have := domL_len hv n; omega
  | m + 1, n, hr, h => by
    by_cases hk : kidsL g n = []
    · rw [treeT_leaf hk, letN_name hv (hr.lt hv), sub_is hv hr, hk]; rfl
    · rw [treeT_kids hk, letN_app, letN_app, letN_app, letN_name hv (hr.lt hv), letN_inner, sub_is hv hr]
      have e1 : letN ⟨#[40]⟩ = 0 := by decide
      have e2 : letN ⟨#[41]⟩ = 0 := by decide
      have e3 : sumF (fun c => letN (treeT g m c)) (kidsL g n) = sumF (subN g) (kidsL g n) := sumF_congr fun c hc =>
        tree_letters hv m c ((mem_kids hv).1 hc).1 (by rw [kids_line hv hc]; omega)
      omega

theorem tree_count {g : List Bl} (hv : validB g = true) : letN (treeV g) = (reachS g).length := by
  rw [treeV_yes hv, tree_letters hv g.length 0 (.start (by simp)) (by rw [domL_entry hv]; simp)]
  unfold subN
  rw [List.countP_eq_length]
  intro x _
  exact (dmB_iff hv).2 (.entry g x)

/-- The letters of the first bytes. -/
def letTo (s : ByteArray) (k : Nat) : Nat := (s.data.toList.take k).countP letB
theorem letTo_next {s : ByteArray} {k : Nat} (h : k < s.size) : letTo s (k + 1) = letTo s k + (if letB s[k] then 1 else 0) := by
  unfold letTo
  rw [List.take_add_one, byte_at s k h, List.countP_append]
  show _ + [s[k]].countP letB = _
  rw [List.countP_singleton]
theorem letTo_all (s : ByteArray) : letTo s s.size = letN s := by
  unfold letTo letN
  rw [List.take_of_length_le (by rw [list_of_size]; exact Nat.le_refl _)]
theorem letTo_le (s : ByteArray) (k : Nat) : letTo s k ≤ k := by
  unfold letTo
  have := List.countP_le_length (p := letB) (l := s.data.toList.take k)
  have := List.length_take_le k s.data.toList
  omega

theorem tail_of (a b : ByteArray) : (a ++ b).extract a.size (a ++ b).size = b := by
  apply ba_ext
  rw [← Lib.toList_data, Lib.extract_toList]
  simp only [ByteArray.data_append, Array.toList_append]
  have hl : a.data.toList.length = a.size := list_of_size
  rw [← hl, List.drop_left, List.take_of_length_le]
  rw [ByteArray.size_append]
  have := list_of_size (s := b)
  omega
end Go.Proofs.YtklnhbfpmmdhjabGreat
