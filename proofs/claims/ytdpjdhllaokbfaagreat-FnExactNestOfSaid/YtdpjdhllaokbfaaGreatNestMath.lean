/-
  Parts within parts, their doors: plain facts.
-/
import Derived.Test.YtdpjdhllaokbfaaGreatPartMath
import Derived.Test.YtdpjdhllaokbfaaGreatWays
namespace Go.Proofs.YtdpjdhllaokbfaaGreat

/-- The blocks of a part that are entered from outside it. -/
def doorB (g : List Bl) (P : List Nat) (j : Nat) : Bool := decide (j = 0) || (reachS g).any fun k => !decide (k ∈ P) && decide (j ∈ nxt g k)
def doorsL (g : List Bl) (P : List Nat) : List Nat := P.filter (doorB g P)
/-- A block that is in no part of those among which it stands; or a part, its doors, and what is within it. -/
inductive NI where
  | blk (i : Nat)
  | part (P D : List Nat) (W : List NI)
def restL (P D : List Nat) : List Nat := P.filter fun x => decide (x ∉ D)
/-- What stands for a block among some: nothing if it is not the first of its part. -/
def itemO (g : List Bl) (S : List Nat) (f : List Nat → List NI) (i : Nat) : Option NI :=
  if partL g S i = [] then some (.blk i) else if (partL g S i).head? = some i then some (.part (partL g S i) (doorsL g (partL g S i)) (if (doorsL g (partL g S i)).length = 1 then f (restL (partL g S i) (doorsL g (partL g S i))) else [])) else none
def nestF (g : List Bl) : Nat → List Nat → List NI
  | 0, _ => []
  | m + 1, S => S.filterMap (itemO g S (nestF g m))
theorem nestF_succ (g : List Bl) (m : Nat) (S : List Nat) : nestF g (m + 1) S = S.filterMap (itemO g S (nestF g m)) := rfl
theorem nestF_nil (g : List Bl) (m : Nat) : nestF g m [] = [] := by cases m <;> rfl

theorem doorsL_sub {g : List Bl} {P : List Nat} {x : Nat} (h : x ∈ doorsL g P) : x ∈ P := (List.mem_filter.1 h).1
theorem restL_sub {P D : List Nat} {x : Nat} (h : x ∈ restL P D) : x ∈ P := (List.mem_filter.1 h).1
theorem mem_restL {P D : List Nat} {x : Nat} : x ∈ restL P D ↔ x ∈ P ∧ x ∉ D := by unfold restL; rw [List.mem_filter]; simp
theorem restL_lt {P D : List Nat} {x : Nat} (hx : x ∈ P) (hd : x ∈ D) : (restL P D).length < P.length := by
  unfold restL
  rcases Nat.lt_or_ge (P.filter fun x => decide (x ∉ D)).length P.length with h | h
  · exact h
  · have := List.filter_eq_self.1 (List.Sublist.eq_of_length_le List.filter_sublist h) x hx
    simp [hd] at this
theorem sorted_len {S : List Nat} {T : List Nat} (hT : T.Nodup) (h : ∀ x ∈ T, x ∈ S) : T.length ≤ S.length := by
  have : ∀ (S T : List Nat), T.Nodup → (∀ x ∈ T, x ∈ S) → T.length ≤ S.length := by
    intro S
    induction S with
    | nil => intro T _ h; cases T with
      | nil => exact Nat.le_refl _
      | cons x xs => cases h x List.mem_cons_self
    | cons a S ih =>
      intro T hT h
      have h1 := ih (T.erase a) (hT.erase a) fun x hx => by
        rcases List.mem_cons.1 (h x (List.mem_of_mem_erase hx)) with e | e
        · exact absurd e ((List.Nodup.mem_erase_iff hT).1 hx).1
        · exact e
      have h2 := List.length_erase (a := a) (l := T)
      simp only [List.length_cons]
      split at h2 <;> omega
  exact this S T hT h
theorem partL_nodup (g : List Bl) (S : List Nat) (i : Nat) : (partL g S i).Nodup := (partL_up g S i).imp fun h => Nat.ne_of_lt h
theorem restL_len {g : List Bl} {S : List Nat} (hS : ∀ x ∈ S, x < g.length) {i d : Nat} (hd : d ∈ doorsL g (partL g S i)) : (restL (partL g S i) (doorsL g (partL g S i))).length < S.length := by
  have h1 := restL_lt (P := partL g S i) (D := doorsL g (partL g S i)) (doorsL_sub hd) hd
  have h2 := sorted_len (partL_nodup g S i) fun x hx => partL_sub hS hx
  omega
theorem restL_up {P D : List Nat} (h : P.Pairwise (· < ·)) : (restL P D).Pairwise (· < ·) := h.filter _

theorem mem_reachP {g : List Bl} (hv : validB g = true) {x : Nat} : x ∈ reachS g ↔ Rch g [] x := by
  unfold reachS
  rw [List.mem_filter, List.mem_range, decide_eq_true_eq, mem_reach hv]
  exact ⟨fun h => h.2, fun h => ⟨reach_lt hv ((mem_reach hv).2 h), h⟩⟩
/-- A part that is reached has a door. -/
theorem door_some {g : List Bl} (hv : validB g = true) {P : List Nat} {x : Nat} (hx : x ∈ P) (hr : Rch g [] x) : ∃ d, d ∈ doorsL g P := by
  induction hr with
  | start h => exact ⟨0, List.mem_filter.2 ⟨hx, by unfold doorB; simp⟩⟩
  | @step i t h hn _ ih =>
    by_cases hi : i ∈ P
    · exact ih hi
    · refine ⟨t, List.mem_filter.2 ⟨hx, ?_⟩⟩
      unfold doorB
      rw [Bool.or_eq_true, List.any_eq_true]
      exact .inr ⟨i, (mem_reachP hv).2 h, by simp [hi, hn]⟩

/-- A part: its blocks, its doors, what is within it. -/
abbrev PT := List Nat × List Nat × List NI
def PT.ni (r : PT) : NI := .part r.1 r.2.1 r.2.2
mutual
/-- The parts of an item, each ahead of those within it. -/
def partsN : NI → List PT
  | .blk _ => []
  | .part P D W => (P, D, W) :: allP W
def allP : List NI → List PT
  | [] => []
  | x :: xs => partsN x ++ allP xs
end
def outerN : NI → List PT
  | .blk _ => []
  | .part P D W => [(P, D, W)]
/-- The parts among items. -/
def outerP (xs : List NI) : List PT := xs.flatMap outerN
mutual
def wtN : NI → Nat
  | .blk _ => 1
  | .part _ _ W => 1 + wtL W
def wtL : List NI → Nat
  | [] => 0
  | x :: xs => wtN x + wtL xs
end
theorem allP_nil : allP [] = [] := by unfold allP; rfl
theorem allP_cons (x : NI) (xs : List NI) : allP (x :: xs) = partsN x ++ allP xs := by rw [allP]
theorem partsN_blk (i : Nat) : partsN (.blk i) = [] := by unfold partsN; rfl
theorem partsN_part (P D : List Nat) (W : List NI) : partsN (.part P D W) = (P, D, W) :: allP W := by rw [partsN]
theorem wtL_nil : wtL [] = 0 := by unfold wtL; rfl
theorem wtL_cons (x : NI) (xs : List NI) : wtL (x :: xs) = wtN x + wtL xs := by rw [wtL]
theorem wtN_blk (i : Nat) : wtN (.blk i) = 1 := by unfold wtN; rfl
theorem wtN_part (P D : List Nat) (W : List NI) : wtN (.part P D W) = 1 + wtL W := by rw [wtN]
theorem wtN_pos (x : NI) : 1 ≤ wtN x := by
  cases x with
  | blk i => rw [wtN_blk]; exact Nat.le_refl _
  | part P D W => rw [wtN_part]; omega
theorem wtL_length (xs : List NI) : xs.length ≤ wtL xs := by
  induction xs with
  | nil => exact Nat.zero_le _
  | cons x xs ih => rw [wtL_cons, List.length_cons]; have := wtN_pos x; omega
theorem wtL_mem {x : NI} {xs : List NI} (h : x ∈ xs) : wtN x ≤ wtL xs := by
  induction xs with
  | nil => cases h
  | cons y ys ih =>
    rw [wtL_cons]
    rcases List.mem_cons.1 h with rfl | h
    · omega
    · have := ih h; omega
theorem allP_len : ∀ (n : Nat) (xs : List NI), wtL xs ≤ n → (allP xs).length ≤ wtL xs
  | 0, xs, h => by
    have := wtL_length xs
    have e : xs = [] := List.eq_nil_of_length_eq_zero (by omega)
    subst e; rw [allP_nil]; exact Nat.zero_le _
  | n + 1, xs, h => by
    induction xs with
    | nil => rw [allP_nil]; exact Nat.zero_le _
    | cons x xs ih =>
      rw [wtL_cons] at h ⊢
      rw [allP_cons, List.length_append]
      have h1 := ih (by omega)
      have h2 : (partsN x).length ≤ wtN x := by
        cases x with
        | blk i => rw [partsN_blk]; exact Nat.zero_le _
        | part P D W =>
          rw [partsN_part, wtN_part, List.length_cons]
          rw [wtN_part] at h
          have := allP_len n W (by omega)
          omega
      omega
theorem allP_append (xs ys : List NI) : allP (xs ++ ys) = allP xs ++ allP ys := by
  induction xs with
  | nil => rw [allP_nil]; rfl
  | cons x xs ih => rw [List.cons_append, allP_cons, ih, allP_cons, List.append_assoc]
theorem allP_snoc (xs : List NI) (x : NI) : allP (xs ++ [x]) = allP xs ++ partsN x := by rw [allP_append, allP_cons, allP_nil, List.append_nil]
theorem outerP_snoc (xs : List NI) (x : NI) : outerP (xs ++ [x]) = outerP xs ++ outerN x := by unfold outerP; rw [List.flatMap_append]; simp
theorem outerP_len (xs : List NI) : (outerP xs).length ≤ xs.length := by
  induction xs with
  | nil => exact Nat.le_refl _
  | cons x xs ih =>
    have e : outerP (x :: xs) = outerN x ++ outerP xs := rfl
    rw [e, List.length_append, List.length_cons]
    cases x <;> simp [outerN] <;> omega

/-- What is covered by the item of a block. -/
def covL (g : List Bl) (S : List Nat) (i : Nat) : List Nat := if partL g S i = [] then [i] else if (partL g S i).head? = some i then partL g S i else []
theorem covL_sub {g : List Bl} {S : List Nat} (hS : ∀ x ∈ S, x < g.length) {i x : Nat} (hi : i ∈ S) (h : x ∈ covL g S i) : x ∈ S := by
  unfold covL at h
  split at h
  · rw [List.mem_singleton.1 h]; exact hi
  · split at h
    · exact partL_sub hS h
    · cases h
theorem covL_one {g : List Bl} {S : List Nat} (hS : ∀ x ∈ S, x < g.length) {i j x : Nat} (h : x ∈ covL g S i) (k : x ∈ covL g S j) : i = j := by
  unfold covL at h k
  by_cases hi : partL g S i = []
  · rw [if_pos hi] at h
    have e := List.mem_singleton.1 h
    subst e
    by_cases hj : partL g S j = []
    · rw [if_pos hj] at k; exact List.mem_singleton.1 k
    · rw [if_neg hj] at k
      split at k
      · have := partL_same hS k
        rw [hi] at this; exact absurd this.symm hj
      · cases k
  · rw [if_neg hi] at h
    by_cases hih : (partL g S i).head? = some i
    · rw [if_pos hih] at h
      have e1 := partL_same hS h
      by_cases hj : partL g S j = []
      · rw [if_pos hj] at k
        have e := List.mem_singleton.1 k
        subst e
        rw [hj] at e1; exact absurd e1.symm hi
      · rw [if_neg hj] at k
        by_cases hjh : (partL g S j).head? = some j
        · rw [if_pos hjh] at k
          have e2 := partL_same hS k
          rw [← e1, e2, hjh] at hih
          exact (Option.some.inj hih).symm
        · rw [if_neg hjh] at k; cases k
    · rw [if_neg hih] at h; cases h
theorem covL_nodup (g : List Bl) (S : List Nat) (i : Nat) : (covL g S i).Nodup := by
  unfold covL
  split
  · simp
  · split
    · exact partL_nodup g S i
    · exact List.nodup_nil
theorem cov_all {g : List Bl} {S : List Nat} (hS : ∀ x ∈ S, x < g.length) : ∀ T : List Nat, T.Nodup → (∀ x ∈ T, x ∈ S) → (T.flatMap (covL g S)).Nodup ∧ ∀ x ∈ T.flatMap (covL g S), x ∈ S
  | [], _, _ => ⟨List.nodup_nil, fun x hx => by cases hx⟩
  | t :: T, hn, hs => by
    rw [List.nodup_cons] at hn
    obtain ⟨h1, h2⟩ := cov_all hS T hn.2 fun x hx => hs x (List.mem_cons_of_mem _ hx)
    have e : (t :: T).flatMap (covL g S) = covL g S t ++ T.flatMap (covL g S) := rfl
    rw [e]
    refine ⟨?_, fun x hx => ?_⟩
    · rw [List.nodup_append]
      refine ⟨covL_nodup g S t, h1, fun a ha b hb hab => ?_⟩
      subst hab
      obtain ⟨u, hu, hau⟩ := List.mem_flatMap.1 hb
      have := covL_one hS ha hau
      subst this
      exact hn.1 hu
    · rcases List.mem_append.1 hx with hx | hx
      · exact covL_sub hS (hs t List.mem_cons_self) hx
      · exact h2 x hx
theorem nest_wt {g : List Bl} : ∀ (m : Nat) (S : List Nat), (∀ x ∈ S, x < g.length) → S.Nodup → wtL (nestF g m S) ≤ 2 * S.length
  | 0, S, _, _ => by unfold nestF; rw [wtL_nil]; exact Nat.zero_le _
  | m + 1, S, hS, hn => by
    obtain ⟨h1, h2⟩ := cov_all hS S hn fun _ h => h
    have h3 := sorted_len h1 h2
    have key : ∀ T : List Nat, (∀ x ∈ T, x ∈ S) → wtL (T.filterMap (itemO g S (nestF g m))) ≤ 2 * (T.flatMap (covL g S)).length := by
      intro T
      induction T with
      | nil => intro _; rw [List.filterMap_nil, wtL_nil]; exact Nat.zero_le _
      | cons t T ih =>
        intro hT
        have h4 := ih fun x hx => hT x (List.mem_cons_of_mem _ hx)
        have e : (t :: T).flatMap (covL g S) = covL g S t ++ T.flatMap (covL g S) := rfl
        rw [e, List.length_append]
        cases hi : itemO g S (nestF g m) t with
        | none => rw [List.filterMap_cons_none hi]; omega
        | some x =>
          rw [List.filterMap_cons_some hi, wtL_cons]
          have h5 : wtN x ≤ 2 * (covL g S t).length := by
            unfold itemO at hi
            unfold covL
            by_cases hp : partL g S t = []
            · rw [if_pos hp] at hi ⊢
              have := Option.some.inj hi
              subst this
              rw [wtN_blk]; simp
            · rw [if_neg hp] at hi ⊢
              by_cases hh : (partL g S t).head? = some t
              · rw [if_pos hh] at hi ⊢
                have := Option.some.inj hi
                subst this
                rw [wtN_part]
                have hpos : 0 < (partL g S t).length := List.length_pos_iff.2 hp
                by_cases hd : (doorsL g (partL g S t)).length = 1
                · rw [if_pos hd]
                  obtain ⟨d, hdm⟩ : ∃ d, d ∈ doorsL g (partL g S t) := by
                    cases hdl : doorsL g (partL g S t) with
                    | nil => rw [hdl] at hd; cases hd
                    | cons d ds => exact ⟨d, List.mem_cons_self⟩
                  have h6 := nest_wt m (restL (partL g S t) (doorsL g (partL g S t))) (fun x hx => hS x (partL_sub hS (restL_sub hx))) ((partL_nodup g S t).filter _)
                  have h7 := restL_lt (P := partL g S t) (D := doorsL g (partL g S t)) (doorsL_sub hdm) hdm
                  omega
                · rw [if_neg hd, wtL_nil]; omega
              · rw [if_neg hh] at hi; cases hi
          omega
    have h8 := key S fun _ h => h
    rw [nestF_succ]
    omega
/-- What holds of each part of a nest. -/
structure GoodP (g : List Bl) (r : PT) : Prop where
  lt : ∀ x ∈ r.1, x < g.length
  up : r.1.Pairwise (· < ·)
  pos : 0 < r.1.length
  doors : r.2.1 = doorsL g r.1
theorem GoodP.len {g : List Bl} (hv : validB g = true) {r : PT} (h : GoodP g r) : r.1.length ≤ 26 := Nat.le_trans (nodup_lt_len _ _ (h.up.imp fun h => Nat.ne_of_lt h) h.lt) (valid_iff.1 hv).2.1
theorem itemO_good {g : List Bl} {S : List Nat} (hS : ∀ x ∈ S, x < g.length) {f : List Nat → List NI} {i : Nat} {P D : List Nat} {W : List NI} (h : itemO g S f i = some (.part P D W)) : GoodP g (P, D, W) ∧ P = partL g S i ∧ W = if (doorsL g P).length = 1 then f (restL P (doorsL g P)) else [] := by
  unfold itemO at h
  by_cases hp : partL g S i = []
  · rw [if_pos hp] at h; cases h
  · rw [if_neg hp] at h
    by_cases hh : (partL g S i).head? = some i
    · rw [if_pos hh] at h
      have := Option.some.inj h
      injection this with e1 e2 e3
      subst e1
      exact ⟨⟨fun x hx => hS x (partL_sub hS hx), partL_up g S i, List.length_pos_iff.2 hp, e2.symm⟩, rfl, e3.symm⟩
    · rw [if_neg hh] at h; cases h
theorem mem_allP {xs : List NI} {r : PT} : r ∈ allP xs ↔ ∃ x ∈ xs, r ∈ partsN x := by
  induction xs with
  | nil => rw [allP_nil]; simp
  | cons y ys ih => rw [allP_cons, List.mem_append, ih]; simp
theorem nest_good {g : List Bl} : ∀ (m : Nat) (S : List Nat), (∀ x ∈ S, x < g.length) → ∀ r ∈ allP (nestF g m S), GoodP g r
  | 0, S, _, r, h => by unfold nestF at h; rw [allP_nil] at h; cases h
  | m + 1, S, hS, r, h => by
    rw [nestF_succ] at h
    obtain ⟨x, hx, hr⟩ := mem_allP.1 h
    obtain ⟨i, _, hi⟩ := List.mem_filterMap.1 hx
    cases x with
    | blk j => rw [partsN_blk] at hr; cases hr
    | part P D W =>
      obtain ⟨h1, _, h3⟩ := itemO_good hS hi
      rw [partsN_part] at hr
      rcases List.mem_cons.1 hr with rfl | hr
      · exact h1
      · rw [h3] at hr
        by_cases hd : (doorsL g P).length = 1
        · rw [if_pos hd] at hr
          exact nest_good m _ (fun x hx => h1.lt x (restL_sub hx)) r hr
        · rw [if_neg hd, allP_nil] at hr; cases hr
theorem outerP_all {xs : List NI} {r : PT} (h : r ∈ outerP xs) : r ∈ allP xs := by
  obtain ⟨x, hx, hr⟩ := List.mem_flatMap.1 h
  refine mem_allP.2 ⟨x, hx, ?_⟩
  cases x with
  | blk i => cases hr
  | part P D W => rw [partsN_part]; rw [List.mem_singleton.1 hr]; exact List.mem_cons_self
end Go.Proofs.YtdpjdhllaokbfaaGreat
