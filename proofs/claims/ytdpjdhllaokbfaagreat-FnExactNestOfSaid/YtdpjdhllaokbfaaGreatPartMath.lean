/-
  Parts: blocks that come to each other; a search that finds them (Tarjan's): plain facts.
-/
import Derived.Test.YtdpjdhllaokbfaaGreatSpreadFrom
import Derived.Test.YtdpjdhllaokbfaaGreatSpecReached
namespace Go.Proofs.YtdpjdhllaokbfaaGreat

/-- Jumps within some blocks. -/
def nxS (g : List Bl) (S : List Nat) (i : Nat) : List Nat := (nxt g i).filter fun t => decide (t ∈ S)
theorem mem_nxS {g : List Bl} {S : List Nat} {i t : Nat} : t ∈ nxS g S i ↔ t ∈ nxt g i ∧ t ∈ S := by
  unfold nxS; rw [List.mem_filter]; simp

/-- No jumps, or some. -/
inductive To (f : Nat → List Nat) : Nat → Nat → Prop where
  | refl (x : Nat) : To f x x
  | step {x y z : Nat} (h : To f x y) (k : z ∈ f y) : To f x z
theorem To.trans {f : Nat → List Nat} {x y z : Nat} (h : To f x y) (k : To f y z) : To f x z := by
  induction k with
  | refl => exact h
  | step _ k ih => exact .step ih k
/-- One jump, or more. -/
def To1 (f : Nat → List Nat) (x y : Nat) : Prop := ∃ k ∈ f x, To f k y
theorem To1.to {f : Nat → List Nat} {x y : Nat} (h : To1 f x y) : To f x y := by
  obtain ⟨k, hk, h⟩ := h
  exact (To.step (.refl x) hk).trans h
theorem To1.trans_to {f : Nat → List Nat} {x y z : Nat} (h : To1 f x y) (k : To f y z) : To1 f x z := by
  obtain ⟨m, hm, h⟩ := h
  exact ⟨m, hm, h.trans k⟩
theorem To.to1 {f : Nat → List Nat} {x y : Nat} (h : To f x y) (hne : x ≠ y) : To1 f x y := by
  induction h with
  | refl => exact absurd rfl hne
  | @step y z h k ih =>
    by_cases e : x = y
    · subst e; exact ⟨z, k, .refl _⟩
    · exact (ih e).trans_to (.step (.refl _) k)
theorem To.trans_to1 {f : Nat → List Nat} {x y z : Nat} (h : To f x y) (k : To1 f y z) : To1 f x z := by
  by_cases e : x = y
  · subst e; exact k
  · exact (h.to1 e).trans_to k.to
/-- What is closed under jumps keeps what is come to. -/
theorem To.closed {f : Nat → List Nat} {C : Nat → Prop} (hC : ∀ x, C x → ∀ y ∈ f x, C y) {x y : Nat} (h : To f x y) (hx : C x) : C y := by
  induction h with
  | refl => exact hx
  | step _ k ih => exact hC _ ih _ k

/-- What is come to from a block by jumps within some. -/
def behL (g : List Bl) (S : List Nat) (i : Nat) : List Nat := spread (nxS g S) (nxS g S i) g.length
theorem mem_behL {g : List Bl} {S : List Nat} (hS : ∀ x ∈ S, x < g.length) {i x : Nat} : x ∈ behL g S i ↔ To1 (nxS g S) i x := by
  unfold behL
  rw [mem_spread (fun t ht => hS t (mem_nxS.1 ht).2) (fun _ _ t ht => hS t (mem_nxS.1 ht).2)]
  constructor
  · intro h
    induction h with
    | start h => exact ⟨_, h, .refl _⟩
    | step _ hn ih => exact ih.trans_to (.step (.refl _) hn)
  · rintro ⟨k, hk, h⟩
    induction h with
    | refl => exact .start hk
    | step _ hn ih => exact .step ih hn
/-- The part of a block among some; none if it comes to itself by no jump. -/
def partL (g : List Bl) (S : List Nat) (i : Nat) : List Nat := (List.range g.length).filter fun j => decide (j ∈ behL g S i) && decide (i ∈ behL g S j)
theorem mem_partL {g : List Bl} {S : List Nat} (hS : ∀ x ∈ S, x < g.length) {i j : Nat} : j ∈ partL g S i ↔ To1 (nxS g S) i j ∧ To1 (nxS g S) j i := by
  unfold partL
  rw [List.mem_filter, List.mem_range, Bool.and_eq_true, decide_eq_true_eq, decide_eq_true_eq, mem_behL hS, mem_behL hS]
  refine ⟨fun h => h.2, fun h => ⟨?_, h⟩⟩
  have := (mem_behL hS).2 h.1
  exact spread_lt (fun t ht => hS t (mem_nxS.1 ht).2) (fun _ _ t ht => hS t (mem_nxS.1 ht).2) _ this
theorem To1.mem {g : List Bl} {S : List Nat} {i j : Nat} (h : To1 (nxS g S) i j) : j ∈ S := by
  obtain ⟨k, hk, h⟩ := h
  exact h.closed (C := fun x => x ∈ S) (fun _ _ y hy => (mem_nxS.1 hy).2) (mem_nxS.1 hk).2
theorem partL_sub {g : List Bl} {S : List Nat} (hS : ∀ x ∈ S, x < g.length) {i j : Nat} (h : j ∈ partL g S i) : j ∈ S := ((mem_partL hS).1 h).1.mem
theorem partL_self {g : List Bl} {S : List Nat} (hS : ∀ x ∈ S, x < g.length) {i j : Nat} (h : j ∈ partL g S i) : i ∈ partL g S i := by
  obtain ⟨h1, h2⟩ := (mem_partL hS).1 h
  exact (mem_partL hS).2 ⟨h1.trans_to h2.to, h1.trans_to h2.to⟩
theorem partL_same {g : List Bl} {S : List Nat} (hS : ∀ x ∈ S, x < g.length) {i j : Nat} (h : j ∈ partL g S i) : partL g S j = partL g S i := by
  obtain ⟨h1, h2⟩ := (mem_partL hS).1 h
  unfold partL
  refine List.filter_congr fun x _ => ?_
  rw [Bool.eq_iff_iff, Bool.and_eq_true, Bool.and_eq_true, decide_eq_true_eq, decide_eq_true_eq, decide_eq_true_eq, decide_eq_true_eq, mem_behL hS, mem_behL hS, mem_behL hS, mem_behL hS]
  exact ⟨fun h => ⟨h1.to.trans_to1 h.1, h.2.trans_to h2.to⟩, fun h => ⟨h2.to.trans_to1 h.1, h.2.trans_to h1.to⟩⟩
theorem partL_up (g : List Bl) (S : List Nat) (i : Nat) : (partL g S i).Pairwise (· < ·) := List.Pairwise.filter _ List.pairwise_lt_range
theorem partL_nil {g : List Bl} {S : List Nat} (hS : ∀ x ∈ S, x < g.length) {i : Nat} : partL g S i = [] ↔ ¬ To1 (nxS g S) i i := by
  constructor
  · intro h hc
    have := (mem_partL hS).2 ⟨hc, hc⟩
    rw [h] at this; cases this
  · intro h
    cases hp : partL g S i with
    | nil => rfl
    | cons x xs =>
      have hx : x ∈ partL g S i := by rw [hp]; exact List.mem_cons_self
      exact absurd ((mem_partL hS).1 (partL_self hS hx)).1 h

/-! ### the search -/

/-- What has been seen of some blocks: how many, which one each was (0 unseen, 27 taken), the stack, the parts. -/
structure TS where
  cnt : Nat
  num : Nat → Nat
  stk : List Nat
  parts : List (List Nat)
def TS.push (σ : TS) (n : Nat) : TS := ⟨σ.cnt + 1, fun k => if k = n then σ.cnt + 1 else σ.num k, σ.stk ++ [n], σ.parts⟩
def TS.take (g : List Bl) (σ : TS) (n k : Nat) : TS :=
  ⟨σ.cnt, fun x => if x ∈ σ.stk.drop k then 27 else σ.num x, σ.stk.take k,
    if 1 < (srt g (σ.stk.drop k) g.length).length ∨ n ∈ nxt g n then σ.parts ++ [srt g (σ.stk.drop k) g.length] else σ.parts⟩
def tstep (S : List Nat) (rec : Nat → TS → Nat × TS) (a : Nat × TS) (t : Nat) : Nat × TS :=
  if t ∈ S then (if a.2.num t = 0 then (min a.1 (rec t a.2).1, (rec t a.2).2) else (min a.1 (a.2.num t), a.2)) else a
def tvisit (g : List Bl) (S : List Nat) : Nat → Nat → TS → Nat × TS
  | 0, _, σ => (0, σ)
  | m + 1, n, σ =>
    let r := (nxt g n).foldl (tstep S (tvisit g S m)) (σ.cnt + 1, σ.push n)
    if r.1 = σ.cnt + 1 then (r.1, r.2.take g n σ.stk.length) else r

/-- How many of some blocks have been seen. -/
def seenN (S : List Nat) (num : Nat → Nat) : Nat := S.countP fun x => decide (num x ≠ 0)
theorem seenN_le (S : List Nat) (num : Nat → Nat) : seenN S num ≤ S.length := List.countP_le_length
theorem seenN_congr {S : List Nat} {a b : Nat → Nat} (h : ∀ x ∈ S, (a x ≠ 0 ↔ b x ≠ 0)) : seenN S a = seenN S b := by
  unfold seenN
  exact List.countP_congr fun x hx => by simpa using h x hx
theorem seenN_push {S : List Nat} (hn : S.Nodup) {num : Nat → Nat} {n c : Nat} (hs : n ∈ S) (h0 : num n = 0) (hc : c ≠ 0) : seenN S (fun k => if k = n then c else num k) = seenN S num + 1 := by
  induction S with
  | nil => cases hs
  | cons x S ih =>
    rw [List.nodup_cons] at hn
    unfold seenN at ih ⊢
    rw [List.countP_cons, List.countP_cons]
    by_cases e : x = n
    · subst e
      have e1 : S.countP (fun k => decide ((if k = x then c else num k) ≠ 0)) = S.countP (fun k => decide (num k ≠ 0)) := by
        refine List.countP_congr fun k hk => ?_
        rw [if_neg (fun (e : k = x) => hn.1 (e ▸ hk))]
      rw [e1]
      simp [hc, h0]
    · rcases List.mem_cons.1 hs with h | h
      · exact absurd h.symm e
      · rw [ih hn.2 h]; simp only [if_neg e]; omega
theorem seenN_lt {S : List Nat} {num : Nat → Nat} {n : Nat} (hs : n ∈ S) (h0 : num n = 0) : seenN S num < S.length := by
  unfold seenN
  rcases Nat.lt_or_ge (S.countP fun x => decide (num x ≠ 0)) S.length with h | h
  · exact h
  · have := List.countP_eq_length.1 (Nat.le_antisymm List.countP_le_length h) n hs
    simp [h0] at this

/-- What holds while blocks γ are gone through. -/
structure TInv (g : List Bl) (S γ : List Nat) (σ : TS) : Prop where
  nodup : σ.stk.Nodup
  sub : ∀ x ∈ σ.stk, x ∈ S
  cnt : σ.cnt = seenN S σ.num
  rng : ∀ x ∈ σ.stk, 1 ≤ σ.num x ∧ σ.num x ≤ σ.cnt
  mono : σ.stk.Pairwise fun a b => σ.num a < σ.num b
  seen : ∀ x, σ.num x ≠ 0 → x ∈ σ.stk ∨ σ.num x = 27
  inS : ∀ x, σ.num x ≠ 0 → x ∈ S
  closed : ∀ x, σ.num x = 27 → ∀ y ∈ nxS g S x, σ.num y = 27
  black : ∀ x ∈ σ.stk, x ∉ γ → ∀ y ∈ nxS g S x, σ.num y ≠ 0
  gray : ∀ x ∈ γ, x ∈ σ.stk
  low : ∀ x ∈ σ.stk, ∃ a ∈ γ, σ.num a ≤ σ.num x ∧ To (nxS g S) x a
  up : ∀ a ∈ γ, ∀ x ∈ σ.stk, σ.num a ≤ σ.num x → To (nxS g S) a x
  good : ∀ P ∈ σ.parts, ∃ i ∈ P, P = partL g S i
  found : ∀ x, σ.num x = 27 → To1 (nxS g S) x x → ∃ P ∈ σ.parts, x ∈ P

section
variable {g : List Bl} {S γ : List Nat} {σ : TS}
theorem TInv.small (h : TInv g S γ σ) (h26 : S.length ≤ 26) : σ.cnt ≤ 26 := by have := seenN_le S σ.num; rw [h.cnt]; omega
theorem TInv.untaken (h : TInv g S γ σ) (h26 : S.length ≤ 26) {x : Nat} (hx : x ∈ σ.stk) : σ.num x ≠ 27 := by have := h.small h26; have := h.rng x hx; omega
theorem TInv.num_inj (h : TInv g S γ σ) {x y : Nat} (hx : x ∈ σ.stk) (hy : y ∈ σ.stk) (e : σ.num x = σ.num y) : x = y := by
  obtain ⟨i, hi, rfl⟩ := List.getElem_of_mem hx
  obtain ⟨j, hj, rfl⟩ := List.getElem_of_mem hy
  rcases Nat.lt_trichotomy i j with hij | hij | hij
  · have := List.pairwise_iff_getElem.1 h.mono i j hi hj hij; omega
  · subst hij; rfl
  · have := List.pairwise_iff_getElem.1 h.mono j i hj hi hij; omega

theorem TInv.push (h : TInv g S γ σ) (hSn : S.Nodup) (h26 : S.length ≤ 26) {n : Nat} (hn : n ∈ S) (h0 : σ.num n = 0) (hto : ∀ a ∈ γ, To (nxS g S) a n) : TInv g S (γ ++ [n]) (σ.push n) := by
  have hns : n ∉ σ.stk := fun hm => by have := h.rng n hm; omega
  have hnum : ∀ x, x ≠ n → (σ.push n).num x = σ.num x := fun x hx => if_neg hx
  have hnn : (σ.push n).num n = σ.cnt + 1 := if_pos rfl
  have hne : ∀ x ∈ σ.stk, x ≠ n := fun x hx e => hns (e ▸ hx)
  have hlt : σ.cnt < S.length := by rw [h.cnt]; exact seenN_lt hn h0
  have hmem : ∀ x, x ∈ (σ.push n).stk ↔ x ∈ σ.stk ∨ x = n := fun x => by show x ∈ σ.stk ++ [n] ↔ _; rw [List.mem_append, List.mem_singleton]
  have hstk : ∀ x ∈ σ.stk, (σ.push n).num x = σ.num x := fun x hx => hnum x (hne x hx)
  refine ⟨?_, ?_, ?_, ?_, ?_, ?_, ?_, ?_, ?_, ?_, ?_, ?_, h.good, ?_⟩
  · show (σ.stk ++ [n]).Nodup
    rw [List.nodup_append]
    exact ⟨h.nodup, by simp, fun a ha b hb => by rw [List.mem_singleton.1 hb]; exact hne a ha⟩
  · intro x hx
    rcases (hmem x).1 hx with hx | rfl
    · exact h.sub x hx
    · exact hn
  · show σ.cnt + 1 = seenN S (fun k => if k = n then σ.cnt + 1 else σ.num k)
    rw [seenN_push hSn hn h0 (by omega), h.cnt]
  · intro x hx
    rcases (hmem x).1 hx with hx | rfl
    · rw [hstk x hx]; have := h.rng x hx; exact ⟨this.1, Nat.le_succ_of_le this.2⟩
    · rw [hnn]; exact ⟨by omega, Nat.le_refl _⟩
  · show (σ.stk ++ [n]).Pairwise _
    rw [List.pairwise_append]
    refine ⟨h.mono.imp_of_mem fun {a b} ha hb hab => ?_, by simp, fun a ha b hb => ?_⟩
    · rw [hstk a ha, hstk b hb]; exact hab
    · rw [List.mem_singleton.1 hb, hstk a ha, hnn]; have := h.rng a ha; omega
  · intro x hx
    by_cases e : x = n
    · exact .inl ((hmem x).2 (.inr e))
    · rw [hnum x e] at hx ⊢
      rcases h.seen x hx with h' | h'
      · exact .inl ((hmem x).2 (.inl h'))
      · exact .inr h'
  · intro x hx
    by_cases e : x = n
    · rw [e]; exact hn
    · rw [hnum x e] at hx; exact h.inS x hx
  · intro x hx y hy
    have e : x ≠ n := fun e => by rw [e, hnn] at hx; omega
    rw [hnum x e] at hx
    have hy2 := h.closed x hx y hy
    rw [hnum y (fun e => by rw [e, h0] at hy2; omega)]; exact hy2
  · intro x hx hg y hy
    rcases (hmem x).1 hx with hx | rfl
    · have := h.black x hx (fun e => hg (List.mem_append_left _ e)) y hy
      by_cases e : y = n
      · rw [e, hnn]; omega
      · rw [hnum y e]; exact this
    · exact absurd (List.mem_append_right _ (List.mem_singleton.2 rfl)) hg
  · intro x hx
    rcases List.mem_append.1 hx with hx | hx
    · exact (hmem x).2 (.inl (h.gray x hx))
    · exact (hmem x).2 (.inr (List.mem_singleton.1 hx))
  · intro x hx
    rcases (hmem x).1 hx with hx | rfl
    · obtain ⟨a, ha, h1, h2⟩ := h.low x hx
      exact ⟨a, List.mem_append_left _ ha, by rw [hstk x hx, hstk a (h.gray a ha)]; exact h1, h2⟩
    · exact ⟨x, List.mem_append_right _ (List.mem_singleton.2 rfl), Nat.le_refl _, .refl _⟩
  · intro a ha x hx hle
    rcases (hmem x).1 hx with hx | rfl
    · rcases List.mem_append.1 ha with ha | ha
      · exact h.up a ha x hx (by rw [← hstk x hx, ← hstk a (h.gray a ha)]; exact hle)
      · rw [List.mem_singleton.1 ha, hnn, hstk x hx] at hle
        have := h.rng x hx; omega
    · rcases List.mem_append.1 ha with ha | ha
      · exact hto a ha
      · rw [List.mem_singleton.1 ha]; exact .refl _
  · intro x hx
    have e : x ≠ n := fun e => by rw [e, hnn] at hx; omega
    rw [hnum x e] at hx; exact h.found x hx

/-- What a visit of a block leaves, and the least number that is told. -/
structure TPost (g : List Bl) (S γ : List Nat) (σ : TS) (n l : Nat) (σ' : TS) : Prop where
  inv : TInv g S γ σ'
  pre : σ.stk <+: σ'.stk
  keep : ∀ x, σ.num x ≠ 0 → σ'.num x = σ.num x
  vis : σ'.num n ≠ 0
  more : σ.cnt < σ'.cnt
  le : l ≤ σ.cnt + 1
  bound : ∀ x ∈ σ'.stk, x ∉ σ.stk → ∀ y ∈ nxS g S x, y ∈ σ'.stk → l ≤ σ'.num y
  self : n ∈ σ'.stk → l ≤ σ'.num n
  at_ : (n ∉ σ'.stk ∧ l = σ.cnt + 1) ∨ (∃ y ∈ σ'.stk, To (nxS g S) n y ∧ σ'.num y = l)

/-- While the jumps of a block are gone through. -/
structure TLoop (g : List Bl) (S γ : List Nat) (σ : TS) (n : Nat) (ts : List Nat) (l : Nat) (σ' : TS) : Prop where
  inv : TInv g S (γ ++ [n]) σ'
  old : ∀ a ∈ γ, a ∈ σ.stk
  pre : (σ.stk ++ [n]) <+: σ'.stk
  keep : ∀ x, σ.num x ≠ 0 → σ'.num x = σ.num x
  numn : σ'.num n = σ.cnt + 1
  more : σ.cnt < σ'.cnt
  le : l ≤ σ.cnt + 1
  bound : ∀ x ∈ σ'.stk, x ∉ σ.stk → x ≠ n → ∀ y ∈ nxS g S x, y ∈ σ'.stk → l ≤ σ'.num y
  done : ∀ y ∈ ts, y ∈ S → σ'.num y ≠ 0 ∧ (y ∈ σ'.stk → l ≤ σ'.num y)
  at_ : ∃ y ∈ σ'.stk, To (nxS g S) n y ∧ σ'.num y = l

theorem TLoop.start (h : TInv g S γ σ) (hSn : S.Nodup) (h26 : S.length ≤ 26) {n : Nat} (hn : n ∈ S) (h0 : σ.num n = 0) (hto : ∀ a ∈ γ, To (nxS g S) a n) : TLoop g S γ σ n [] (σ.cnt + 1) (σ.push n) := by
  refine ⟨h.push hSn h26 hn h0 hto, h.gray, List.prefix_refl _, fun x hx => if_neg fun (e : x = n) => hx (e ▸ h0), if_pos rfl, Nat.lt_succ_self _, Nat.le_refl _, fun x hx hxs hxn => ?_, (fun y hy => by cases hy), n, List.mem_append_right _ (List.mem_singleton.2 rfl), .refl _, if_pos rfl⟩
  rcases List.mem_append.1 hx with h | h
  · exact absurd h hxs
  · exact absurd (List.mem_singleton.1 h) hxn

theorem TLoop.skip {n l t : Nat} {ts : List Nat} {σ' : TS} (h : TLoop g S γ σ n ts l σ') (ht : t ∉ S) : TLoop g S γ σ n (ts ++ [t]) l σ' :=
  ⟨h.inv, h.old, h.pre, h.keep, h.numn, h.more, h.le, h.bound, fun y hy hs => by
    rcases List.mem_append.1 hy with hy | hy
    · exact h.done y hy hs
    · exact absurd (List.mem_singleton.1 hy ▸ hs) ht, h.at_⟩
theorem TLoop.known {n l t : Nat} {ts : List Nat} {σ' : TS} (h : TLoop g S γ σ n ts l σ') (h26 : S.length ≤ 26) (ht : t ∈ S) (hj : t ∈ nxt g n) (hv : σ'.num t ≠ 0) : TLoop g S γ σ n (ts ++ [t]) (min l (σ'.num t)) σ' := by
  refine ⟨h.inv, h.old, h.pre, h.keep, h.numn, h.more, Nat.le_trans (Nat.min_le_left _ _) h.le, fun x hx hxs hxn y hy hys => Nat.le_trans (Nat.min_le_left _ _) (h.bound x hx hxs hxn y hy hys), fun y hy hs => ?_, ?_⟩
  · rcases List.mem_append.1 hy with hy | hy
    · exact ⟨(h.done y hy hs).1, fun hys => Nat.le_trans (Nat.min_le_left _ _) ((h.done y hy hs).2 hys)⟩
    · rw [List.mem_singleton.1 hy]; exact ⟨hv, fun _ => Nat.min_le_right _ _⟩
  · obtain ⟨y, hy, hty, hyl⟩ := h.at_
    rcases Nat.le_total l (σ'.num t) with hle | hle
    · exact ⟨y, hy, hty, by rw [Nat.min_eq_left hle]; exact hyl⟩
    · rcases h.inv.seen t hv with hts | hts
      · exact ⟨t, hts, .step (.refl _) (mem_nxS.2 ⟨hj, ht⟩), by rw [Nat.min_eq_right hle]⟩
      · have h1 := (h.inv.rng y hy).2
        have h2 := h.inv.small h26
        omega
theorem TLoop.went {n l t l2 : Nat} {ts : List Nat} {σ' σ2 : TS} (h : TLoop g S γ σ n ts l σ') (h26 : S.length ≤ 26) (hj : t ∈ nxS g S n) (k : TPost g S (γ ++ [n]) σ' t l2 σ2) : TLoop g S γ σ n (ts ++ [t]) (min l l2) σ2 := by
  have hns : n ∈ σ'.stk := h.pre.subset (List.mem_append_right _ (List.mem_singleton.2 rfl))
  have hold : ∀ x ∈ σ'.stk, σ2.num x = σ'.num x := fun x hx => k.keep x (by have := h.inv.rng x hx; omega)
  have hback : ∀ y, σ'.num y ≠ 0 → y ∈ σ2.stk → y ∈ σ'.stk ∧ σ2.num y = σ'.num y := fun y hy hys => by
    have e := k.keep y hy
    rcases h.inv.seen y hy with hh | hh
    · exact ⟨hh, e⟩
    · exact absurd (e.trans hh) (k.inv.untaken h26 hys)
  refine ⟨k.inv, h.old, h.pre.trans k.pre, fun x hx => (k.keep x (by rw [h.keep x hx]; exact hx)).trans (h.keep x hx), (hold n hns).trans h.numn, Nat.lt_trans h.more k.more, Nat.le_trans (Nat.min_le_left _ _) h.le, fun x hx hxs hxn y hy hys => ?_, fun y hy hs => ?_, ?_⟩
  · by_cases hxo : x ∈ σ'.stk
    · have hvy : σ'.num y ≠ 0 := h.inv.black x hxo (fun e => by
        rcases List.mem_append.1 e with e | e
        · exact hxs (h.old x e)
        · exact hxn (List.mem_singleton.1 e)) y hy
      obtain ⟨hys', e⟩ := hback y hvy hys
      rw [e]; exact Nat.le_trans (Nat.min_le_left _ _) (h.bound x hxo hxs hxn y hy hys')
    · exact Nat.le_trans (Nat.min_le_right _ _) (k.bound x hx hxo y hy hys)
  · rcases List.mem_append.1 hy with hy | hy
    · obtain ⟨h1, h2⟩ := h.done y hy hs
      refine ⟨by rw [k.keep y h1]; exact h1, fun hys => ?_⟩
      obtain ⟨hys', e⟩ := hback y h1 hys
      rw [e]; exact Nat.le_trans (Nat.min_le_left _ _) (h2 hys')
    · rw [List.mem_singleton.1 hy]
      exact ⟨k.vis, fun hts => Nat.le_trans (Nat.min_le_right _ _) (k.self hts)⟩
  · obtain ⟨y, hy, hty, hyl⟩ := h.at_
    have hy2 : y ∈ σ2.stk := k.pre.subset hy
    rcases Nat.le_total l l2 with hle | hle
    · exact ⟨y, hy2, hty, by rw [Nat.min_eq_left hle, hold y hy]; exact hyl⟩
    · rcases k.at_ with ⟨_, e⟩ | ⟨z, hz, htz, e⟩
      · have h1 := h.le
        have h2 := h.more
        omega
      · exact ⟨z, hz, (To.step (.refl _) hj).trans htz, by rw [Nat.min_eq_right hle]; exact e⟩

/-- All jumps are gone through, and one leads further back. -/
theorem TLoop.stay {n l : Nat} {σ' : TS} (h : TLoop g S γ σ n (nxt g n) l σ') (hl : l ≠ σ.cnt + 1) : TPost g S γ σ n l σ' := by
  have hns : n ∈ σ'.stk := h.pre.subset (List.mem_append_right _ (List.mem_singleton.2 rfl))
  have hle := h.le
  obtain ⟨y, hy, hty, hyl⟩ := h.at_
  refine ⟨⟨h.inv.nodup, h.inv.sub, h.inv.cnt, h.inv.rng, h.inv.mono, h.inv.seen, h.inv.inS, h.inv.closed, fun x hx hg z hz => ?_, fun x hx => h.inv.gray x (List.mem_append_left _ hx), fun x hx => ?_, fun a ha => h.inv.up a (List.mem_append_left _ ha), h.inv.good, h.inv.found⟩,
    (List.prefix_append _ _).trans h.pre, h.keep, by rw [h.numn]; omega, h.more, h.le, fun x hx hxs z hz hzs => ?_, fun _ => by rw [h.numn]; exact hle, .inr ⟨y, hy, hty, hyl⟩⟩
  · by_cases e : x = n
    · subst e; exact (h.done z (mem_nxS.1 hz).1 (mem_nxS.1 hz).2).1
    · exact h.inv.black x hx (fun hm => by
        rcases List.mem_append.1 hm with hm | hm
        · exact hg hm
        · exact e (List.mem_singleton.1 hm)) z hz
  · obtain ⟨a, ha, h1, h2⟩ := h.inv.low x hx
    rcases List.mem_append.1 ha with ha | ha
    · exact ⟨a, ha, h1, h2⟩
    · rw [List.mem_singleton.1 ha] at h1 h2
      obtain ⟨b, hb, h3, h4⟩ := h.inv.low y hy
      rcases List.mem_append.1 hb with hb | hb
      · refine ⟨b, hb, ?_, h2.trans (hty.trans h4)⟩
        have := h.numn
        omega
      · rw [List.mem_singleton.1 hb, h.numn] at h3
        omega
  · by_cases e : x = n
    · subst e; exact (h.done z (mem_nxS.1 hz).1 (mem_nxS.1 hz).2).2 hzs
    · exact h.bound x hx hxs e z hz hzs

theorem two_in {l : List Nat} (hn : l.Nodup) (h : 1 < l.length) (n : Nat) : ∃ x ∈ l, x ≠ n := by
  match l, hn, h with
  | a :: b :: l, hn, _ =>
    by_cases e : a = n
    · refine ⟨b, by simp, fun e2 => ?_⟩
      rw [List.nodup_cons] at hn
      exact hn.1 (by rw [e, ← e2]; simp)
    · exact ⟨a, by simp, e⟩
theorem one_in {l : List Nat} (h : ¬ 1 < l.length) {x n : Nat} (hx : x ∈ l) (hn : n ∈ l) : x = n := by
  match l, h with
  | [a], _ => rw [List.mem_singleton.1 hx, List.mem_singleton.1 hn]
  | a :: b :: l, h => simp at h
theorem mem_srt {g : List Bl} {L : List Nat} {k x : Nat} : x ∈ srt g L k ↔ x < k ∧ x ∈ L := by
  unfold srt; rw [List.mem_filter, List.mem_range]; simp

/-- All jumps are gone through, and none leads further back: the block and all behind it are taken. -/
theorem TLoop.take {n : Nat} {σ' : TS} (hS : ∀ x ∈ S, x < g.length) (h26 : S.length ≤ 26) (h0 : TInv g S γ σ) (hn : n ∈ S) (h : TLoop g S γ σ n (nxt g n) (σ.cnt + 1) σ') : TPost g S γ σ n (σ.cnt + 1) (σ'.take g n σ.stk.length) := by
  obtain ⟨rest, hrest⟩ := h.pre
  have hstk : σ'.stk = σ.stk ++ (n :: rest) := by rw [← hrest, List.append_assoc]; rfl
  obtain ⟨Q, hQ⟩ : ∃ Q, Q = σ'.stk.drop σ.stk.length := ⟨_, rfl⟩
  have hQe : Q = n :: rest := by rw [hQ, hstk, List.drop_append_of_le_length (Nat.le_refl _), List.drop_length, List.nil_append]
  have hTk : σ'.stk.take σ.stk.length = σ.stk := by rw [hstk, List.take_append_of_le_length (Nat.le_refl _), List.take_length]
  have hnd := h.inv.nodup
  rw [hstk, ← hQe, List.nodup_append] at hnd
  obtain ⟨hn1, hn2, hn3⟩ := hnd
  have hmem : ∀ x, x ∈ σ'.stk ↔ x ∈ σ.stk ∨ x ∈ Q := fun x => by rw [hstk, ← hQe, List.mem_append]
  have hnQ : n ∈ Q := by rw [hQe]; exact List.mem_cons_self
  have hdis : ∀ x, x ∈ σ.stk → x ∉ Q := fun x hx hq => hn3 x hx x hq rfl
  have hmono := h.inv.mono
  rw [hstk, ← hQe, List.pairwise_append] at hmono
  have hcl := h.inv.small h26
  have hmore := h.more
  have hlow : ∀ x ∈ σ.stk, σ'.num x ≤ σ.cnt := fun x hx => by
    have := h0.rng x hx
    rw [h.keep x (by omega)]; omega
  have hhigh : ∀ x ∈ Q, σ.cnt + 1 ≤ σ'.num x := fun x hx => by
    rw [hQe] at hx
    rcases List.mem_cons.1 hx with rfl | hx
    · rw [h.numn]; exact Nat.le_refl _
    · have := hmono.2.1
      rw [hQe, List.pairwise_cons] at this
      have := this.1 x hx
      rw [h.numn] at this; omega
  have hQv : ∀ x ∈ Q, σ'.num x ≠ 0 ∧ σ'.num x ≠ 27 := fun x hx => by
    have := hhigh x hx
    have := (h.inv.rng x ((hmem x).2 (.inr hx))).2
    omega
  have hQg : ∀ x ∈ Q, x ≠ n → x ∉ γ ++ [n] := fun x hx hne hm => by
    rcases List.mem_append.1 hm with hm | hm
    · exact hdis x (h.old x hm) hx
    · exact hne (List.mem_singleton.1 hm)
  have hin : ∀ y, σ'.num y ≠ 0 → (y ∈ σ'.stk → σ.cnt + 1 ≤ σ'.num y) → y ∈ Q ∨ σ'.num y = 27 := fun y hv hb => by
    rcases h.inv.seen y hv with hy | hy
    · rcases (hmem y).1 hy with h' | h'
      · have := hlow y h'; have := hb hy; omega
      · exact .inl h'
    · exact .inr hy
  have hclo : ∀ x, (x ∈ Q ∨ σ'.num x = 27) → ∀ y ∈ nxS g S x, (y ∈ Q ∨ σ'.num y = 27) := fun x hx y hy => by
    rcases hx with hx | hx
    · by_cases e : x = n
      · subst e
        have hd := h.done y (mem_nxS.1 hy).1 (mem_nxS.1 hy).2
        exact hin y hd.1 hd.2
      · have hxs := (hmem x).2 (.inr hx)
        have hxo : x ∉ σ.stk := fun hm => hdis x hm hx
        exact hin y (h.inv.black x hxs (hQg x hx e) y hy) (h.bound x hxs hxo e y hy)
    · exact .inr (h.inv.closed x hx y hy)
  have htak : ∀ x, σ'.num x = 27 → ¬ To (nxS g S) x n := fun x hx ht => (hQv n hnQ).2 (ht.closed (C := fun x => σ'.num x = 27) h.inv.closed hx)
  have hto : ∀ x ∈ Q, To (nxS g S) x n := fun x hx => by
    obtain ⟨a, ha, _, h2⟩ := h.inv.low x ((hmem x).2 (.inr hx))
    rcases List.mem_append.1 ha with ha | ha
    · exfalso
      have hao := h.old a ha
      rcases h2.closed (C := fun x => x ∈ Q ∨ σ'.num x = 27) hclo (.inl hx) with h' | h'
      · exact hdis a hao h'
      · have := hlow a hao; omega
    · rw [← List.mem_singleton.1 ha]; exact h2
  have hfrom : ∀ x ∈ Q, To (nxS g S) n x := fun x hx => h.inv.up n (List.mem_append_right _ (List.mem_singleton.2 rfl)) x ((hmem x).2 (.inr hx)) (by rw [h.numn]; exact hhigh x hx)
  have hQS : ∀ x ∈ Q, x ∈ S := fun x hx => h.inv.sub x ((hmem x).2 (.inr hx))
  have hT : ∀ x, x ∈ srt g Q g.length ↔ x ∈ Q := fun x => by rw [mem_srt]; exact ⟨fun h => h.2, fun h => ⟨hS x (hQS x h), h⟩⟩
  have hTn : (srt g Q g.length).Nodup := List.Pairwise.filter _ List.nodup_range
  have hloop : (1 < (srt g Q g.length).length ∨ n ∈ nxt g n) ↔ To1 (nxS g S) n n := by
    constructor
    · rintro (hl | hl)
      · obtain ⟨x, hx, hne⟩ := two_in hTn hl n
        have hxq := (hT x).1 hx
        exact ((hfrom x hxq).to1 (fun e => hne e.symm)).trans_to (hto x hxq)
      · exact ⟨n, mem_nxS.2 ⟨hl, hn⟩, .refl _⟩
    · rintro ⟨k, hk, hkn⟩
      by_cases hl : 1 < (srt g Q g.length).length
      · exact .inl hl
      · right
        rcases hclo n (.inl hnQ) k hk with h' | h'
        · have := one_in hl ((hT k).2 h') ((hT n).2 hnQ)
          rw [this] at hk; exact (mem_nxS.1 hk).1
        · exact absurd hkn (htak k h')
  have hpart : To1 (nxS g S) n n → srt g Q g.length = partL g S n := fun h1 => by
    unfold srt partL
    refine List.filter_congr fun x hx => ?_
    rw [Bool.eq_iff_iff, Bool.and_eq_true, decide_eq_true_eq, decide_eq_true_eq, decide_eq_true_eq, mem_behL hS, mem_behL hS]
    refine ⟨fun hq => ⟨h1.trans_to (hfrom x hq), (hto x hq).trans_to1 h1⟩, fun ⟨ha, hb⟩ => ?_⟩
    rcases ha.to.closed (C := fun x => x ∈ Q ∨ σ'.num x = 27) hclo (.inl hnQ) with h' | h'
    · exact h'
    · exact absurd hb.to (htak x h')
  have hnum : ∀ x, x ∉ Q → (σ'.take g n σ.stk.length).num x = σ'.num x := fun x hx => if_neg (by rw [← hQ]; exact hx)
  have hnum2 : ∀ x, x ∈ Q → (σ'.take g n σ.stk.length).num x = 27 := fun x hx => if_pos (by rw [← hQ]; exact hx)
  have hnum3 : ∀ x, (σ'.take g n σ.stk.length).num x ≠ 0 ↔ σ'.num x ≠ 0 := fun x => by
    by_cases hq : x ∈ Q
    · rw [hnum2 x hq]; exact ⟨fun _ => (hQv x hq).1, fun _ => by omega⟩
    · rw [hnum x hq]
  have hnum4 : ∀ x, (σ'.take g n σ.stk.length).num x = 27 ↔ (x ∈ Q ∨ σ'.num x = 27) := fun x => by
    by_cases hq : x ∈ Q
    · rw [hnum2 x hq]; exact ⟨fun _ => .inl hq, fun _ => rfl⟩
    · rw [hnum x hq]; exact ⟨fun h => .inr h, fun h => h.resolve_left hq⟩
  have hst : (σ'.take g n σ.stk.length).stk = σ.stk := hTk
  have hpa : (σ'.take g n σ.stk.length).parts = if 1 < (srt g Q g.length).length ∨ n ∈ nxt g n then σ'.parts ++ [srt g Q g.length] else σ'.parts := by rw [hQ]; rfl
  have hso : ∀ x ∈ σ.stk, x ∈ σ'.stk := fun x hx => (hmem x).2 (.inl hx)
  have hns : n ∉ σ.stk := fun hm => hdis n hm hnQ
  refine ⟨⟨?_, ?_, ?_, ?_, ?_, ?_, ?_, ?_, ?_, ?_, ?_, ?_, ?_, ?_⟩, ?_, ?_, ?_, ?_, Nat.le_refl _, ?_, ?_, .inl ⟨?_, rfl⟩⟩
  · rw [hst]; exact hn1
  · rw [hst]; exact h0.sub
  · show σ'.cnt = _
    rw [h.inv.cnt]; exact (seenN_congr fun x _ => hnum3 x).symm
  · intro x hx
    rw [hst] at hx
    rw [hnum x (hdis x hx)]; exact h.inv.rng x (hso x hx)
  · rw [hst]
    exact hmono.1.imp_of_mem fun {a b} ha hb hab => by rw [hnum a (hdis a ha), hnum b (hdis b hb)]; exact hab
  · intro x hx
    rw [hnum3] at hx
    by_cases hq : x ∈ Q
    · exact .inr (hnum2 x hq)
    · rw [hnum x hq, hst]
      rcases h.inv.seen x hx with h' | h'
      · rcases (hmem x).1 h' with h' | h'
        · exact .inl h'
        · exact absurd h' hq
      · exact .inr h'
  · intro x hx
    rw [hnum3] at hx
    exact h.inv.inS x hx
  · intro x hx y hy
    rw [hnum4] at hx ⊢
    exact hclo x hx y hy
  · intro x hx hg y hy
    rw [hst] at hx
    rw [hnum3]
    exact h.inv.black x (hso x hx) (fun hm => by
      rcases List.mem_append.1 hm with hm | hm
      · exact hg hm
      · exact hns (List.mem_singleton.1 hm ▸ hx)) y hy
  · intro x hx
    rw [hst]; exact h.old x hx
  · intro x hx
    rw [hst] at hx
    obtain ⟨a, ha, h1, h2⟩ := h.inv.low x (hso x hx)
    rcases List.mem_append.1 ha with ha | ha
    · exact ⟨a, ha, by rw [hnum a (hdis a (h.old a ha)), hnum x (hdis x hx)]; exact h1, h2⟩
    · rw [List.mem_singleton.1 ha, h.numn] at h1
      have := hlow x hx; omega
  · intro a ha x hx hle
    rw [hst] at hx
    rw [hnum a (hdis a (h.old a ha)), hnum x (hdis x hx)] at hle
    exact h.inv.up a (List.mem_append_left _ ha) x (hso x hx) hle
  · intro P hP
    rw [hpa] at hP
    by_cases hc : 1 < (srt g Q g.length).length ∨ n ∈ nxt g n
    · rw [if_pos hc] at hP
      rcases List.mem_append.1 hP with hP | hP
      · exact h.inv.good P hP
      · rw [List.mem_singleton.1 hP]
        exact ⟨n, (hT n).2 hnQ, hpart (hloop.1 hc)⟩
    · rw [if_neg hc] at hP; exact h.inv.good P hP
  · intro x hx h1
    rw [hnum4] at hx
    rw [hpa]
    by_cases hc : 1 < (srt g Q g.length).length ∨ n ∈ nxt g n
    · rw [if_pos hc]
      rcases hx with hx | hx
      · exact ⟨_, List.mem_append_right _ (List.mem_singleton.2 rfl), (hT x).2 hx⟩
      · obtain ⟨P, hP, hxP⟩ := h.inv.found x hx h1
        exact ⟨P, List.mem_append_left _ hP, hxP⟩
    · rw [if_neg hc]
      rcases hx with hx | hx
      · have e : x = n := one_in (fun hl => hc (.inl hl)) ((hT x).2 hx) ((hT n).2 hnQ)
        exact absurd (hloop.2 (e ▸ h1)) hc
      · exact h.inv.found x hx h1
  · rw [hst]; exact List.prefix_refl _
  · intro x hx
    have e := h.keep x hx
    rw [hnum x (fun hq => ?_)]
    · exact e
    · rcases h0.seen x hx with h' | h'
      · exact hdis x h' hq
      · exact (hQv x hq).2 (e.trans h')
  · rw [hnum2 n hnQ]; omega
  · exact hmore
  · intro x hx hxs
    rw [hst] at hx; exact absurd hx hxs
  · intro hx
    rw [hst] at hx; exact absurd hx hns
  · rw [hst]; exact hns

theorem tvisit_post (hS : ∀ x ∈ S, x < g.length) (hSn : S.Nodup) (h26 : S.length ≤ 26) : ∀ (m n : Nat) (γ : List Nat) (σ : TS), TInv g S γ σ → n ∈ S → σ.num n = 0 → (∀ a ∈ γ, To (nxS g S) a n) → S.length ≤ m + σ.cnt → TPost g S γ σ n (tvisit g S m n σ).1 (tvisit g S m n σ).2
  | 0, n, γ, σ, h, hn, h0, _, hm => by
    have := seenN_lt (num := σ.num) hn h0
    rw [← h.cnt] at this; omega
  | m + 1, n, γ, σ, h, hn, h0, hto, hm => by
    have key : ∀ (ts : List Nat) (dn : List Nat) (l : Nat) (σ' : TS), (∀ t ∈ ts, t ∈ nxt g n) → TLoop g S γ σ n dn l σ' → TLoop g S γ σ n (dn ++ ts) (ts.foldl (tstep S (tvisit g S m)) (l, σ')).1 (ts.foldl (tstep S (tvisit g S m)) (l, σ')).2 := by
      intro ts
      induction ts with
      | nil => intro dn l σ' _ hl; rw [List.append_nil]; exact hl
      | cons t ts ih =>
        intro dn l σ' ht hl
        have e : dn ++ t :: ts = (dn ++ [t]) ++ ts := by simp
        have ht1 := ht t List.mem_cons_self
        rw [e, List.foldl_cons]
        have hst : TLoop g S γ σ n (dn ++ [t]) (tstep S (tvisit g S m) (l, σ') t).1 (tstep S (tvisit g S m) (l, σ') t).2 := by
         unfold tstep
         by_cases hts : t ∈ S
         · rw [if_pos hts]
           by_cases hv : σ'.num t = 0
           · rw [if_pos hv]
             have hj : t ∈ nxS g S n := mem_nxS.2 ⟨ht1, hts⟩
             refine hl.went h26 hj (tvisit_post hS hSn h26 m t (γ ++ [n]) σ' hl.inv hts hv (fun a ha => ?_) (by have := hl.more; omega))
             rcases List.mem_append.1 ha with ha | ha
             · exact .step (hto a ha) hj
             · rw [List.mem_singleton.1 ha]; exact .step (.refl _) hj
           · rw [if_neg hv]
             exact hl.known h26 hts ht1 hv
         · rw [if_neg hts]; exact hl.skip hts
        exact ih (dn ++ [t]) _ _ (fun x hx => ht x (List.mem_cons_of_mem _ hx)) hst
    have hl := key (nxt g n) [] (σ.cnt + 1) (σ.push n) (fun _ h => h) (TLoop.start h hSn h26 hn h0 hto)
    rw [List.nil_append] at hl
    rw [tvisit]
    by_cases hc : ((nxt g n).foldl (tstep S (tvisit g S m)) (σ.cnt + 1, σ.push n)).1 = σ.cnt + 1
    · simp only [if_pos hc]
      rw [hc] at hl ⊢
      exact hl.take hS h26 h hn
    · simp only [if_neg hc]
      exact hl.stay hc
end

def TS.zero : TS := ⟨0, fun _ => 0, [], []⟩
theorem TInv.zero (g : List Bl) (S : List Nat) : TInv g S [] TS.zero :=
  ⟨List.nodup_nil, (by intro x hx; cases hx), (by show 0 = seenN S (fun _ => 0); unfold seenN; simp), (by intro x hx; cases hx), List.Pairwise.nil, (fun x hx => absurd rfl hx), (fun x hx => absurd rfl hx), (fun x hx => by cases hx), (by intro x hx; cases hx), (by intro x hx; cases hx), (by intro x hx; cases hx), (by intro x hx; cases hx), (by intro x hx; cases hx), (fun x hx => by cases hx)⟩
theorem TInv.alone {g : List Bl} {S : List Nat} {σ : TS} (h : TInv g S [] σ) : σ.stk = [] := by
  cases hs : σ.stk with
  | nil => rfl
  | cons x xs =>
    obtain ⟨a, ha, _⟩ := h.low x (by rw [hs]; exact List.mem_cons_self)
    cases ha
/-- All of some blocks are gone through. -/
def tall (g : List Bl) (S : List Nat) (ns : List Nat) : TS := ns.foldl (fun σ n => if σ.num n = 0 then (tvisit g S S.length n σ).2 else σ) TS.zero
theorem tall_snoc (g : List Bl) (S ns : List Nat) (n : Nat) : tall g S (ns ++ [n]) = if (tall g S ns).num n = 0 then (tvisit g S S.length n (tall g S ns)).2 else tall g S ns := by
  unfold tall; rw [List.foldl_append]; rfl
theorem tall_inv {g : List Bl} {S : List Nat} (hS : ∀ x ∈ S, x < g.length) (hSn : S.Nodup) (h26 : S.length ≤ 26) : ∀ ns, (∀ x ∈ ns, x ∈ S) → TInv g S [] (tall g S ns) ∧ ∀ x ∈ ns, (tall g S ns).num x ≠ 0 := by
  have key : ∀ r : List Nat, (∀ x ∈ r, x ∈ S) → TInv g S [] (tall g S r.reverse) ∧ ∀ x ∈ r, (tall g S r.reverse).num x ≠ 0 := by
    intro r
    induction r with
    | nil => exact fun _ => ⟨TInv.zero g S, fun x hx => by cases hx⟩
    | cons n r ih =>
      intro hr
      obtain ⟨h1, h2⟩ := ih fun x hx => hr x (List.mem_cons_of_mem _ hx)
      rw [List.reverse_cons, tall_snoc]
      by_cases h0 : (tall g S r.reverse).num n = 0
      · rw [if_pos h0]
        have hp := tvisit_post hS hSn h26 S.length n [] _ h1 (hr n List.mem_cons_self) h0 (fun a ha => by cases ha) (by omega)
        refine ⟨hp.inv, fun x hx => ?_⟩
        rcases List.mem_cons.1 hx with rfl | hx
        · exact hp.vis
        · rw [hp.keep x (h2 x hx)]; exact h2 x hx
      · rw [if_neg h0]
        refine ⟨h1, fun x hx => ?_⟩
        rcases List.mem_cons.1 hx with rfl | hx
        · exact h0
        · exact h2 x hx
  intro ns h
  have := key ns.reverse fun x hx => h x (List.mem_reverse.1 hx)
  rw [List.reverse_reverse] at this
  exact ⟨this.1, fun x hx => this.2 x (List.mem_reverse.2 hx)⟩
/-- The parts that are found. -/
def tparts (g : List Bl) (S : List Nat) : List (List Nat) := (tall g S S).parts
theorem tparts_good {g : List Bl} {S : List Nat} (hS : ∀ x ∈ S, x < g.length) (hSn : S.Nodup) (h26 : S.length ≤ 26) {P : List Nat} (hP : P ∈ tparts g S) : ∃ i ∈ P, P = partL g S i := (tall_inv hS hSn h26 S fun _ h => h).1.good P hP
theorem tparts_found {g : List Bl} {S : List Nat} (hS : ∀ x ∈ S, x < g.length) (hSn : S.Nodup) (h26 : S.length ≤ 26) {i : Nat} (hi : i ∈ S) : (tparts g S).find? (fun P => decide (i ∈ P)) = if partL g S i = [] then none else some (partL g S i) := by
  obtain ⟨h1, h2⟩ := tall_inv hS hSn h26 S fun _ h => h
  have hin : ∀ P ∈ tparts g S, i ∈ P → P = partL g S i := fun P hP hiP => by
    obtain ⟨k, _, e⟩ := tparts_good hS hSn h26 hP
    rw [e] at hiP ⊢
    exact (partL_same hS hiP).symm
  by_cases hp : partL g S i = []
  · rw [if_pos hp, List.find?_eq_none]
    intro P hP hiP
    have hiP' : i ∈ P := by simpa using hiP
    have := hin P hP hiP'
    rw [this, hp] at hiP'; cases hiP'
  · rw [if_neg hp]
    have hloop : To1 (nxS g S) i i := by
      rcases Classical.em (To1 (nxS g S) i i) with h | h
      · exact h
      · exact absurd ((partL_nil hS).2 h) hp
    have htk : (tall g S S).num i = 27 := by
      rcases h1.seen i (h2 i hi) with h | h
      · rw [h1.alone] at h; cases h
      · exact h
    obtain ⟨P, hP, hiP⟩ := h1.found i htk hloop
    cases hf : (tparts g S).find? (fun P => decide (i ∈ P)) with
    | none => exact absurd (by simpa using hiP) (List.find?_eq_none.1 hf P hP)
    | some Q =>
      have h3 := List.find?_some hf
      have h4 := List.mem_of_find?_eq_some hf
      rw [hin Q h4 (by simpa using h3)]
end Go.Proofs.YtdpjdhllaokbfaaGreat
