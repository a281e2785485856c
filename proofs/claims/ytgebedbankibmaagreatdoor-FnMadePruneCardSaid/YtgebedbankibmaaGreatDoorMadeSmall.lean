import Derived.Test.YtgebedbankibmaaGreatDoorExtra
import Derived.Test.YtgebedbankibmaaGreatDoorMakeFace
import Derived.Test.YtgebedbankibmaaGreatDoorPrunePlaces
/-
  What is kept of the blocks of a text that is made: of each that is reached once, its text and the frames around it; the model keeps the same. Plain facts.
-/
namespace Go.Proofs.YtgebedbankibmaaGreatDoor
open Go.RowKit Go.Sort

theorem nodup_flat {α β : Type} {f : α → List β} : ∀ l : List α, (∀ a ∈ l, (f a).Nodup) → l.Pairwise (fun a b => ∀ x ∈ f a, x ∉ f b) → (l.flatMap f).Nodup
  | [], _, _ => by simp
  | a :: l, h, hp => by
    rw [List.pairwise_cons] at hp
    rw [List.flatMap_cons, List.nodup_append]
    refine ⟨h a (List.mem_cons_self ..), nodup_flat l (fun b hb => h b (List.mem_cons_of_mem _ hb)) hp.2, fun x hx y hy e => ?_⟩
    subst e
    obtain ⟨b, hb, hy⟩ := List.mem_flatMap.1 hy
    exact hp.1 b hb x hx hy
/-- The blocks that are visited. -/
def keysW (g : List Bl) : Nat → Nat → List Nat
  | 0, _ => []
  | m + 1, n => (visK g n).flatMap (keysW g m) ++ [n]
theorem keys_dom {g : List Bl} (hv : validB g = true) (hT : Tame g) : ∀ (m n : Nat), Rch g [] n → ∀ x ∈ keysW g m n, Rch g [] x ∧ Dm g n x
  | 0, _, _ => fun _ h => by cases h
  | m + 1, n, hn => fun x hx => by
    rw [keysW, List.mem_append, List.mem_flatMap, List.mem_singleton] at hx
    rcases hx with ⟨c, hc, hx⟩ | rfl
    · obtain ⟨hcr, hcp⟩ := (mem_kids hv).1 (visK_kids hv hT hn hc)
      obtain ⟨h1, h2⟩ := keys_dom hv hT m c hcr x hx
      exact ⟨h1, (par_dom hcp).trans h2⟩
    · exact ⟨hn, .refl g x⟩
theorem keys_nodup {g : List Bl} (hv : validB g = true) (hT : Tame g) : ∀ (m n : Nat), Rch g [] n → (keysW g m n).Nodup
  | 0, _, _ => List.nodup_nil
  | m + 1, n, hn => by
    have hk : ∀ c ∈ visK g n, Rch g [] c ∧ Par g n c := fun c hc => (mem_kids hv).1 (visK_kids hv hT hn hc)
    rw [keysW, List.nodup_append]
    refine ⟨?_, by simp, fun a ha b hb e => ?_⟩
    · refine nodup_flat _ (fun c hc => keys_nodup hv hT m c (hk c hc).1) ?_
      refine (List.nodup_iff_pairwise_ne.1 (visK_nodup hv (hn.lt hv))).imp_of_mem fun {a b} ha hb hne => ?_
      intro x hxa hxb
      obtain ⟨hxr, h1⟩ := keys_dom hv hT m a (hk a ha).1 x hxa
      obtain ⟨_, h2⟩ := keys_dom hv hT m b (hk b hb).1 x hxb
      have key : ∀ p q, Rch g [] p → Par g n p → Rch g [] q → Par g n q → p ≠ q → Dm g p q → False := fun p q hpr hp hqr hq hpq hd => by
        have h3 : Dm g p n := ((hq.2.2 p).1 hd).resolve_left hpq
        exact hp.1 (h3.antisymm (par_dom hp) hpr).symm
      rcases h1.total h2 hxr with h3 | h3
      · exact key a b (hk a ha).1 (hk a ha).2 (hk b hb).1 (hk b hb).2 hne h3
      · exact key b a (hk b hb).1 (hk b hb).2 (hk a ha).1 (hk a ha).2 (fun e => hne e.symm) h3
    · rw [List.mem_singleton] at hb
      subst hb
      subst e
      obtain ⟨c, hc, hx⟩ := List.mem_flatMap.1 ha
      have h3 := (keys_dom hv hT m c (hk c hc).1 a hx).2
      exact (hk c hc).2.1 (h3.antisymm (par_dom (hk c hc).2) (hk c hc).1).symm
/-- A block that another one dominates is dominated by one of its children. -/
theorem dom_child {g : List Bl} (hv : validB g = true) {n : Nat} : ∀ (k x : Nat), placeN g x ≤ k → Rch g [] x → Dm g n x → n ≠ x → ∃ c, Rch g [] c ∧ Par g n c ∧ Dm g c x
  | 0, x, hk, hx, hd, hne => by
    have := dom_place hv hx hd hne
    omega
  | k + 1, x, hk, hx, hd, hne => by
    have h0 : x ≠ 0 := fun e => hne (by subst e; exact hd.of_entry)
    obtain ⟨p, hp⟩ := par_some hv hx h0
    have hnp : Dm g n p := ((hp.2.2 n).1 hd).resolve_left hne
    by_cases e : n = p
    · subst e; exact ⟨x, hx, hp, .refl g x⟩
    · have hpl := par_place hv hx hp
      obtain ⟨c, h1, h2, h3⟩ := dom_child hv k p (by omega) hp.2.1 hnp e
      exact ⟨c, h1, h2, h3.trans (par_dom hp)⟩
theorem keys_all {g : List Bl} (hv : validB g = true) (hT : Tame g) : ∀ (m n : Nat), Rch g [] n → (wayOrd g).length ≤ m + placeN g n → ∀ x, Rch g [] x → Dm g n x → x ∈ keysW g m n
  | 0, n, hn, hL => fun x hx hd => by have := place_lt hv hn; omega
  | m + 1, n, hn, hL => fun x hx hd => by
    rw [keysW, List.mem_append, List.mem_flatMap, List.mem_singleton]
    by_cases e : n = x
    · exact .inr e.symm
    · obtain ⟨c, h1, h2, h3⟩ := dom_child hv _ x (Nat.le_refl _) hx hd e
      have := par_place hv h1 h2
      exact .inl ⟨c, visK_all hv hT h1 h2, keys_all hv hT m c h1 (by omega) x hx h3⟩

end Go.Proofs.YtgebedbankibmaaGreatDoor

/-
  What the frames around a block in a made text are: those of all headers that dominate it, and of blocks where ways meet that do not. Plain facts.
-/
namespace Go.Proofs.YtgebedbankibmaaGreatDoor
open Go.RowKit Go.Sort

/-- Each frame is a header's, or that of a block where ways meet which does not dominate the block itself. -/
def FitAt (g : List Bl) (n : Nat) (fr : Fr) : Prop := ∀ e ∈ fr, (e.2 = true → e.1 ∈ headL g) ∧ (e.2 = false → e.1 ∈ meetsL g ∧ ¬ Dm g e.1 n)
theorem FitAt.into {g : List Bl} {n : Nat} {fr : Fr} (h : FitAt g n fr) : FitAt g n (intoF g n fr) := by
  unfold intoF
  split
  · rename_i hh
    intro e he
    rcases List.mem_cons.1 he with he | he
    · subst he; exact ⟨fun _ => hh, fun e => by cases e⟩
    · exact h e he
  · exact h
theorem not_dom_par {g : List Bl} {n y : Nat} (hy : Rch g [] y) (hp : Par g n y) : ¬ Dm g y n := fun hd => hp.1 (hd.antisymm (par_dom hp) hy).symm
theorem FitAt.wrap {g : List Bl} {n y : Nat} {fr : Fr} (h : FitAt g n fr) (hm : y ∈ meetsL g) (hy : Rch g [] y) (hp : Par g n y) : FitAt g n ((y, false) :: fr) := by
  intro e he
  rcases List.mem_cons.1 he with he | he
  · subst he; exact ⟨fun e => by (cases e), fun _ => ⟨hm, not_dom_par hy hp⟩⟩
  · exact h e he
theorem FitAt.child {g : List Bl} {n y : Nat} {fr : Fr} (h : FitAt g n fr) (hp : Par g n y) (hno : y ∈ meetsL g → (y, false) ∉ fr) : FitAt g y fr := by
  intro e he
  refine ⟨(h e he).1, fun hb => ?_⟩
  obtain ⟨h1, h2⟩ := (h e he).2 hb
  refine ⟨h1, fun hd => ?_⟩
  rcases (hp.2.2 e.1).1 hd with q | q
  · obtain ⟨a, b⟩ := e
    have q : a = y := q
    have hb : b = false := hb
    subst q; subst hb
    exact hno h1 he
  · exact h2 q

end Go.Proofs.YtgebedbankibmaaGreatDoor

/-
  The items of a made text: what the blocks of a graph are turned to, beside the bytes of it. Plain facts.
-/
namespace Go.Proofs.YtgebedbankibmaaGreatDoor
open Go.RowKit Go.Sort

/-- A step to a frame, as an item. -/
def stepI (fr : Fr) (x : Nat × Bool) : It := .leave (fr.findIdx fun y => decide (y = x))
def jumpI (g : List Bl) (T : Nat → Fr → List It) (n t : Nat) (fr : Fr) : List It :=
  if placeN g n < placeN g t then (if t ∈ meetsL g then [stepI fr (t, false)] else T t fr) else [stepI fr (t, true)]
def bareI (g : List Bl) (T : Nat → Fr → List It) (n : Nat) (fr : Fr) : List It :=
  match nxt g n with
  | [] => [.blk (letC g n), .stop]
  | [t] => .blk (letC g n) :: jumpI g T n t fr
  | t :: u :: _ => [.ask (letC g n) (jumpI g T n t fr) (jumpI g T n u fr)]
def withinI (g : List Bl) (T : Nat → Fr → List It) (n : Nat) : List Nat → Fr → List It
  | [], fr => bareI g T n fr
  | y :: bs, fr => .frame false (withinI g T n bs ((y, false) :: fr)) :: T y fr
def treeI (g : List Bl) : Nat → Nat → Fr → List It
  | 0, _, _ => []
  | m + 1, n, fr => if n ∈ headL g then [.frame true (withinI g (treeI g m) n (belowL g n) ((n, true) :: fr))] else withinI g (treeI g m) n (belowL g n) fr

theorem step_text {fr : Fr} {x : Nat × Bool} {f : Nat} (h : OkI (stepI fr x) f) : txI (stepI fr x) = stepT fr x := by
  unfold stepI at h ⊢
  rw [OkI] at h
  rw [txI]
  unfold stepT decL dig
  rw [if_pos h.2]
theorem jump_text {g : List Bl} {T : Nat → Fr → List It} {U : Nat → Fr → List UInt8} {n t : Nat} {fr : Fr} (hT : OkL (T t fr) fr.length → txL (T t fr) = U t fr) (h : OkL (jumpI g T n t fr) fr.length) :
    txL (jumpI g T n t fr) = jumpW g U n t fr := by
  unfold jumpI at h ⊢
  unfold jumpW
  split
  · rename_i h1
    rw [if_pos h1] at h
    split
    · rename_i h2
      rw [if_pos h2, OkL] at h
      rw [txL, txL, List.append_nil, step_text h.1]
    · rename_i h2
      rw [if_neg h2] at h
      exact hT h
  · rename_i h1
    rw [if_neg h1, OkL] at h
    rw [txL, txL, List.append_nil, step_text h.1]
theorem bare_text {g : List Bl} {T : Nat → Fr → List It} {U : Nat → Fr → List UInt8} {n : Nat} {fr : Fr} (hT : ∀ t fr, OkL (T t fr) fr.length → txL (T t fr) = U t fr) (h : OkL (bareI g T n fr) fr.length) :
    txL (bareI g T n fr) = bareW g U n fr := by
  unfold bareI at h ⊢
  unfold bareW
  rcases hx : nxt g n with _ | ⟨t, _ | ⟨u, ts⟩⟩
  · rfl
  · rw [hx] at h
    simp only [OkL] at h
    simp only [txL, txI]
    rw [jump_text (hT t fr) h.2]
    rfl
  · rw [hx] at h
    simp only [OkL, OkI] at h
    simp only [txL, txI]
    rw [jump_text (hT t fr) h.1.2.1, jump_text (hT u fr) h.1.2.2, List.append_nil]
theorem within_text {g : List Bl} {T : Nat → Fr → List It} {U : Nat → Fr → List UInt8} (hT : ∀ t fr, OkL (T t fr) fr.length → txL (T t fr) = U t fr) (n : Nat) : ∀ (bs : List Nat) (fr : Fr), OkL (withinI g T n bs fr) fr.length →
    txL (withinI g T n bs fr) = withinW g U n bs fr
  | [], fr, h => bare_text hT h
  | y :: bs, fr, h => by
    rw [withinI, OkL, OkI] at h
    rw [withinI, withinW, txL, txI, within_text hT n bs ((y, false) :: fr) h.1.2, hT y fr h.2]
    unfold opn cls
    simp
theorem tree_text (g : List Bl) : ∀ (m n : Nat) (fr : Fr), OkL (treeI g m n fr) fr.length → txL (treeI g m n fr) = treeW g m n fr
  | 0, _, _, _ => rfl
  | m + 1, n, fr, h => by
    rw [treeI] at h ⊢
    rw [treeW]
    split
    · rename_i hh
      rw [if_pos hh, OkL, OkI] at h
      rw [txL, txI, txL, within_text (tree_text g m) n _ ((n, true) :: fr) h.1.2]
      unfold opn cls
      simp
    · rename_i hh
      rw [if_neg hh] at h
      exact within_text (tree_text g m) n _ fr h
end Go.Proofs.YtgebedbankibmaaGreatDoor

/-
  How deep the frames of a text lie. Plain facts.
-/
namespace Go.Proofs.YtgebedbankibmaaGreatDoor
open Go.RowKit Go.Sort

end Go.Proofs.YtgebedbankibmaaGreatDoor

/-
  A made text that is a text has the items that it was made of. Plain facts.
-/
namespace Go.Proofs.YtgebedbankibmaaGreatDoor
open Go.RowKit Go.Sort

theorem step_fit {fr : Fr} {x : Nat × Bool} (hx : x ∈ fr) (hl : fr.length ≤ 9) : OkL [stepI fr x] fr.length := by
  have : (fr.findIdx fun y => decide (y = x)) < fr.length := List.findIdx_lt_length_of_exists ⟨x, hx, by simp⟩
  rw [OkL, OkL]
  unfold stepI
  rw [OkI]
  exact ⟨⟨this, by omega⟩, trivial⟩

section
variable {g : List Bl} {T : Nat → Fr → List It} {U : Nat → Fr → List UInt8}

theorem letter_let (hv : validB g = true) {n : Nat} (hn : n < g.length) : letB (letC g n) = true := by
  have := let_range hv hn
  unfold letB
  rw [Bool.and_eq_true, decide_eq_true_iff, decide_eq_true_iff]
  exact this

end

/-- The items of a made text. -/
noncomputable def madeI (g : List Bl) : List It := treeI g (wayOrd g).length 0 []
end Go.Proofs.YtgebedbankibmaaGreatDoor

/-
  How many items of each kind a made text has. Plain facts.
-/
namespace Go.Proofs.YtgebedbankibmaaGreatDoor
open Go.RowKit Go.Sort

/-- One, if it is the kind that is counted. -/
def oneC (kd x : UInt8) : Nat := if x = kd then 1 else 0
/-- Is a jump turned to a step? -/
def stepC (g : List Bl) (n t : Nat) : Nat := if placeN g n < placeN g t ∧ t ∉ meetsL g then 0 else 1
def bareC (g : List Bl) (kd : UInt8) (n : Nat) : Nat :=
  match nxt g n with
  | [] => oneC kd 88 + oneC kd 46
  | [t] => oneC kd 88 + stepC g n t * oneC kd 94
  | t :: u :: _ => oneC kd 63 + (stepC g n t + stepC g n u) * oneC kd 94
/-- What a block itself brings. -/
def ownC (g : List Bl) (kd : UInt8) (n : Nat) : Nat := (if n ∈ headL g then oneC kd 123 else 0) + (belowL g n).length * oneC kd 40 + bareC g kd n

section
variable {g : List Bl} {kd : UInt8} {T : Nat → Fr → List It} {K : Nat → Nat}
theorem cn_jump (h : ∀ c fr, cnL kd (T c fr) = K c) (n t : Nat) (fr : Fr) : cnL kd (jumpI g T n t fr) = stepC g n t * oneC kd 94 + (if placeN g n < placeN g t ∧ t ∉ meetsL g then K t else 0) := by
  have hs : ∀ x, cnL kd [stepI fr x] = oneC kd 94 := fun x => by
    unfold stepI
    rw [cnL, cnL, cnI]
    rfl
  unfold jumpI stepC
  by_cases h1 : placeN g n < placeN g t
  · rw [if_pos h1]
    by_cases h2 : t ∈ meetsL g
    · rw [if_pos h2, if_neg (fun q => q.2 h2), if_neg (fun q => q.2 h2), hs]; omega
    · rw [if_neg h2, if_pos ⟨h1, h2⟩, if_pos ⟨h1, h2⟩, h]; omega
  · rw [if_neg h1, if_neg (fun q => h1 q.1), if_neg (fun q => h1 q.1), hs]; omega
theorem cn_blk (c : UInt8) : cnI kd (.blk c) = oneC kd 88 := by rw [cnI]; rfl
theorem cn_ask (c : UInt8) (l r : List It) : cnI kd (.ask c l r) = oneC kd 63 + (cnL kd l + cnL kd r) := by rw [cnI]; rfl
theorem cn_bare (hv : validB g = true) (h : ∀ c fr, cnL kd (T c fr) = K c) (n : Nat) (fr : Fr) : cnL kd (bareI g T n fr) = bareC g kd n + ((bareK g n).map K).sum := by
  have h2 := nxt_few hv n
  have hf : ∀ (t : Nat) (l : List Nat), ((((t :: l).filter fun t => decide (placeN g n < placeN g t) && decide (t ∉ meetsL g)).map K).sum : Nat) = (if placeN g n < placeN g t ∧ t ∉ meetsL g then K t else 0) + ((l.filter fun t => decide (placeN g n < placeN g t) && decide (t ∉ meetsL g)).map K).sum := fun t l => by
    rw [List.filter_cons]
    by_cases hc : placeN g n < placeN g t ∧ t ∉ meetsL g
    · rw [if_pos (by rw [Bool.and_eq_true, decide_eq_true_iff, decide_eq_true_iff]; exact hc), if_pos hc, List.map_cons, List.sum_cons]
    · rw [if_neg (by rw [Bool.and_eq_true, decide_eq_true_iff, decide_eq_true_iff]; exact hc), if_neg hc, Nat.zero_add]
  unfold bareI bareC bareK
  rcases hx : nxt g n with _ | ⟨t, _ | ⟨u, _ | ⟨x, ts⟩⟩⟩
  · show cnL kd [It.blk (letC g n), It.stop] = _
    rw [cnL, cnL, cnL, cnI, cnI]
    rfl
  · simp only
    rw [cnL, cn_jump h, hf, cn_blk]
    simp only [List.filter_nil, List.map_nil, List.sum_nil]
    omega
  · simp only
    rw [cnL, cn_ask, cn_jump h, cn_jump h, hf, hf, cnL, Nat.add_mul]
    simp only [List.filter_nil, List.map_nil, List.sum_nil]
    omega
  · rw [hx] at h2
    simp only [List.length_cons] at h2
    omega
theorem cn_within (hv : validB g = true) (h : ∀ c fr, cnL kd (T c fr) = K c) (n : Nat) : ∀ (bs : List Nat) (fr : Fr), cnL kd (withinI g T n bs fr) = bs.length * oneC kd 40 + bareC g kd n + ((bs ++ bareK g n).map K).sum
  | [], fr => by
    rw [withinI, cn_bare hv h]
    simp
  | y :: bs, fr => by
    rw [withinI, cnL, cnI, cn_within hv h n bs, h, List.cons_append, List.map_cons, List.sum_cons, List.length_cons, Nat.add_mul]
    have : (if kdI (.frame false (withinI g T n bs ((y, false) :: fr))) = kd then 1 else 0) = oneC kd 40 := rfl
    rw [this]
    omega
end
theorem sum_flat {α : Type} (f : Nat → List α) (k : α → Nat) : ∀ l : List Nat, ((l.flatMap f).map k).sum = (l.map fun c => ((f c).map k).sum).sum
  | [] => rfl
  | a :: l => by rw [List.flatMap_cons, List.map_append, List.sum_append, sum_flat f k l, List.map_cons, List.sum_cons]
theorem cn_tree {g : List Bl} (hv : validB g = true) (kd : UInt8) : ∀ (m n : Nat) (fr : Fr), cnL kd (treeI g m n fr) = ((keysW g m n).map (ownC g kd)).sum
  | 0, _, _ => by rw [treeI, cnL]; rfl
  | m + 1, n, fr => by
    have hw : ∀ fr, cnL kd (withinI g (treeI g m) n (belowL g n) fr) = (belowL g n).length * oneC kd 40 + bareC g kd n + ((visK g n).map fun c => ((keysW g m c).map (ownC g kd)).sum).sum := fun fr => by
      rw [cn_within hv (K := fun c => ((keysW g m c).map (ownC g kd)).sum) (cn_tree hv kd m)]
      rfl
    rw [treeI, keysW, List.map_append, List.sum_append, sum_flat]
    have hown : ((([n] : List Nat).map (ownC g kd)).sum : Nat) = ownC g kd n := by simp
    rw [hown]
    have hoe : ownC g kd n = (if n ∈ headL g then oneC kd 123 else 0) + (belowL g n).length * oneC kd 40 + bareC g kd n := rfl
    rw [hoe]
    split
    · rw [cnL, cnI, hw, cnL]
      have : (if kdI (.frame true (withinI g (treeI g m) n (belowL g n) ((n, true) :: fr))) = kd then 1 else 0) = oneC kd 123 := rfl
      rw [this]
      omega
    · rw [hw]; omega

/-- Over all blocks that are reached. -/
theorem keys_perm {g : List Bl} (ht : tameB g = true) : (keysW g (wayOrd g).length 0).Perm (wayOrd g) := by
  obtain ⟨hv, hw⟩ := tameB_iff.1 ht
  have hT := tame_of hv hw
  have h0 : Rch g [] 0 := .start (by simp)
  refine (List.perm_ext_iff_of_nodup (keys_nodup hv hT _ _ h0) (wayOrd_nodup hv)).2 fun x => ⟨fun h => ?_, fun h => ?_⟩
  · exact (mem_wayOrd hv).2 (keys_dom hv hT _ _ h0 x h).1
  · exact keys_all hv hT _ 0 h0 (by omega) x ((mem_wayOrd hv).1 h) (.entry g x)
end Go.Proofs.YtgebedbankibmaaGreatDoor

/-
  A made text has a big frame for each block where ways meet, a small one for each header, and a leaf for each other jump that is not turned to a text. Plain facts.
-/
namespace Go.Proofs.YtgebedbankibmaaGreatDoor
open Go.RowKit Go.Sort

theorem bareC_zero {g : List Bl} {kd : UInt8} (h : kd ≠ 88 ∧ kd ≠ 46 ∧ kd ≠ 63 ∧ kd ≠ 94) (n : Nat) : bareC g kd n = 0 := by
  have e1 : oneC kd 88 = 0 := if_neg fun e => h.1 e.symm
  have e2 : oneC kd 46 = 0 := if_neg fun e => h.2.1 e.symm
  have e3 : oneC kd 63 = 0 := if_neg fun e => h.2.2.1 e.symm
  have e4 : oneC kd 94 = 0 := if_neg fun e => h.2.2.2 e.symm
  unfold bareC
  rw [e1, e2, e3, e4]
  split <;> rfl
theorem len_ext {a b : List Nat} (ha : a.Nodup) (hb : b.Nodup) (h : ∀ x, x ∈ a ↔ x ∈ b) : a.length = b.length := ((List.perm_ext_iff_of_nodup ha hb).2 h).length_eq
theorem goal_nodup (g : List Bl) (m : Nat) (K : Nat → Bool) : (goalL g m K).Nodup := List.Pairwise.filter _ (List.Pairwise.filter _ List.nodup_range)
/-- Each of a list has its one owner among others. -/
theorem sum_owner {f : Nat → Option Nat} {l : List Nat} (hl : l.Nodup) : ∀ W : List Nat, (∀ w ∈ W, ∃ k ∈ l, f w = some k) → (l.map fun k => (W.filter fun w => decide (f w = some k)).length).sum = W.length
  | [], _ => by
    have : ∀ l : List Nat, (l.map fun k => (([] : List Nat).filter fun w => decide (f w = some k)).length).sum = 0 := fun l => by
      induction l with
      | nil => rfl
      | cons a l ih => rw [List.map_cons, List.sum_cons, ih]; rfl
    exact this l
  | w :: W, h => by
    obtain ⟨k, hk, hf⟩ := h w (List.mem_cons_self ..)
    have ih := sum_owner hl W fun x hx => h x (List.mem_cons_of_mem _ hx)
    have key : ∀ l : List Nat, (l.map fun k => ((w :: W).filter fun w => decide (f w = some k)).length).sum = (l.filter fun j => decide (f w = some j)).length + (l.map fun k => (W.filter fun w => decide (f w = some k)).length).sum := fun l => by
      induction l with
      | nil => rfl
      | cons a l ihl =>
        rw [List.map_cons, List.sum_cons, ihl, List.map_cons, List.sum_cons, List.filter_cons, List.filter_cons]
        by_cases e : f w = some a
        · rw [if_pos (by simpa using e), if_pos (by simpa using e), List.length_cons, List.length_cons]; omega
        · rw [if_neg (by simpa using e), if_neg (by simpa using e)]; omega
    rw [key, ih, List.length_cons]
    have h1 : (l.filter fun j => decide (f w = some j)).length = [k].length := by
      refine len_ext (hl.filter _) (by simp) fun x => ?_
      rw [List.mem_filter, decide_eq_true_iff, hf, List.mem_singleton]
      constructor
      · rintro ⟨_, e⟩; injection e with e; exact e.symm
      · rintro rfl; exact ⟨hk, rfl⟩
    rw [h1, List.length_singleton]; omega

theorem sum_below {g : List Bl} (hv : validB g = true) : ((wayOrd g).map fun n => (belowL g n).length).sum = (meetsL g).length := by
  have hW : ((wayOrd g).filter fun c => decide (c ∈ meetsL g)).length = (meetsL g).length := by
    refine len_ext ((wayOrd_nodup hv).filter _) (goal_nodup g _ _) fun x => ?_
    rw [List.mem_filter, decide_eq_true_iff, mem_wayOrd hv]
    exact ⟨fun h => h.2, fun h => ⟨meets_live hv h, h⟩⟩
  rw [← hW, ← sum_owner (f := parL g) (wayOrd_nodup hv) ((wayOrd g).filter fun c => decide (c ∈ meetsL g)) ?_]
  · refine congrArg List.sum (List.map_congr_left fun n _ => ?_)
    unfold belowL
    rw [List.length_reverse, List.filter_filter]
    refine congrArg List.length (List.filter_congr fun c _ => ?_)
    rw [Bool.and_comm]
  · intro w hw
    rw [List.mem_filter, decide_eq_true_iff] at hw
    have hr := meets_live hv hw.2
    have h0 : w ≠ 0 := fun e => by
      have := (List.mem_filter.1 hw.2).2
      rw [decide_eq_true_iff] at this
      subst e
      have h2 : (srcL g fwdK 0).length = 0 := by rw [← fwd_count hv 0, place_entry hv]; rfl
      omega
    obtain ⟨p, hp⟩ := par_some hv hr h0
    exact ⟨p, (mem_wayOrd hv).2 hp.2.1, (parL_iff hv hr).2 hp⟩

end Go.Proofs.YtgebedbankibmaaGreatDoor

/-
  The leaves of a made text: one for each jump back, one for each jump forward to a block where ways meet. Plain facts.
-/
namespace Go.Proofs.YtgebedbankibmaaGreatDoor
open Go.RowKit Go.Sort

end Go.Proofs.YtgebedbankibmaaGreatDoor

/-
  How long a made text is. Plain facts.
-/
namespace Go.Proofs.YtgebedbankibmaaGreatDoor
open Go.RowKit Go.Sort

mutual
theorem lenI : ∀ i : It, cnI 35 i = 0 → cnI 61 i = 0 → (txI i).length = cnI 88 i + cnI 46 i + 6 * cnI 63 i + 2 * (cnI 40 i + cnI 123 i + cnI 94 i)
  | .blk c, _, _ => by rw [txI]; simp [cnI, kdI]
  | .ask c l r, h1, h2 => by
    rw [cnI] at h1 h2
    have a := lenL l (by omega) (by omega)
    have b := lenL r (by omega) (by omega)
    rw [txI]
    simp only [cnI, kdI, List.length_cons, List.length_append, List.length_nil, a, b]
    simp
    omega
  | .stop, _, _ => by rw [txI]; simp [cnI, kdI]
  | .frame b l, h1, h2 => by
    rw [cnI] at h1 h2
    have a := lenL l (by omega) (by omega)
    rw [txI]
    cases b
    · simp only [cnI, kdI, opn, List.length_cons, List.length_append, List.length_nil, a]
      simp
      omega
    · simp only [cnI, kdI, opn, List.length_cons, List.length_append, List.length_nil, a]
      simp
      omega
  | .leave n, _, _ => by rw [txI]; simp [cnI, kdI]
  | .set n, _, h2 => by rw [cnI] at h2; simp [kdI] at h2
  | .pick bs, h1, _ => by rw [cnI] at h1; simp [kdI] at h1
theorem lenL : ∀ l : List It, cnL 35 l = 0 → cnL 61 l = 0 → (txL l).length = cnL 88 l + cnL 46 l + 6 * cnL 63 l + 2 * (cnL 40 l + cnL 123 l + cnL 94 l)
  | [], _, _ => rfl
  | i :: l, h1, h2 => by
    rw [cnL] at h1 h2
    have a := lenI i (by omega) (by omega)
    have b := lenL l (by omega) (by omega)
    rw [txL, List.length_append, a, b, cnL, cnL, cnL, cnL, cnL, cnL]
    omega
end

end Go.Proofs.YtgebedbankibmaaGreatDoor

/-
  A made text holds each block that is reached once, and no number. Plain facts.
-/
namespace Go.Proofs.YtgebedbankibmaaGreatDoor
open Go.RowKit Go.Sort

section
variable {g : List Bl} {T : Nat → Fr → List It} {K : Nat → List UInt8}
end
end Go.Proofs.YtgebedbankibmaaGreatDoor

/-
  A tame graph of at most four blocks makes a text. Plain facts.
-/
namespace Go.Proofs.YtgebedbankibmaaGreatDoor
open Go.RowKit Go.Sort

theorem fr_few {g : List Bl} {fr : Fr} (hn : fr.Nodup) (hl : ∀ e ∈ fr, e.1 < g.length) : fr.length ≤ 2 * g.length := by
  have h := nodup_lt_len (2 * g.length) (fr.map fun e => 2 * e.1 + (if e.2 = true then 1 else 0)) (by
    rw [List.nodup_iff_pairwise_ne, List.pairwise_map]
    refine List.Pairwise.imp ?_ (List.nodup_iff_pairwise_ne.1 hn)
    intro a b hab e
    apply hab
    have h1 : a.1 = b.1 := by split at e <;> split at e <;> omega
    have h2 : a.2 = b.2 := by
      rw [h1] at e
      cases ha : a.2 <;> cases hb : b.2 <;> rw [ha, hb] at e <;> simp at e ⊢
    exact Prod.ext h1 h2) (by
    intro x hx
    obtain ⟨e, he, rfl⟩ := List.mem_map.1 hx
    have := hl e he
    show 2 * e.1 + (if e.2 = true then 1 else 0) < 2 * g.length
    split <;> omega)
  rw [List.length_map] at h
  exact h
theorem OkIn.few {g : List Bl} (h4 : g.length ≤ 4) {n : Nat} {bs : List Nat} {fr : Fr} (h : OkIn g n bs fr) : fr.length ≤ 8 := by
  have := fr_few (g := g) h.1 fun e he => (h.2 e he).1
  omega

section
variable {g : List Bl} {T : Nat → Fr → List It}
theorem jump_few (h4 : g.length ≤ 4) (hv : validB g = true) (hT : Tame g) (IH : ∀ c fr, Rch g [] c → InvOut g c fr → OkOut g c fr → OkL (T c fr) fr.length)
    {n t : Nat} {fr : Fr} (hn : Rch g [] n) (hi : InvIn g n [] fr) (ho : OkIn g n [] fr) (ht : t ∈ nxt g n) : OkL (jumpI g T n t fr) fr.length := by
  have hl : fr.length ≤ 9 := by have := ho.few h4; omega
  unfold jumpI
  split
  · rename_i h1
    split
    · rename_i h2; exact step_fit (hi.fwd hv hn ht h1 h2) hl
    · rename_i h2
      obtain ⟨hr, hp⟩ := bareK_par hv hT hn (mem_bareK.2 ⟨ht, h1, h2⟩)
      exact IH t fr hr (hi.jump hv hr hp) (ho.child hv hr hp)
  · rename_i h1; exact step_fit (hi.back hv hT hn ht h1) hl
theorem bare_few (h4 : g.length ≤ 4) (hv : validB g = true) (hT : Tame g) (IH : ∀ c fr, Rch g [] c → InvOut g c fr → OkOut g c fr → OkL (T c fr) fr.length)
    {n : Nat} {fr : Fr} (hn : Rch g [] n) (hi : InvIn g n [] fr) (ho : OkIn g n [] fr) : OkL (bareI g T n fr) fr.length := by
  have hlet := letter_let hv (hn.lt hv)
  have J := fun t (ht : t ∈ nxt g n) => jump_few h4 hv hT IH hn hi ho ht
  unfold bareI
  rcases hx : nxt g n with _ | ⟨t, _ | ⟨u, ts⟩⟩
  · simp only [OkL, OkI]; exact ⟨hlet, trivial, trivial⟩
  · rw [hx] at J
    simp only [OkL, OkI]
    exact ⟨hlet, J t (by simp)⟩
  · rw [hx] at J
    simp only [OkL, OkI]
    exact ⟨⟨hlet, J t (by simp), J u (by simp)⟩, trivial⟩
theorem within_few (h4 : g.length ≤ 4) (hv : validB g = true) (hT : Tame g) (IH : ∀ c fr, Rch g [] c → InvOut g c fr → OkOut g c fr → OkL (T c fr) fr.length) {n : Nat} (hn : Rch g [] n) :
    ∀ (bs : List Nat) (fr : Fr), (∀ y ∈ bs, y ∈ belowL g n) → bs.Nodup → bs.Pairwise (fun a b => placeN g b < placeN g a) → InvIn g n bs fr → OkIn g n bs fr → OkL (withinI g T n bs fr) fr.length
  | [], fr, _, _, _, hi, ho => bare_few h4 hv hT IH hn hi ho
  | y :: bs, fr, hb, hd, hs, hi, ho => by
    obtain ⟨hr, hmt, hpar⟩ := (mem_belowL hv).1 (hb y (List.mem_cons_self ..))
    have hd' := List.nodup_cons.1 hd
    have h1 := within_few h4 hv hT IH hn bs _ (fun z hz => hb z (List.mem_cons_of_mem _ hz)) hd'.2 (List.pairwise_cons.1 hs).2 hi.wrap (ho.wrap hv hr hpar hd'.1)
    have h2 := IH y fr hr (hi.child hv hs hr hpar) (ho.child hv hr hpar)
    have h8 := ho.few h4
    rw [withinI, OkL, OkI]
    exact ⟨⟨by omega, h1⟩, h2⟩
end
theorem tree_few {g : List Bl} (h4 : g.length ≤ 4) (hv : validB g = true) (hT : Tame g) : ∀ (m n : Nat) (fr : Fr), Rch g [] n → InvOut g n fr → OkOut g n fr → OkL (treeI g m n fr) fr.length
  | 0, _, _, _, _, _ => by rw [treeI, OkL]; trivial
  | m + 1, n, fr, hn, hi, ho => by
    have hs := below_sorted hv n
    have hnd : (belowL g n).Nodup := by
      rw [List.nodup_iff_pairwise_ne]
      exact hs.imp fun hab e => by rw [e] at hab; omega
    have hi' := hi.into hv
    have ho' := ho.into (hn.lt hv)
    rw [treeI]
    split
    · rename_i hh
      rw [if_pos hh] at hi' ho'
      have h1 := within_few h4 hv hT (tree_few h4 hv hT m) hn _ _ (fun _ h => h) hnd hs hi' ho'
      have h8 := ho'.few h4
      rw [List.length_cons] at h8
      rw [OkL, OkI, OkL]
      exact ⟨⟨by omega, h1⟩, trivial⟩
    · rename_i hh
      rw [if_neg hh] at hi' ho'
      exact within_few h4 hv hT (tree_few h4 hv hT m) hn _ _ (fun _ h => h) hnd hs hi' ho'

theorem sum_most {f : Nat → Nat} {k : Nat} (h : ∀ n, f n ≤ k) : ∀ l : List Nat, (l.map f).sum ≤ k * l.length
  | [] => Nat.zero_le _
  | a :: l => by
    have := sum_most h l
    have ha := h a
    rw [List.map_cons, List.sum_cons, List.length_cons, Nat.mul_add]
    omega
theorem made_few {g : List Bl} (ht : tameB g = true) (h4 : g.length ≤ 4) : madeB g = true := by
  obtain ⟨hv, hw⟩ := tameB_iff.1 ht
  have hT := tame_of hv hw
  have h := tree_few h4 hv hT (wayOrd g).length 0 [] (.start (by simp)) (invOut_start g) (okOut_start g)
  have e : txL (madeI g) = madeT g := tree_text g _ _ _ h
  have hc : ∀ kd, cnL kd (madeI g) = ((wayOrd g).map (ownC g kd)).sum := fun kd => by
    unfold madeI
    rw [cn_tree hv]
    exact ((keys_perm ht).map _).sum_nat
  have hlen : (wayOrd g).length ≤ 4 := by
    have := nodup_lt_len g.length (wayOrd g) (wayOrd_nodup hv) fun x hx => ((mem_wayOrd hv).1 hx).lt hv
    omega
  have none : ∀ kd : UInt8, oneC kd 123 = 0 → oneC kd 40 = 0 → (∀ n, bareC g kd n = 0) → cnL kd (madeI g) = 0 := fun kd h1 h2 h3 => by
    rw [hc]
    have := sum_most (f := ownC g kd) (k := 0) (fun n => by
      unfold ownC
      rw [h1, h2, h3]
      split <;> omega) (wayOrd g)
    omega
  have h35 := none 35 rfl rfl (bareC_zero (by decide))
  have h61 := none 61 rfl rfl (bareC_zero (by decide))
  have one : ∀ kd x, oneC kd x ≤ 1 := fun kd x => by unfold oneC; split <;> omega
  have hst : ∀ n t, stepC g n t ≤ 1 := fun n t => by unfold stepC; split <;> omega
  have hb2 : ∀ kd n, oneC kd 123 = 0 → oneC kd 40 = 0 → ownC g kd n ≤ 3 := fun kd n h1 h2 => by
    have b : bareC g kd n ≤ 3 := by
      unfold bareC
      have e94 := one kd 94
      split
      · have := one kd 88; have := one kd 46; omega
      · rename_i t _
        have := one kd 88
        have a := Nat.mul_le_mul (hst n t) e94
        omega
      · rename_i t u _ _
        have := one kd 63
        have a := Nat.mul_le_mul (Nat.add_le_add (hst n t) (hst n u)) e94
        omega
    unfold ownC
    rw [h1, h2]
    split <;> omega
  have m : ∀ kd, oneC kd 123 = 0 → oneC kd 40 = 0 → cnL kd (madeI g) ≤ 12 := fun kd h1 h2 => by
    rw [hc]
    have := sum_most (f := ownC g kd) (fun n => hb2 kd n h1 h2) (wayOrd g)
    omega
  have m40 : cnL 40 (madeI g) = (meetsL g).length := by
    rw [hc, ← sum_below hv]
    refine congrArg List.sum (List.map_congr_left fun n _ => ?_)
    unfold ownC
    rw [bareC_zero (by decide)]
    have e1 : oneC 40 123 = 0 := rfl
    have e2 : oneC 40 40 = 1 := rfl
    rw [e1, e2]
    split <;> omega
  have l40 : (meetsL g).length ≤ 4 := by
    have := nodup_lt_len g.length (meetsL g) (goal_nodup g _ _) fun x hx => goalL_lt _ _ x hx
    omega
  have m123 : cnL 123 (madeI g) ≤ 4 := by
    rw [hc]
    have := sum_most (f := ownC g 123) (k := 1) (fun n => by
      unfold ownC
      rw [bareC_zero (by decide)]
      have e1 : oneC 123 123 = 1 := rfl
      have e2 : oneC 123 40 = 0 := rfl
      rw [e1, e2]
      split <;> omega) (wayOrd g)
    omega
  have hz := lenL _ h35 h61
  rw [e] at hz
  have a1 := m 88 rfl rfl
  have a2 := m 46 rfl rfl
  have a3 := m 63 rfl rfl
  have a4 := m 94 rfl rfl
  have hs : (madeT g).length ≤ 200 := by omega
  unfold madeB
  rw [ht, textB_yes ⟨madeI g, hs, h, e.symm⟩]
  rfl
end Go.Proofs.YtgebedbankibmaaGreatDoor

/-
  A graph and what is left of it when it is pruned make the same text. Plain facts.
-/
namespace Go.Proofs.YtgebedbankibmaaGreatDoor
open Go.RowKit Go.Sort

variable {g : List Bl}
theorem letter_prune {j : Nat} (hj : j < (reachS g).length) : letC g (rho g j) = letC (pruneG g) j := by unfold letC; rw [prune_name' hj]
theorem pruneG_len (g : List Bl) : (pruneG g).length = (reachS g).length := by unfold pruneG; rw [List.length_map]
theorem goal_left (g : List Bl) (m : Nat) (K : Nat → Bool) {t : Nat} (h : t ∈ goalL (pruneG g) m K) : t < (reachS g).length := by rw [← pruneG_len]; exact goalL_lt m K t h
theorem goal_prune (hv : validB g = true) (m : Nat) (K : Nat → Bool) {t : Nat} (ht : t < (reachS g).length) : rho g t ∈ goalL g m K ↔ t ∈ goalL (pruneG g) m K := by
  rw [prune_goals hv m K, List.mem_map]
  constructor
  · rintro ⟨x, hx, e⟩
    rw [← rho_inj (goal_left g m K hx) ht e]; exact hx
  · exact fun h => ⟨t, h, rfl⟩

/-- The frames, as the graph itself has them. -/
def frM (g : List Bl) (fr : Fr) : Fr := fr.map fun e => (rho g e.1, e.2)
theorem frM_idx {t : Nat} {b : Bool} (ht : t < (reachS g).length) : ∀ fr : Fr, (∀ e ∈ fr, e.1 < (reachS g).length) → (frM g fr).findIdx (fun y => decide (y = (rho g t, b))) = fr.findIdx fun y => decide (y = (t, b))
  | [], _ => rfl
  | e :: fr, h => by
    have ih := frM_idx (b := b) ht fr fun x hx => h x (List.mem_cons_of_mem _ hx)
    have he := h e (List.mem_cons_self ..)
    show ((rho g e.1, e.2) :: frM g fr).findIdx _ = _
    rw [List.findIdx_cons, List.findIdx_cons, ih]
    have : decide ((rho g e.1, e.2) = (rho g t, b)) = decide (e = (t, b)) := by
      refine decide_eq_decide.2 ⟨fun q => ?_, fun q => by rw [q]⟩
      injection q with q1 q2
      exact Prod.ext (rho_inj he ht q1) q2
    rw [this]
theorem step_prune {t : Nat} {b : Bool} (ht : t < (reachS g).length) {fr : Fr} (h : ∀ e ∈ fr, e.1 < (reachS g).length) : stepT (frM g fr) (rho g t, b) = stepT fr (t, b) := by
  unfold stepT
  rw [frM_idx ht fr h]
section
variable {T T' : Nat → Fr → List UInt8}
theorem jump_prune (hv : validB g = true) (hT : ∀ t fr, t < (reachS g).length → (∀ e ∈ fr, e.1 < (reachS g).length) → T (rho g t) (frM g fr) = T' t fr) {n t : Nat} (hn : n < (reachS g).length) (ht : t < (reachS g).length) {fr : Fr} (h : ∀ e ∈ fr, e.1 < (reachS g).length) :
    jumpW g T (rho g n) (rho g t) (frM g fr) = jumpW (pruneG g) T' n t fr := by
  unfold jumpW
  rw [prune_place hv hn, prune_place hv ht, hT t fr ht h, step_prune ht h, step_prune ht h]
  have hm : rho g t ∈ meetsL g ↔ t ∈ meetsL (pruneG g) := goal_prune hv 2 fwdK ht
  by_cases hc : t ∈ meetsL (pruneG g)
  · rw [if_pos hc, if_pos (hm.2 hc)]
  · rw [if_neg hc, if_neg fun q => hc (hm.1 q)]
theorem bare_prune (hv : validB g = true) (hT : ∀ t fr, t < (reachS g).length → (∀ e ∈ fr, e.1 < (reachS g).length) → T (rho g t) (frM g fr) = T' t fr) {n : Nat} (hn : n < (reachS g).length) {fr : Fr} (h : ∀ e ∈ fr, e.1 < (reachS g).length) :
    bareW g T (rho g n) (frM g fr) = bareW (pruneG g) T' n fr := by
  have hx := prune_nxts hv hn
  have hl := fun t => prune_lt hv hn (t := t)
  unfold bareW
  rw [← hx, letter_prune hn]
  rcases hy : nxt (pruneG g) n with _ | ⟨t, _ | ⟨u, ts⟩⟩
  · rfl
  · rw [hy] at hl
    simp only [List.map_cons, List.map_nil]
    rw [jump_prune hv hT hn (hl t (by simp)) h]
  · rw [hy] at hl
    simp only [List.map_cons]
    rw [jump_prune hv hT hn (hl t (by simp)) h, jump_prune hv hT hn (hl u (by simp)) h]
theorem within_prune (hv : validB g = true) (hT : ∀ t fr, t < (reachS g).length → (∀ e ∈ fr, e.1 < (reachS g).length) → T (rho g t) (frM g fr) = T' t fr) {n : Nat} (hn : n < (reachS g).length) : ∀ (bs : List Nat) (fr : Fr), (∀ y ∈ bs, y < (reachS g).length) → (∀ e ∈ fr, e.1 < (reachS g).length) →
    withinW g T (rho g n) (bs.map (rho g)) (frM g fr) = withinW (pruneG g) T' n bs fr
  | [], fr, _, h => bare_prune hv hT hn h
  | y :: bs, fr, hb, h => by
    have hy := hb y (List.mem_cons_self ..)
    have ih := within_prune hv hT hn bs ((y, false) :: fr) (fun z hz => hb z (List.mem_cons_of_mem _ hz)) fun e he => by
      rcases List.mem_cons.1 he with he | he
      · subst he; exact hy
      · exact h e he
    rw [List.map_cons, withinW, withinW, hT y fr hy h, ← ih]
    rfl
end
theorem below_prune (hv : validB g = true) {n : Nat} (hn : n < (reachS g).length) : belowL g (rho g n) = (belowL (pruneG g) n).map (rho g) := by
  unfold belowL
  rw [prune_order hv, List.filter_map, ← List.map_reverse]
  refine congrArg (List.map (rho g)) (congrArg List.reverse (List.filter_congr fun c hc => ?_))
  have hcl := order_left hv c hc
  have h1 : decide (rho g c ∈ meetsL g) = decide (c ∈ meetsL (pruneG g)) := decide_eq_decide.2 (goal_prune hv 2 fwdK hcl)
  have h2 : decide (parL g (rho g c) = some (rho g n)) = decide (parL (pruneG g) c = some n) := by
    refine decide_eq_decide.2 ?_
    rw [prune_parL hv hcl]
    cases hp : parL (pruneG g) c with
    | none => simp
    | some p =>
      have hpl := prune_par_lt hv hp
      simp only [Option.map_some, Option.some.injEq]
      exact ⟨fun q => rho_inj hpl hn q, fun q => by rw [q]⟩
  show (decide (rho g c ∈ meetsL g) && decide (parL g (rho g c) = some (rho g n))) = _
  rw [h1, h2]
theorem below_left (hv : validB g = true) (n : Nat) : ∀ y ∈ belowL (pruneG g) n, y < (reachS g).length := fun y hy => by
  unfold belowL at hy
  rw [List.mem_reverse, List.mem_filter] at hy
  exact order_left hv y hy.1
theorem tree_prune (hv : validB g = true) : ∀ (m n : Nat) (fr : Fr), n < (reachS g).length → (∀ e ∈ fr, e.1 < (reachS g).length) → treeW g m (rho g n) (frM g fr) = treeW (pruneG g) m n fr
  | 0, _, _, _, _ => rfl
  | m + 1, n, fr, hn, h => by
    have hw := fun fr h => within_prune hv (tree_prune hv m) hn (belowL (pruneG g) n) fr (below_left hv n) h
    rw [treeW, treeW, below_prune hv hn]
    have hm : rho g n ∈ headL g ↔ n ∈ headL (pruneG g) := goal_prune hv 1 backK hn
    by_cases hc : n ∈ headL (pruneG g)
    · rw [if_pos hc, if_pos (hm.2 hc), ← hw ((n, true) :: fr) fun e he => by
        rcases List.mem_cons.1 he with he | he
        · subst he; exact hn
        · exact h e he]
      rfl
    · rw [if_neg hc, if_neg fun q => hc (hm.1 q), ← hw fr h]
theorem made_prune (hv : validB g = true) : madeT (pruneG g) = madeT g := by
  obtain ⟨h0, hl⟩ := rho_zero hv
  unfold madeT
  have := tree_prune hv (wayOrd g).length 0 [] hl fun _ h => by cases h
  rw [h0] at this
  have e : (wayOrd g).length = (wayOrd (pruneG g)).length := by rw [prune_order hv, List.length_map]
  rw [← e]
  exact this.symm
theorem tame_prune (hv : validB g = true) : tameB (pruneG g) = tameB g := by
  unfold tameB
  rw [prune_valid hv, hv, prune_jumps hv wildK, List.length_map]
theorem madeB_prune (hv : validB g = true) : madeB (pruneG g) = madeB g := by
  unfold madeB
  rw [tame_prune hv, made_prune hv]
theorem madeV_prune (hv : validB g = true) : madeV (pruneG g) = madeV g := by
  unfold madeV
  rw [madeB_prune hv, made_prune hv]
end Go.Proofs.YtgebedbankibmaaGreatDoor
