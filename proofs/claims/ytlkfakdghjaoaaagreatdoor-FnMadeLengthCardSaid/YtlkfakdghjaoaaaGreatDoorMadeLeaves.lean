import Derived.Test.YtlkfakdghjaoaaaGreatDoorJ14
namespace Go.Proofs.YtlkfakdghjaoaaaGreatDoor
open Go.RowKit Go.Sort
def stepI (fr : Fr) (x : Nat × Bool) : It := .leave (fr.findIdx fun y => decide (y = x))
def jumpI (g : List Bl) (T : Nat → Fr → List It) (n t : Nat) (fr : Fr) : List It :=
 if placeN g n < placeN g t then (if t ∈ meetsL g then [stepI fr (t, false)] else T t fr) else [stepI fr (t, true)]
def bareI (g : List Bl) (T : Nat → Fr → List It) (n : Nat) (fr : Fr) : List It :=
 match nxt g n with
 | [] => [.blk (letC g n), .stop]
 | [t] => .blk (letC g n) :: jumpI g T n t fr
 | t :: u :: _ => [.ask (letC g n) (jumpI g T n t fr) (jumpI g T n u fr)]
def withinI (g : List Bl) (T : Nat → Fr → List It) (n : Nat) : List Nat → Fr → List It
 | [], fr => bareI g T n fr
 | y :: bs, fr => .frame false (withinI g T n bs ((y, false) :: fr)) :: T y fr
def treeI (g : List Bl) : Nat → Nat → Fr → List It
 | 0, _, _ => []
 | m + 1, n, fr => if n ∈ headL g then [.frame true (withinI g (treeI g m) n (belowL g n) ((n, true) :: fr))] else withinI g (treeI g m) n (belowL g n) fr
theorem step_text {fr : Fr} {x : Nat × Bool} {f : Nat} (h : OkI (stepI fr x) f) : txI (stepI fr x) = stepT fr x := by
 unfold stepI at h ⊢
 rw [OkI] at h
 rw [txI]
 unfold stepT decL dig
 rw [if_pos h.2]
theorem jump_text {g : List Bl} {T : Nat → Fr → List It} {U : Nat → Fr → List UInt8} {n t : Nat} {fr : Fr} (hT : OkL (T t fr) fr.length → txL (T t fr) = U t fr) (h : OkL (jumpI g T n t fr) fr.length) :
  txL (jumpI g T n t fr) = jumpW g U n t fr := by
 unfold jumpI at h ⊢
 unfold jumpW
 split
 ·rename_i h1
  rw [if_pos h1] at h
  split
  ·rename_i h2
   rw [if_pos h2, OkL] at h
   rw [txL, txL, List.append_nil, step_text h.1]
  ·rename_i h2
   rw [if_neg h2] at h
   exact hT h
 ·rename_i h1
  rw [if_neg h1, OkL] at h
  rw [txL, txL, List.append_nil, step_text h.1]
theorem bare_text {g : List Bl} {T : Nat → Fr → List It} {U : Nat → Fr → List UInt8} {n : Nat} {fr : Fr} (hT : ∀ t fr, OkL (T t fr) fr.length → txL (T t fr) = U t fr) (h : OkL (bareI g T n fr) fr.length) :
  txL (bareI g T n fr) = bareW g U n fr := by
 unfold bareI at h ⊢
 unfold bareW
 rcases hx : nxt g n with _ | ⟨t, _ | ⟨u, ts⟩⟩
 ·rfl
 ·rw [hx] at h
  simp only [OkL] at h
  simp only [txL, txI]
  rw [jump_text (hT t fr) h.2]
  rfl
 ·rw [hx] at h
  simp only [OkL, OkI] at h
  simp only [txL, txI]
  rw [jump_text (hT t fr) h.1.2.1, jump_text (hT u fr) h.1.2.2, List.append_nil]
theorem within_text {g : List Bl} {T : Nat → Fr → List It} {U : Nat → Fr → List UInt8} (hT : ∀ t fr, OkL (T t fr) fr.length → txL (T t fr) = U t fr) (n : Nat) : ∀ (bs : List Nat) (fr : Fr), OkL (withinI g T n bs fr) fr.length →
  txL (withinI g T n bs fr) = withinW g U n bs fr
 | [], fr, h => bare_text hT h
 | y :: bs, fr, h => by
  rw [withinI, OkL, OkI] at h
  rw [withinI, withinW, txL, txI, within_text hT n bs ((y, false) :: fr) h.1.2, hT y fr h.2]
  unfold opn cls
  simp
theorem tree_text (g : List Bl) : ∀ (m n : Nat) (fr : Fr), OkL (treeI g m n fr) fr.length → txL (treeI g m n fr) = treeW g m n fr
 | 0, _, _, _ => rfl
 | m + 1, n, fr, h => by
  rw [treeI] at h ⊢
  rw [treeW]
  split
  ·rename_i hh
   rw [if_pos hh, OkL, OkI] at h
   rw [txL, txI, txL, within_text (tree_text g m) n _ ((n, true) :: fr) h.1.2]
   unfold opn cls
   simp
  ·rename_i hh
   rw [if_neg hh] at h
   exact within_text (tree_text g m) n _ fr h
end Go.Proofs.YtlkfakdghjaoaaaGreatDoor

namespace Go.Proofs.YtlkfakdghjaoaaaGreatDoor
open Go.RowKit Go.Sort
def upB (c : UInt8) : Bool := c == 40 || c == 123
def dnB (c : UInt8) : Bool := c == 41 || c == 125
def fdD : List UInt8 → Nat → Nat
 | [], d => d
 | c :: s, d => if upB c = true then fdD s (d + 1) else if dnB c = true then fdD s (d - 1) else fdD s d
def mxD : List UInt8 → Nat → Nat
 | [], d => d
 | c :: s, d => if upB c = true then mxD s (d + 1) else if dnB c = true then max d (mxD s (d - 1)) else mxD s d
theorem mxD_ge : ∀ (s : List UInt8) (d : Nat), d ≤ mxD s d
 | [], d => Nat.le_refl _
 | c :: s, d => by
  unfold mxD
  split
  ·have := mxD_ge s (d + 1); omega
  ·split
   ·exact Nat.le_max_left _ _
   ·exact mxD_ge s d
theorem fdD_append : ∀ (a b : List UInt8) (d : Nat), fdD (a ++ b) d = fdD b (fdD a d)
 | [], b, d => rfl
 | c :: a, b, d => by
  rw [List.cons_append, fdD, fdD]
  split
  ·exact fdD_append a b _
  ·split
   ·exact fdD_append a b _
   ·exact fdD_append a b _
theorem mxD_append : ∀ (a b : List UInt8) (d : Nat), mxD (a ++ b) d = max (mxD a d) (mxD b (fdD a d))
 | [], b, d => by rw [List.nil_append]; have := mxD_ge b d; rw [mxD, fdD]; omega
 | c :: a, b, d => by
  rw [List.cons_append, mxD, mxD, fdD]
  split
  ·exact mxD_append a b _
  ·split
   ·rw [mxD_append a b]; omega
   ·exact mxD_append a b _
theorem fdD_free {c : UInt8} (h : upB c = false ∧ dnB c = false) (s : List UInt8) (d : Nat) : fdD (c :: s) d = fdD s d := by rw [fdD, if_neg (by simp [h.1]), if_neg (by simp [h.2])]
theorem mxD_free {c : UInt8} (h : upB c = false ∧ dnB c = false) (s : List UInt8) (d : Nat) : mxD (c :: s) d = mxD s d := by rw [mxD, if_neg (by simp [h.1]), if_neg (by simp [h.2])]
theorem free_let {c : UInt8} (h : letB c = true) : upB c = false ∧ dnB c = false := by
 have key : ∀ x : UInt8, letB x = false → c ≠ x := fun x hx e => by rw [e, hx] at h; cases h
 unfold upB dnB
 rw [Bool.or_eq_false_iff, Bool.or_eq_false_iff, beq_eq_false_iff_ne, beq_eq_false_iff_ne, beq_eq_false_iff_ne, beq_eq_false_iff_ne]
 exact ⟨⟨key _ (by decide), key _ (by decide)⟩, key _ (by decide), key _ (by decide)⟩
theorem free_dig {n : Nat} (h : n < 10) : upB (dig n) = false ∧ dnB (dig n) = false := by
 revert n; decide +kernel
theorem fdD_opn (b : Bool) (s : List UInt8) (d : Nat) : fdD (opn b :: s) d = fdD s (d + 1) := by cases b <;> rfl
theorem fdD_cls (b : Bool) (s : List UInt8) (d : Nat) : fdD (cls b :: s) d = fdD s (d - 1) := by cases b <;> rfl
theorem mxD_opn (b : Bool) (s : List UInt8) (d : Nat) : mxD (opn b :: s) d = mxD s (d + 1) := by cases b <;> rfl
theorem mxD_cls (b : Bool) (s : List UInt8) (d : Nat) : mxD (cls b :: s) d = max d (mxD s (d - 1)) := by cases b <;> rfl
mutual
theorem fdI : ∀ (i : It) (f : Nat), OkI i f → ∀ d, fdD (txI i) d = d
 | .blk c, f, h, d => by rw [OkI] at h; rw [txI, fdD_free (free_let h)]; rfl
 | .ask c l r, f, h, d => by
  rw [OkI] at h
  rw [txI, fdD_free (by decide), fdD_free (free_let h.1), fdD_free (by decide), fdD_append, fdL l f h.2.1, fdD_free (by decide), fdD_free (by decide), fdD_append, fdL r f h.2.2, fdD_free (by decide)]
  rfl
 | .stop, f, h, d => by rw [txI]; rfl
 | .frame b l, f, h, d => by
  rw [OkI] at h
  rw [txI, fdD_opn, fdD_append, fdL l (f + 1) h.2, fdD_cls]
  rfl
 | .leave n, f, h, d => by rw [OkI] at h; rw [txI, fdD_free (by decide), fdD_free (free_dig h.2)]; rfl
 | .set n, f, h, d => by rw [OkI] at h; rw [txI, fdD_free (by decide), fdD_free (free_dig h)]; rfl
 | .pick bs, f, h, d => by rw [OkI] at h; rw [txI, fdD_free (by decide), fdB bs f h.2.2]
theorem fdL : ∀ (l : List It) (f : Nat), OkL l f → ∀ d, fdD (txL l) d = d
 | [], f, h, d => rfl
 | i :: l, f, h, d => by rw [OkL] at h; rw [txL, fdD_append, fdI i f h.1, fdL l f h.2]
theorem fdB : ∀ (bs : List (List It)) (f : Nat), OkB bs f → ∀ d, fdD (txB bs) d = d
 | [], f, h, d => rfl
 | b :: bs, f, h, d => by
  rw [OkB] at h
  rw [txB, fdD_free (by decide), fdD_append, fdL b f h.1, fdD_free (by decide), fdB bs f h.2]
end
mutual
theorem mxI : ∀ (i : It) (f : Nat), f ≤ 9 → OkI i f → mxD (txI i) f ≤ 9
 | .blk c, f, hf, h => by rw [OkI] at h; rw [txI, mxD_free (free_let h)]; exact hf
 | .ask c l r, f, hf, h => by
  rw [OkI] at h
  rw [txI, mxD_free (by decide), mxD_free (free_let h.1), mxD_free (by decide), mxD_append, fdL l f h.2.1, mxD_free (by decide), mxD_free (by decide), mxD_append, fdL r f h.2.2, mxD_free (by decide)]
  have h1 := mxL l f hf h.2.1
  have h2 := mxL r f hf h.2.2
  rw [mxD]; omega
 | .stop, f, hf, h => by rw [txI]; exact hf
 | .frame b l, f, hf, h => by
  rw [OkI] at h
  rw [txI, mxD_opn, mxD_append, fdL l (f + 1) h.2, mxD_cls]
  have h1 := mxL l (f + 1) (by omega) h.2
  rw [mxD]; omega
 | .leave n, f, hf, h => by rw [OkI] at h; rw [txI, mxD_free (by decide), mxD_free (free_dig h.2)]; exact hf
 | .set n, f, hf, h => by rw [OkI] at h; rw [txI, mxD_free (by decide), mxD_free (free_dig h)]; exact hf
 | .pick bs, f, hf, h => by rw [OkI] at h; rw [txI, mxD_free (by decide)]; exact mxB bs f hf h.2.2
theorem mxL : ∀ (l : List It) (f : Nat), f ≤ 9 → OkL l f → mxD (txL l) f ≤ 9
 | [], f, hf, h => hf
 | i :: l, f, hf, h => by
  rw [OkL] at h
  rw [txL, mxD_append, fdI i f h.1]
  have h1 := mxI i f hf h.1
  have h2 := mxL l f hf h.2
  omega
theorem mxB : ∀ (bs : List (List It)) (f : Nat), f ≤ 9 → OkB bs f → mxD (txB bs) f ≤ 9
 | [], f, hf, h => hf
 | b :: bs, f, hf, h => by
  rw [OkB] at h
  rw [txB, mxD_free (by decide), mxD_append, fdL b f h.1, mxD_free (by decide)]
  have h1 := mxL b f hf h.1
  have h2 := mxB bs f hf h.2
  omega
end
end Go.Proofs.YtlkfakdghjaoaaaGreatDoor

namespace Go.Proofs.YtlkfakdghjaoaaaGreatDoor
open Go.RowKit Go.Sort
theorem step_fit {fr : Fr} {x : Nat × Bool} (hx : x ∈ fr) (hl : fr.length ≤ 9) : OkL [stepI fr x] fr.length := by
 have : (fr.findIdx fun y => decide (y = x)) < fr.length := List.findIdx_lt_length_of_exists ⟨x, hx, by simp⟩
 rw [OkL, OkL]
 unfold stepI
 rw [OkI]
 exact ⟨⟨this, by omega⟩, trivial⟩
section
variable {g : List Bl} {T : Nat → Fr → List It} {U : Nat → Fr → List UInt8}
theorem jump_fit (hv : validB g = true) (hT : Tame g) (IH : ∀ c fr, Rch g [] c → InvOut g c fr → OkOut g c fr → mxD (U c fr) fr.length ≤ 9 → OkL (T c fr) fr.length)
  {n t : Nat} {fr : Fr} (hn : Rch g [] n) (hi : InvIn g n [] fr) (ho : OkIn g n [] fr) (ht : t ∈ nxt g n) (hm : mxD (jumpW g U n t fr) fr.length ≤ 9) : OkL (jumpI g T n t fr) fr.length := by
 have hl : fr.length ≤ 9 := Nat.le_trans (mxD_ge _ _) hm
 unfold jumpW at hm
 unfold jumpI
 split
 ·rename_i h1
  rw [if_pos h1] at hm
  split
  ·rename_i h2; exact step_fit (hi.fwd hv hn ht h1 h2) hl
  ·rename_i h2
   rw [if_neg h2] at hm
   obtain ⟨hr, hp⟩ := bareK_par hv hT hn (mem_bareK.2 ⟨ht, h1, h2⟩)
   exact IH t fr hr (hi.jump hv hr hp) (ho.child hv hr hp) hm
 ·rename_i h1; exact step_fit (hi.back hv hT hn ht h1) hl
theorem letter_let (hv : validB g = true) {n : Nat} (hn : n < g.length) : letB (letC g n) = true := by
 have := let_range hv hn
 unfold letB
 rw [Bool.and_eq_true, decide_eq_true_iff, decide_eq_true_iff]
 exact this
theorem bare_fit (hv : validB g = true) (hT : Tame g) (IH : ∀ c fr, Rch g [] c → InvOut g c fr → OkOut g c fr → mxD (U c fr) fr.length ≤ 9 → OkL (T c fr) fr.length)
  (hTU : ∀ t fr, OkL (T t fr) fr.length → txL (T t fr) = U t fr) {n : Nat} {fr : Fr} (hn : Rch g [] n) (hi : InvIn g n [] fr) (ho : OkIn g n [] fr) (hm : mxD (bareW g U n fr) fr.length ≤ 9) : OkL (bareI g T n fr) fr.length := by
 have hlet := letter_let hv (hn.lt hv)
 have J := fun t (ht : t ∈ nxt g n) (h : mxD (jumpW g U n t fr) fr.length ≤ 9) => jump_fit hv hT IH hn hi ho ht h
 unfold bareW at hm
 unfold bareI
 rcases hx : nxt g n with _ | ⟨t, _ | ⟨u, ts⟩⟩
 ·simp only [OkL, OkI]; exact ⟨hlet, trivial, trivial⟩
 ·rw [hx] at hm J
  simp only at hm ⊢
  rw [mxD_free (free_let hlet)] at hm
  rw [OkL, OkI]
  exact ⟨hlet, J t (by simp) hm⟩
 ·rw [hx] at hm J
  simp only at hm ⊢
  rw [mxD_free (by decide), mxD_free (free_let hlet), mxD_free (by decide), mxD_append] at hm
  have h1 := J t (by simp) (by omega)
  have e1 : fdD (jumpW g U n t fr) fr.length = fr.length := by rw [← jump_text (hTU t fr) h1]; exact fdL _ _ h1 _
  rw [e1, mxD_free (by decide), mxD_free (by decide), mxD_append] at hm
  have h2 := J u (by simp) (by omega)
  simp only [OkL, OkI]
  exact ⟨⟨hlet, h1, h2⟩, trivial⟩
theorem within_fit (hv : validB g = true) (hT : Tame g) (IH : ∀ c fr, Rch g [] c → InvOut g c fr → OkOut g c fr → mxD (U c fr) fr.length ≤ 9 → OkL (T c fr) fr.length)
  (hTU : ∀ t fr, OkL (T t fr) fr.length → txL (T t fr) = U t fr) {n : Nat} (hn : Rch g [] n) :
  ∀ (bs : List Nat) (fr : Fr), (∀ y ∈ bs, y ∈ belowL g n) → bs.Nodup → bs.Pairwise (fun a b => placeN g b < placeN g a) → InvIn g n bs fr → OkIn g n bs fr → mxD (withinW g U n bs fr) fr.length ≤ 9 → OkL (withinI g T n bs fr) fr.length
 | [], fr, _, _, _, hi, ho, hm => bare_fit hv hT IH hTU hn hi ho hm
 | y :: bs, fr, hb, hd, hs, hi, ho, hm => by
  obtain ⟨hr, hmt, hpar⟩ := (mem_belowL hv).1 (hb y (List.mem_cons_self ..))
  have hd' := List.nodup_cons.1 hd
  have e40 : (40 : UInt8) = opn false := rfl
  have e41 : (41 : UInt8) = cls false := rfl
  rw [withinW, e40, e41, mxD_opn, mxD_append] at hm
  have hm1 : mxD (withinW g U n bs ((y, false) :: fr)) ((y, false) :: fr).length ≤ 9 := by rw [List.length_cons]; omega
  have h1 := within_fit hv hT IH hTU hn bs _ (fun z hz => hb z (List.mem_cons_of_mem _ hz)) hd'.2 (List.pairwise_cons.1 hs).2 hi.wrap (ho.wrap hv hr hpar hd'.1) hm1
  have e1 : fdD (withinW g U n bs ((y, false) :: fr)) (fr.length + 1) = fr.length + 1 := by
   rw [← within_text hTU n bs _ h1]; exact fdL _ _ h1 _
  rw [e1, mxD_cls, Nat.add_sub_cancel] at hm
  have h2 := IH y fr hr (hi.child hv hs hr hpar) (ho.child hv hr hpar) (by omega)
  rw [withinI, OkL, OkI]
  exact ⟨⟨by omega, h1⟩, h2⟩
end
theorem tree_fit {g : List Bl} (hv : validB g = true) (hT : Tame g) : ∀ (m n : Nat) (fr : Fr), Rch g [] n → InvOut g n fr → OkOut g n fr → mxD (treeW g m n fr) fr.length ≤ 9 → OkL (treeI g m n fr) fr.length
 | 0, _, _, _, _, _, _ => by rw [treeI, OkL]; trivial
 | m + 1, n, fr, hn, hi, ho, hm => by
  have hs := below_sorted hv n
  have hnd : (belowL g n).Nodup := by
   rw [List.nodup_iff_pairwise_ne]
   exact hs.imp fun hab e => by rw [e] at hab; omega
  have hi' := hi.into hv
  have ho' := ho.into (hn.lt hv)
  rw [treeI]
  rw [treeW] at hm
  split
  ·rename_i hh
   rw [if_pos hh] at hm hi' ho'
   have e1 : (123 : UInt8) = opn true := rfl
   rw [e1, mxD_opn, mxD_append] at hm
   have h1 := within_fit hv hT (tree_fit hv hT m) (tree_text g m) hn _ _ (fun _ h => h) hnd hs hi' ho' (by rw [List.length_cons]; omega)
   have := mxD_ge (withinW g (treeW g m) n (belowL g n) ((n, true) :: fr)) (fr.length + 1)
   rw [OkL, OkI, OkL]
   exact ⟨⟨by omega, h1⟩, trivial⟩
  ·rename_i hh
   rw [if_neg hh] at hm hi' ho'
   exact within_fit hv hT (tree_fit hv hT m) (tree_text g m) hn _ _ (fun _ h => h) hnd hs hi' ho' hm
noncomputable def madeI (g : List Bl) : List It := treeI g (wayOrd g).length 0 []
theorem made_ok {g : List Bl} (hb : madeB g = true) : textOk (madeT g) (madeI g) := by
 have ht := madeB_tame hb
 obtain ⟨hv, hw⟩ := tameB_iff.1 ht
 have hT := tame_of hv hw
 have htb : textB (madeT g) = true := by
  unfold madeB at hb
  rw [Bool.and_eq_true] at hb
  exact hb.2
 obtain ⟨l, hl, hok, he⟩ := textB_get htb
 have hm : mxD (madeT g) 0 ≤ 9 := by rw [he]; exact mxL l 0 (by omega) hok
 have h := tree_fit hv hT (wayOrd g).length 0 [] (.start (by simp)) (invOut_start g) (okOut_start g) hm
 refine ⟨hl, h, ?_⟩
 exact (tree_text g _ _ _ h).symm
end Go.Proofs.YtlkfakdghjaoaaaGreatDoor

namespace Go.Proofs.YtlkfakdghjaoaaaGreatDoor
open Go.RowKit Go.Sort
def oneC (kd x : UInt8) : Nat := if x = kd then 1 else 0
def stepC (g : List Bl) (n t : Nat) : Nat := if placeN g n < placeN g t ∧ t ∉ meetsL g then 0 else 1
def bareC (g : List Bl) (kd : UInt8) (n : Nat) : Nat :=
 match nxt g n with
 | [] => oneC kd 88 + oneC kd 46
 | [t] => oneC kd 88 + stepC g n t * oneC kd 94
 | t :: u :: _ => oneC kd 63 + (stepC g n t + stepC g n u) * oneC kd 94
def ownC (g : List Bl) (kd : UInt8) (n : Nat) : Nat := (if n ∈ headL g then oneC kd 123 else 0) + (belowL g n).length * oneC kd 40 + bareC g kd n
section
variable {g : List Bl} {kd : UInt8} {T : Nat → Fr → List It} {K : Nat → Nat}
theorem cn_jump (h : ∀ c fr, cnL kd (T c fr) = K c) (n t : Nat) (fr : Fr) : cnL kd (jumpI g T n t fr) = stepC g n t * oneC kd 94 + (if placeN g n < placeN g t ∧ t ∉ meetsL g then K t else 0) := by
 have hs : ∀ x, cnL kd [stepI fr x] = oneC kd 94 := fun x => by
  unfold stepI
  rw [cnL, cnL, cnI]
  rfl
 unfold jumpI stepC
 by_cases h1 : placeN g n < placeN g t
 ·rw [if_pos h1]
  by_cases h2 : t ∈ meetsL g
  ·rw [if_pos h2, if_neg (fun q => q.2 h2), if_neg (fun q => q.2 h2), hs]; omega
  ·rw [if_neg h2, if_pos ⟨h1, h2⟩, if_pos ⟨h1, h2⟩, h]; omega
 ·rw [if_neg h1, if_neg (fun q => h1 q.1), if_neg (fun q => h1 q.1), hs]; omega
theorem cn_blk (c : UInt8) : cnI kd (.blk c) = oneC kd 88 := by rw [cnI]; rfl
theorem cn_ask (c : UInt8) (l r : List It) : cnI kd (.ask c l r) = oneC kd 63 + (cnL kd l + cnL kd r) := by rw [cnI]; rfl
theorem cn_bare (hv : validB g = true) (h : ∀ c fr, cnL kd (T c fr) = K c) (n : Nat) (fr : Fr) : cnL kd (bareI g T n fr) = bareC g kd n + ((bareK g n).map K).sum := by
 have h2 := nxt_few hv n
 have hf : ∀ (t : Nat) (l : List Nat), ((((t :: l).filter fun t => decide (placeN g n < placeN g t) && decide (t ∉ meetsL g)).map K).sum : Nat) = (if placeN g n < placeN g t ∧ t ∉ meetsL g then K t else 0) + ((l.filter fun t => decide (placeN g n < placeN g t) && decide (t ∉ meetsL g)).map K).sum := fun t l => by
  rw [List.filter_cons]
  by_cases hc : placeN g n < placeN g t ∧ t ∉ meetsL g
  ·rw [if_pos (by rw [Bool.and_eq_true, decide_eq_true_iff, decide_eq_true_iff]; exact hc), if_pos hc, List.map_cons, List.sum_cons]
  ·rw [if_neg (by rw [Bool.and_eq_true, decide_eq_true_iff, decide_eq_true_iff]; exact hc), if_neg hc, Nat.zero_add]
 unfold bareI bareC bareK
 rcases hx : nxt g n with _ | ⟨t, _ | ⟨u, _ | ⟨x, ts⟩⟩⟩
 ·show cnL kd [It.blk (letC g n), It.stop] = _
  rw [cnL, cnL, cnL, cnI, cnI]
  rfl
 ·simp only
  rw [cnL, cn_jump h, hf, cn_blk]
  simp only [List.filter_nil, List.map_nil, List.sum_nil]
  omega
 ·simp only
  rw [cnL, cn_ask, cn_jump h, cn_jump h, hf, hf, cnL, Nat.add_mul]
  simp only [List.filter_nil, List.map_nil, List.sum_nil]
  omega
 ·rw [hx] at h2
  simp only [List.length_cons] at h2
  omega
theorem cn_within (hv : validB g = true) (h : ∀ c fr, cnL kd (T c fr) = K c) (n : Nat) : ∀ (bs : List Nat) (fr : Fr), cnL kd (withinI g T n bs fr) = bs.length * oneC kd 40 + bareC g kd n + ((bs ++ bareK g n).map K).sum
 | [], fr => by
  rw [withinI, cn_bare hv h]
  simp
 | y :: bs, fr => by
  rw [withinI, cnL, cnI, cn_within hv h n bs, h, List.cons_append, List.map_cons, List.sum_cons, List.length_cons, Nat.add_mul]
  have : (if kdI (.frame false (withinI g T n bs ((y, false) :: fr))) = kd then 1 else 0) = oneC kd 40 := rfl
  rw [this]
  omega
end
theorem sum_flat {α : Type} (f : Nat → List α) (k : α → Nat) : ∀ l : List Nat, ((l.flatMap f).map k).sum = (l.map fun c => ((f c).map k).sum).sum
 | [] => rfl
 | a :: l => by rw [List.flatMap_cons, List.map_append, List.sum_append, sum_flat f k l, List.map_cons, List.sum_cons]
theorem cn_tree {g : List Bl} (hv : validB g = true) (kd : UInt8) : ∀ (m n : Nat) (fr : Fr), cnL kd (treeI g m n fr) = ((keysW g m n).map (ownC g kd)).sum
 | 0, _, _ => by rw [treeI, cnL]; rfl
 | m + 1, n, fr => by
  have hw : ∀ fr, cnL kd (withinI g (treeI g m) n (belowL g n) fr) = (belowL g n).length * oneC kd 40 + bareC g kd n + ((visK g n).map fun c => ((keysW g m c).map (ownC g kd)).sum).sum := fun fr => by
   rw [cn_within hv (K := fun c => ((keysW g m c).map (ownC g kd)).sum) (cn_tree hv kd m)]
   rfl
  rw [treeI, keysW, List.map_append, List.sum_append, sum_flat]
  have hown : ((([n] : List Nat).map (ownC g kd)).sum : Nat) = ownC g kd n := by simp
  rw [hown]
  have hoe : ownC g kd n = (if n ∈ headL g then oneC kd 123 else 0) + (belowL g n).length * oneC kd 40 + bareC g kd n := rfl
  rw [hoe]
  split
  ·rw [cnL, cnI, hw, cnL]
   have : (if kdI (.frame true (withinI g (treeI g m) n (belowL g n) ((n, true) :: fr))) = kd then 1 else 0) = oneC kd 123 := rfl
   rw [this]
   omega
  ·rw [hw]; omega
theorem keys_perm {g : List Bl} (ht : tameB g = true) : (keysW g (wayOrd g).length 0).Perm (wayOrd g) := by
 obtain ⟨hv, hw⟩ := tameB_iff.1 ht
 have hT := tame_of hv hw
 have h0 : Rch g [] 0 := .start (by simp)
 refine (List.perm_ext_iff_of_nodup (keys_nodup hv hT _ _ h0) (wayOrd_nodup hv)).2 fun x => ⟨fun h => ?_, fun h => ?_⟩
 ·exact (mem_wayOrd hv).2 (keys_dom hv hT _ _ h0 x h).1
 ·exact keys_all hv hT _ 0 h0 (by omega) x ((mem_wayOrd hv).1 h) (.entry g x)
theorem made_count {g : List Bl} (hb : madeB g = true) (kd : UInt8) : cnL kd (madeI g) = ((wayOrd g).map (ownC g kd)).sum := by
 have ht := madeB_tame hb
 unfold madeI
 rw [cn_tree (tameB_iff.1 ht).1]
 exact ((keys_perm ht).map _).sum_nat
end Go.Proofs.YtlkfakdghjaoaaaGreatDoor

namespace Go.Proofs.YtlkfakdghjaoaaaGreatDoor
open Go.RowKit Go.Sort
theorem bareC_zero {g : List Bl} {kd : UInt8} (h : kd ≠ 88 ∧ kd ≠ 46 ∧ kd ≠ 63 ∧ kd ≠ 94) (n : Nat) : bareC g kd n = 0 := by
 have e1 : oneC kd 88 = 0 := if_neg fun e => h.1 e.symm
 have e2 : oneC kd 46 = 0 := if_neg fun e => h.2.1 e.symm
 have e3 : oneC kd 63 = 0 := if_neg fun e => h.2.2.1 e.symm
 have e4 : oneC kd 94 = 0 := if_neg fun e => h.2.2.2 e.symm
 unfold bareC
 rw [e1, e2, e3, e4]
 split <;> rfl
theorem sum_one {p : Nat → Prop} [DecidablePred p] : ∀ l : List Nat, (l.map fun n => if p n then 1 else 0).sum = (l.filter fun n => decide (p n)).length
 | [] => rfl
 | a :: l => by
  rw [List.map_cons, List.sum_cons, sum_one l, List.filter_cons]
  by_cases h : p a
  ·rw [if_pos h, if_pos (by simpa using h), List.length_cons]; omega
  ·rw [if_neg h, if_neg (by simpa using h)]; omega
theorem len_ext {a b : List Nat} (ha : a.Nodup) (hb : b.Nodup) (h : ∀ x, x ∈ a ↔ x ∈ b) : a.length = b.length := ((List.perm_ext_iff_of_nodup ha hb).2 h).length_eq
theorem goal_nodup (g : List Bl) (m : Nat) (K : Nat → Bool) : (goalL g m K).Nodup := List.Pairwise.filter _ (List.Pairwise.filter _ List.nodup_range)
theorem goal_live {g : List Bl} (hv : validB g = true) {m : Nat} {K : Nat → Bool} {t : Nat} (h : t ∈ goalL g m K) : Rch g [] t := (mem_reachS' hv).1 (List.mem_filter.1 h).1
theorem sum_owner {f : Nat → Option Nat} {l : List Nat} (hl : l.Nodup) : ∀ W : List Nat, (∀ w ∈ W, ∃ k ∈ l, f w = some k) → (l.map fun k => (W.filter fun w => decide (f w = some k)).length).sum = W.length
 | [], _ => by
  have : ∀ l : List Nat, (l.map fun k => (([] : List Nat).filter fun w => decide (f w = some k)).length).sum = 0 := fun l => by
   induction l with
   | nil => rfl
   | cons a l ih => rw [List.map_cons, List.sum_cons, ih]; rfl
  exact this l
 | w :: W, h => by
  obtain ⟨k, hk, hf⟩ := h w (List.mem_cons_self ..)
  have ih := sum_owner hl W fun x hx => h x (List.mem_cons_of_mem _ hx)
  have key : ∀ l : List Nat, (l.map fun k => ((w :: W).filter fun w => decide (f w = some k)).length).sum = (l.filter fun j => decide (f w = some j)).length + (l.map fun k => (W.filter fun w => decide (f w = some k)).length).sum := fun l => by
   induction l with
   | nil => rfl
   | cons a l ihl =>
    rw [List.map_cons, List.sum_cons, ihl, List.map_cons, List.sum_cons, List.filter_cons, List.filter_cons]
    by_cases e : f w = some a
    ·rw [if_pos (by simpa using e), if_pos (by simpa using e), List.length_cons, List.length_cons]; omega
    ·rw [if_neg (by simpa using e), if_neg (by simpa using e)]; omega
  rw [key, ih, List.length_cons]
  have h1 : (l.filter fun j => decide (f w = some j)).length = [k].length := by
   refine len_ext (hl.filter _) (by simp) fun x => ?_
   rw [List.mem_filter, decide_eq_true_iff, hf, List.mem_singleton]
   constructor
   ·rintro ⟨_, e⟩; injection e with e; exact e.symm
   ·rintro rfl; exact ⟨hk, rfl⟩
  rw [h1, List.length_singleton]; omega
theorem sum_below {g : List Bl} (hv : validB g = true) : ((wayOrd g).map fun n => (belowL g n).length).sum = (meetsL g).length := by
 have hW : ((wayOrd g).filter fun c => decide (c ∈ meetsL g)).length = (meetsL g).length := by
  refine len_ext ((wayOrd_nodup hv).filter _) (goal_nodup g _ _) fun x => ?_
  rw [List.mem_filter, decide_eq_true_iff, mem_wayOrd hv]
  exact ⟨fun h => h.2, fun h => ⟨meets_live hv h, h⟩⟩
 rw [← hW, ← sum_owner (f := parL g) (wayOrd_nodup hv) ((wayOrd g).filter fun c => decide (c ∈ meetsL g)) ?_]
 ·refine congrArg List.sum (List.map_congr_left fun n _ => ?_)
  unfold belowL
  rw [List.length_reverse, List.filter_filter]
  refine congrArg List.length (List.filter_congr fun c _ => ?_)
  rw [Bool.and_comm]
 ·intro w hw
  rw [List.mem_filter, decide_eq_true_iff] at hw
  have hr := meets_live hv hw.2
  have h0 : w ≠ 0 := fun e => by
   have := (List.mem_filter.1 hw.2).2
   rw [decide_eq_true_iff] at this
   subst e
   have h2 : (srcL g fwdK 0).length = 0 := by rw [← fwd_count hv 0, place_entry hv]; rfl
   omega
  obtain ⟨p, hp⟩ := par_some hv hr h0
  exact ⟨p, (mem_wayOrd hv).2 hp.2.1, (parL_iff hv hr).2 hp⟩
theorem made_big {g : List Bl} (hb : madeB g = true) : cnL 40 (madeI g) = (meetsL g).length := by
 have hv := (tameB_iff.1 (madeB_tame hb)).1
 rw [made_count hb, ← sum_below hv]
 refine congrArg List.sum (List.map_congr_left fun n _ => ?_)
 unfold ownC
 rw [bareC_zero (by decide)]
 have e1 : oneC 40 123 = 0 := rfl
 have e2 : oneC 40 40 = 1 := rfl
 rw [e1, e2]
 split <;> omega
theorem made_small {g : List Bl} (hb : madeB g = true) : cnL 123 (madeI g) = (headL g).length := by
 have hv := (tameB_iff.1 (madeB_tame hb)).1
 have e : (headL g).length = ((wayOrd g).filter fun n => decide (n ∈ headL g)).length := by
  refine len_ext (goal_nodup g _ _) ((wayOrd_nodup hv).filter _) fun x => ?_
  rw [List.mem_filter, decide_eq_true_iff, mem_wayOrd hv]
  exact ⟨fun h => ⟨goal_live hv h, h⟩, fun h => h.2⟩
 rw [made_count hb, e, ← sum_one]
 refine congrArg List.sum (List.map_congr_left fun n _ => ?_)
 unfold ownC
 rw [bareC_zero (by decide)]
 have e1 : oneC 123 123 = 1 := rfl
 have e2 : oneC 123 40 = 0 := rfl
 rw [e1, e2]
 omega
end Go.Proofs.YtlkfakdghjaoaaaGreatDoor

namespace Go.Proofs.YtlkfakdghjaoaaaGreatDoor
open Go.RowKit Go.Sort
mutual
theorem lenI : ∀ i : It, cnI 35 i = 0 → cnI 61 i = 0 → (txI i).length = cnI 88 i + cnI 46 i + 6 * cnI 63 i + 2 * (cnI 40 i + cnI 123 i + cnI 94 i)
 | .blk c, _, _ => by rw [txI]; simp [cnI, kdI]
 | .ask c l r, h1, h2 => by
  rw [cnI] at h1 h2
  have a := lenL l (by omega) (by omega)
  have b := lenL r (by omega) (by omega)
  rw [txI]
  simp only [cnI, kdI, List.length_cons, List.length_append, List.length_nil, a, b]
  simp
  omega
 | .stop, _, _ => by rw [txI]; simp [cnI, kdI]
 | .frame b l, h1, h2 => by
  rw [cnI] at h1 h2
  have a := lenL l (by omega) (by omega)
  rw [txI]
  cases b
  ·simp only [cnI, kdI, opn, List.length_cons, List.length_append, List.length_nil, a]
   simp
   omega
  ·simp only [cnI, kdI, opn, List.length_cons, List.length_append, List.length_nil, a]
   simp
   omega
 | .leave n, _, _ => by rw [txI]; simp [cnI, kdI]
 | .set n, _, h2 => by rw [cnI] at h2; simp [kdI] at h2
 | .pick bs, h1, _ => by rw [cnI] at h1; simp [kdI] at h1
theorem lenL : ∀ l : List It, cnL 35 l = 0 → cnL 61 l = 0 → (txL l).length = cnL 88 l + cnL 46 l + 6 * cnL 63 l + 2 * (cnL 40 l + cnL 123 l + cnL 94 l)
 | [], _, _ => rfl
 | i :: l, h1, h2 => by
  rw [cnL] at h1 h2
  have a := lenI i (by omega) (by omega)
  have b := lenL l (by omega) (by omega)
  rw [txL, List.length_append, a, b, cnL, cnL, cnL, cnL, cnL, cnL]
  omega
end
def sizeB (g : List Bl) (n : Nat) : Nat := match nxt g n with | [] => 2 | [_] => 1 | _ => 6
theorem made_len {g : List Bl} (hb : madeB g = true) : (madeT g).length = 2 * ((meetsL g).length + (headL g).length + cnL 94 (madeI g)) + ((wayOrd g).map (sizeB g)).sum := by
 have hv := (tameB_iff.1 (madeB_tame hb)).1
 have none : ∀ kd : UInt8, oneC kd 123 = 0 → oneC kd 40 = 0 → (∀ n, bareC g kd n = 0) → cnL kd (madeI g) = 0 := fun kd h1 h2 h3 => by
  rw [made_count hb]
  have : ∀ l : List Nat, (l.map (ownC g kd)).sum = 0 := fun l => by
   induction l with
   | nil => rfl
   | cons a l ih =>
    rw [List.map_cons, List.sum_cons, ih]
    unfold ownC
    rw [h1, h2, h3]
    split <;> rfl
  exact this _
 have h35 := none 35 rfl rfl (bareC_zero (by decide))
 have h61 := none 61 rfl rfl (bareC_zero (by decide))
 rw [(made_ok hb).2.2, lenL _ h35 h61, made_big hb, made_small hb]
 have hk : cnL 88 (madeI g) + cnL 46 (madeI g) + 6 * cnL 63 (madeI g) = ((wayOrd g).map (sizeB g)).sum := by
  rw [made_count hb, made_count hb, made_count hb]
  have : ∀ l : List Nat, (l.map (ownC g 88)).sum + (l.map (ownC g 46)).sum + 6 * (l.map (ownC g 63)).sum = (l.map (sizeB g)).sum := fun l => by
   induction l with
   | nil => rfl
   | cons a l ih =>
    rw [List.map_cons, List.sum_cons, List.map_cons, List.sum_cons, List.map_cons, List.sum_cons, List.map_cons, List.sum_cons]
    have : ownC g 88 a + ownC g 46 a + 6 * ownC g 63 a = sizeB g a := by
     have e : ∀ kd, oneC kd 123 = 0 → oneC kd 40 = 0 → ownC g kd a = bareC g kd a := fun kd h1 h2 => by
      unfold ownC
      rw [h1, h2]
      split <;> omega
     rw [e 88 rfl rfl, e 46 rfl rfl, e 63 rfl rfl]
     have hh := nxt_few hv a
     have z1 : oneC 88 88 = 1 := rfl
     have z2 : oneC 88 46 = 0 := rfl
     have z3 : oneC 88 63 = 0 := rfl
     have z4 : oneC 88 94 = 0 := rfl
     have y1 : oneC 46 88 = 0 := rfl
     have y2 : oneC 46 46 = 1 := rfl
     have y3 : oneC 46 63 = 0 := rfl
     have y4 : oneC 46 94 = 0 := rfl
     have x1 : oneC 63 88 = 0 := rfl
     have x2 : oneC 63 46 = 0 := rfl
     have x3 : oneC 63 63 = 1 := rfl
     have x4 : oneC 63 94 = 0 := rfl
     unfold bareC sizeB
     rw [z1, z2, z3, z4, y1, y2, y3, y4, x1, x2, x3, x4]
     rcases hx : nxt g a with _ | ⟨t, _ | ⟨u, ts⟩⟩
     ·rfl
     ·simp only; omega
     ·simp only; omega
    omega
  exact this _
 omega
end Go.Proofs.YtlkfakdghjaoaaaGreatDoor

namespace Go.Proofs.YtlkfakdghjaoaaaGreatDoor
open Go.RowKit Go.Sort
end Go.Proofs.YtlkfakdghjaoaaaGreatDoor
