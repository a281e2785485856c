import Derived.Test.YtlkfakdghjaoaaaGreatDoorMadeDepth
namespace Go.Proofs.YtlkfakdghjaoaaaGreatDoor
open Go.RowKit Go.Sort
theorem step_fit {fr : Fr} {x : Nat × Bool} (hx : x ∈ fr) (hl : fr.length ≤ 9) : OkL [stepI fr x] fr.length := by
 have : (fr.findIdx fun y => decide (y = x)) < fr.length := List.findIdx_lt_length_of_exists ⟨x, hx, by simp⟩
 rw [OkL, OkL]
 unfold stepI
 rw [OkI]
 exact ⟨⟨this, by omega⟩, trivial⟩
section
variable {g : List Bl} {T : Nat → Fr → List It} {U : Nat → Fr → List UInt8}
theorem jump_fit (hv : validB g = true) (hT : Tame g) (IH : ∀ c fr, Rch g [] c → InvOut g c fr → OkOut g c fr → mxD (U c fr) fr.length ≤ 9 → OkL (T c fr) fr.length)
  {n t : Nat} {fr : Fr} (hn : Rch g [] n) (hi : InvIn g n [] fr) (ho : OkIn g n [] fr) (ht : t ∈ nxt g n) (hm : mxD (jumpW g U n t fr) fr.length ≤ 9) : OkL (jumpI g T n t fr) fr.length := by
 have hl : fr.length ≤ 9 := Nat.le_trans (mxD_ge _ _) hm
 unfold jumpW at hm
 unfold jumpI
 split
 ·rename_i h1
  rw [if_pos h1] at hm
  split
  ·rename_i h2; exact step_fit (hi.fwd hv hn ht h1 h2) hl
  ·rename_i h2
   rw [if_neg h2] at hm
   obtain ⟨hr, hp⟩ := bareK_par hv hT hn (mem_bareK.2 ⟨ht, h1, h2⟩)
   exact IH t fr hr (hi.jump hv hr hp) (ho.child hv hr hp) hm
 ·rename_i h1; exact step_fit (hi.back hv hT hn ht h1) hl
theorem letter_let (hv : validB g = true) {n : Nat} (hn : n < g.length) : letB (letC g n) = true := by
 have := let_range hv hn
 unfold letB
 rw [Bool.and_eq_true, decide_eq_true_iff, decide_eq_true_iff]
 exact this
theorem bare_fit (hv : validB g = true) (hT : Tame g) (IH : ∀ c fr, Rch g [] c → InvOut g c fr → OkOut g c fr → mxD (U c fr) fr.length ≤ 9 → OkL (T c fr) fr.length)
  (hTU : ∀ t fr, OkL (T t fr) fr.length → txL (T t fr) = U t fr) {n : Nat} {fr : Fr} (hn : Rch g [] n) (hi : InvIn g n [] fr) (ho : OkIn g n [] fr) (hm : mxD (bareW g U n fr) fr.length ≤ 9) : OkL (bareI g T n fr) fr.length := by
 have hlet := letter_let hv (hn.lt hv)
 have J := fun t (ht : t ∈ nxt g n) (h : mxD (jumpW g U n t fr) fr.length ≤ 9) => jump_fit hv hT IH hn hi ho ht h
 unfold bareW at hm
 unfold bareI
 rcases hx : nxt g n with _ | ⟨t, _ | ⟨u, ts⟩⟩
 ·simp only [OkL, OkI]; exact ⟨hlet, trivial, trivial⟩
 ·rw [hx] at hm J
  simp only at hm ⊢
  rw [mxD_free (free_let hlet)] at hm
  rw [OkL, OkI]
  exact ⟨hlet, J t (by simp) hm⟩
 ·rw [hx] at hm J
  simp only at hm ⊢
  rw [mxD_free (by decide), mxD_free (free_let hlet), mxD_free (by decide), mxD_append] at hm
  have h1 := J t (by simp) (by omega)
  have e1 : fdD (jumpW g U n t fr) fr.length = fr.length := by rw [← jump_text (hTU t fr) h1]; exact fdL _ _ h1 _
  rw [e1, mxD_free (by decide), mxD_free (by decide), mxD_append] at hm
  have h2 := J u (by simp) (by omega)
  simp only [OkL, OkI]
  exact ⟨⟨hlet, h1, h2⟩, trivial⟩
theorem within_fit (hv : validB g = true) (hT : Tame g) (IH : ∀ c fr, Rch g [] c → InvOut g c fr → OkOut g c fr → mxD (U c fr) fr.length ≤ 9 → OkL (T c fr) fr.length)
  (hTU : ∀ t fr, OkL (T t fr) fr.length → txL (T t fr) = U t fr) {n : Nat} (hn : Rch g [] n) :
  ∀ (bs : List Nat) (fr : Fr), (∀ y ∈ bs, y ∈ belowL g n) → bs.Nodup → bs.Pairwise (fun a b => placeN g b < placeN g a) → InvIn g n bs fr → OkIn g n bs fr → mxD (withinW g U n bs fr) fr.length ≤ 9 → OkL (withinI g T n bs fr) fr.length
 | [], fr, _, _, _, hi, ho, hm => bare_fit hv hT IH hTU hn hi ho hm
 | y :: bs, fr, hb, hd, hs, hi, ho, hm => by
  obtain ⟨hr, hmt, hpar⟩ := (mem_belowL hv).1 (hb y (List.mem_cons_self ..))
  have hd' := List.nodup_cons.1 hd
  have e40 : (40 : UInt8) = opn false := rfl
  have e41 : (41 : UInt8) = cls false := rfl
  rw [withinW, e40, e41, mxD_opn, mxD_append] at hm
  have hm1 : mxD (withinW g U n bs ((y, false) :: fr)) ((y, false) :: fr).length ≤ 9 := by rw [List.length_cons]; omega
  have h1 := within_fit hv hT IH hTU hn bs _ (fun z hz => hb z (List.mem_cons_of_mem _ hz)) hd'.2 (List.pairwise_cons.1 hs).2 hi.wrap (ho.wrap hv hr hpar hd'.1) hm1
  have e1 : fdD (withinW g U n bs ((y, false) :: fr)) (fr.length + 1) = fr.length + 1 := by
   rw [← within_text hTU n bs _ h1]; exact fdL _ _ h1 _
  rw [e1, mxD_cls, Nat.add_sub_cancel] at hm
  have h2 := IH y fr hr (hi.child hv hs hr hpar) (ho.child hv hr hpar) (by omega)
  rw [withinI, OkL, OkI]
  exact ⟨⟨by omega, h1⟩, h2⟩
end
theorem tree_fit {g : List Bl} (hv : validB g = true) (hT : Tame g) : ∀ (m n : Nat) (fr : Fr), Rch g [] n → InvOut g n fr → OkOut g n fr → mxD (treeW g m n fr) fr.length ≤ 9 → OkL (treeI g m n fr) fr.length
 | 0, _, _, _, _, _, _ => by rw [treeI, OkL]; trivial
 | m + 1, n, fr, hn, hi, ho, hm => by
  have hs := below_sorted hv n
  have hnd : (belowL g n).Nodup := by
   rw [List.nodup_iff_pairwise_ne]
   exact hs.imp fun hab e => by rw [e] at hab; omega
  have hi' := hi.into hv
  have ho' := ho.into (hn.lt hv)
  rw [treeI]
  rw [treeW] at hm
  split
  ·rename_i hh
   rw [if_pos hh] at hm hi' ho'
   have e1 : (123 : UInt8) = opn true := rfl
   rw [e1, mxD_opn, mxD_append] at hm
   have h1 := within_fit hv hT (tree_fit hv hT m) (tree_text g m) hn _ _ (fun _ h => h) hnd hs hi' ho' (by rw [List.length_cons]; omega)
   have := mxD_ge (withinW g (treeW g m) n (belowL g n) ((n, true) :: fr)) (fr.length + 1)
   rw [OkL, OkI, OkL]
   exact ⟨⟨by omega, h1⟩, trivial⟩
  ·rename_i hh
   rw [if_neg hh] at hm hi' ho'
   exact within_fit hv hT (tree_fit hv hT m) (tree_text g m) hn _ _ (fun _ h => h) hnd hs hi' ho' hm
noncomputable def madeI (g : List Bl) : List It := treeI g (wayOrd g).length 0 []
theorem made_ok {g : List Bl} (hb : madeB g = true) : textOk (madeT g) (madeI g) := by
 have ht := madeB_tame hb
 obtain ⟨hv, hw⟩ := tameB_iff.1 ht
 have hT := tame_of hv hw
 have htb : textB (madeT g) = true := by
  unfold madeB at hb
  rw [Bool.and_eq_true] at hb
  exact hb.2
 obtain ⟨l, hl, hok, he⟩ := textB_get htb
 have hm : mxD (madeT g) 0 ≤ 9 := by rw [he]; exact mxL l 0 (by omega) hok
 have h := tree_fit hv hT (wayOrd g).length 0 [] (.start (by simp)) (invOut_start g) (okOut_start g) hm
 refine ⟨hl, h, ?_⟩
 exact (tree_text g _ _ _ h).symm
end Go.Proofs.YtlkfakdghjaoaaaGreatDoor
