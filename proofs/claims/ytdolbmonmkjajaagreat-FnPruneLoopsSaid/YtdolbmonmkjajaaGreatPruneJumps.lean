/-
  The way order, jumps, headers and loops when blocks that are not reached are left out: plain facts.
-/
import Derived.Test.YtdolbmonmkjajaaGreatLoopMath
import Derived.Test.YtdolbmonmkjajaaGreatPruneDom
namespace Go.Proofs.YtdolbmonmkjajaaGreat
open Go.RowKit Go.Sort

theorem placeIn_map {f : Nat → Nat} {x : Nat} : ∀ {l : List Nat}, (∀ y ∈ l, f y = f x → y = x) → placeIn (l.map f) (f x) = placeIn l x
  | [], _ => rfl
  | y :: l, h => by
    rw [List.map_cons, placeIn_cons, placeIn_cons, placeIn_map fun z hz => h z (List.mem_cons_of_mem _ hz)]
    by_cases e : y = x
    · rw [if_pos e, if_pos (by rw [e])]
    · rw [if_neg e, if_neg fun q => e (h y (by simp) q)]

section
variable {g : List Bl}

theorem prune_place (hv : validB g = true) {j : Nat} (hj : j < (reachS g).length) : placeN g (rho g j) = placeN (pruneG g) j := by
  unfold placeN
  rw [prune_order hv]
  exact placeIn_map fun y hy e => rho_inj (order_left hv y hy) hj e

theorem prune_kind (hv : validB g = true) {i t : Nat} (hi : i < (reachS g).length) (ht : t < (reachS g).length) : kindN g (rho g i) (rho g t) = kindN (pruneG g) i t := by
  unfold kindN
  rw [prune_place hv hi, prune_place hv ht, prune_dmB hv ht hi]

def rho2 (g : List Bl) (j : Nat × Nat) : Nat × Nat := (rho g j.1, rho g j.2)

theorem prune_jumps (hv : validB g = true) (K : Nat → Bool) : jumpL g K = (jumpL (pruneG g) K).map (rho2 g) := by
  unfold jumpL
  rw [prune_order hv, List.map_flatMap, List.flatMap_map]
  have : ∀ i ∈ wayOrd (pruneG g), jumpsOf1 g K (rho g i) = (jumpsOf1 (pruneG g) K i).map (rho2 g) := fun i hi => by
    have hil := order_left hv i hi
    unfold jumpsOf1
    rw [← prune_nxts hv hil, List.filter_map, List.map_map, List.map_map]
    have hc : (nxt (pruneG g) i).filter ((fun t => K (kindN g (rho g i) t)) ∘ rho g) = (nxt (pruneG g) i).filter fun t => K (kindN (pruneG g) i t) := List.filter_congr fun t ht => by
      show K (kindN g (rho g i) (rho g t)) = _
      rw [prune_kind hv hil (prune_lt hv hil ht)]
    rw [hc]
    exact List.map_congr_left fun t _ => rfl
  rw [List.flatMap_def, List.flatMap_def, List.map_congr_left this]

theorem prune_src (hv : validB g = true) (K : Nat → Bool) {t : Nat} (ht : t < (reachS g).length) : srcL g K (rho g t) = (srcL (pruneG g) K t).map (rho g) := by
  unfold srcL
  rw [reachS_map hv, List.filter_map]
  congr 1
  refine List.filter_congr fun i hi => ?_
  have hil : i < (reachS g).length := by
    rw [prune_reachS hv, pruneG_length] at hi; exact List.mem_range.1 hi
  show (decide (rho g t ∈ nxt g (rho g i)) && K (kindN g (rho g i) (rho g t))) = _
  rw [prune_kind hv hil ht, ← prune_nxts hv hil]
  congr 1
  rw [decide_eq_decide, List.mem_map]
  constructor
  · rintro ⟨s, hs, e⟩
    rw [← rho_inj (prune_lt hv hil hs) ht e]; exact hs
  · exact fun h => ⟨t, h, rfl⟩

theorem src_left (_hv : validB g = true) (K : Nat → Bool) (t : Nat) : ∀ i ∈ srcL (pruneG g) K t, i < (reachS g).length := fun i hi => by
  have := srcL_lt K t i hi
  rwa [pruneG_length] at this

theorem prune_goals (hv : validB g = true) (m : Nat) (K : Nat → Bool) : goalL g m K = (goalL (pruneG g) m K).map (rho g) := by
  unfold goalL
  rw [reachS_map hv, List.filter_map]
  congr 1
  refine List.filter_congr fun t ht => ?_
  have htl : t < (reachS g).length := by
    rw [prune_reachS hv, pruneG_length] at ht; exact List.mem_range.1 ht
  show decide (m ≤ (srcL g K (rho g t)).length) = _
  rw [prune_src hv K htl, List.length_map]

theorem prune_heads (hv : validB g = true) : headL g = (headL (pruneG g)).map (rho g) := prune_goals hv 1 backK

theorem prune_fol (hv : validB g = true) {h x : Nat} (hh : h < (reachS g).length) (hx : x < (reachS g).length) : folL g (rho g h) (rho g x) = (folL (pruneG g) h x).map (rho g) := by
  unfold folL
  by_cases e : x = h
  · rw [if_pos (by rw [e]), if_pos e]; rfl
  · rw [if_neg fun q => e (rho_inj hx hh q), if_neg e, prune_src hv allK hx]

theorem prune_found (hv : validB g = true) {h x : Nat} (hh : h < (reachS g).length) (hx : x < (reachS g).length) :
    FoundBy (folL g (rho g h)) (srcL g tameK (rho g h) ++ [rho g h]) (rho g x) ↔ FoundBy (folL (pruneG g) h) (srcL (pruneG g) tameK h ++ [h]) x := by
  constructor
  · intro k
    obtain ⟨y, hy⟩ : ∃ y, y = rho g x := ⟨_, rfl⟩
    rw [← hy] at k
    have : ∃ z, z < (reachS g).length ∧ y = rho g z ∧ FoundBy (folL (pruneG g) h) (srcL (pruneG g) tameK h ++ [h]) z := by
      clear hy hx
      induction k with
      | @start i hi =>
        rcases List.mem_append.1 hi with q | q
        · rw [prune_src hv tameK hh] at q
          obtain ⟨z, hz, e⟩ := List.mem_map.1 q
          exact ⟨z, src_left hv _ _ z hz, e.symm, .start (List.mem_append_left _ hz)⟩
        · exact ⟨h, hh, List.mem_singleton.1 q, .start (by simp)⟩
      | @step i t _ hn ih =>
        obtain ⟨z, hz, e, hf⟩ := ih
        rw [e, prune_fol hv hh hz] at hn
        obtain ⟨u, hu, eu⟩ := List.mem_map.1 hn
        refine ⟨u, ?_, eu.symm, .step hf hu⟩
        have := folL_lt h z u hu
        rwa [pruneG_length] at this
    obtain ⟨z, hz, e, hf⟩ := this
    rw [hy] at e
    rw [rho_inj hx hz e]; exact hf
  · intro k
    have : x < (reachS g).length ∧ FoundBy (folL g (rho g h)) (srcL g tameK (rho g h) ++ [rho g h]) (rho g x) := by
      clear hx
      induction k with
      | @start i hi =>
        rcases List.mem_append.1 hi with q | q
        · exact ⟨src_left hv _ _ i q, .start (List.mem_append_left _ (by rw [prune_src hv tameK hh]; exact List.mem_map.2 ⟨i, q, rfl⟩))⟩
        · rw [List.mem_singleton.1 q]; exact ⟨hh, .start (by simp)⟩
      | @step i t _ hn ih =>
        have htl := folL_lt h i t hn
        rw [pruneG_length] at htl
        exact ⟨htl, .step ih.2 (by rw [prune_fol hv hh ih.1]; exact List.mem_map.2 ⟨t, hn, rfl⟩)⟩
    exact this.2

theorem loop_reach (hv : validB g = true) {h : Nat} (hr : Rch g [] h) : loopL g h = (reachS g).filter fun x => decide (x ∈ loopL g h) := by
  have e : ∀ x, decide (x ∈ loopL g h) = decide (x ∈ spread (folL g h) (srcL g tameK h ++ [h]) g.length) ∨ ¬ x < g.length := fun x => by
    by_cases hx : x < g.length
    · left
      rw [decide_eq_decide]
      unfold loopL srt
      rw [List.mem_filter, List.mem_range, decide_eq_true_iff]
      exact ⟨fun q => q.2, fun q => ⟨hx, q⟩⟩
    · exact .inr hx
  unfold reachS
  rw [List.filter_filter]
  show srt g _ g.length = _
  unfold srt
  refine List.filter_congr fun x hx => ?_
  have hxl := List.mem_range.1 hx
  rcases e x with q | q
  · rw [← q]
    cases hd : decide (x ∈ loopL g h)
    · rfl
    · have := loop_live hv hr (of_decide_eq_true hd)
      rw [decide_eq_true ((mem_reach hv).2 this)]; rfl
  · exact absurd hxl q

theorem prune_loop (hv : validB g = true) {h : Nat} (hh : h < (reachS g).length) : loopL g (rho g h) = (loopL (pruneG g) h).map (rho g) := by
  have hpv := prune_valid hv
  rw [loop_reach hv (rho_live hv hh), loop_reach hpv (prune_live hv hh)]
  rw [reachS_map hv, List.filter_map]
  congr 1
  refine List.filter_congr fun x hx => ?_
  have hxl : x < (reachS g).length := by
    rw [prune_reachS hv, pruneG_length] at hx; exact List.mem_range.1 hx
  show decide (rho g x ∈ loopL g (rho g h)) = _
  rw [decide_eq_decide, mem_loopL (rho_lt hh), mem_loopL (by rw [pruneG_length]; exact hh)]
  exact prune_found hv hh hxl

theorem loop_left (_hv : validB g = true) (h : Nat) : ∀ i ∈ loopL (pruneG g) h, i < (reachS g).length := fun i hi => by
  have := loopL_lt h i hi
  rwa [pruneG_length] at this
theorem head_left (_hv : validB g = true) : ∀ i ∈ headL (pruneG g), i < (reachS g).length := fun i hi => by
  have := goalL_lt 1 backK i hi
  rwa [pruneG_length] at this
end
end Go.Proofs.YtdolbmonmkjajaaGreat
