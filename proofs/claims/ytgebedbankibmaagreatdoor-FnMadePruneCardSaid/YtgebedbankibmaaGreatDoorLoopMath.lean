/-
  Loops and the way order, more plain facts: forward jumps to each block, what dominates comes ahead, loops lie within each other.
-/
import Derived.Test.YtgebedbankibmaaGreatDoorKinds
import Derived.Test.YtgebedbankibmaaGreatDoorKids
namespace Go.Proofs.YtgebedbankibmaaGreatDoor
theorem placeIn_cons (c : Nat) (l : List Nat) (x : Nat) : placeIn (c :: l) x = if c = x then 0 else placeIn l x + 1 := by
  unfold placeIn
  rw [List.findIdx_cons]
  by_cases h : c = x
  · rw [if_pos h, decide_eq_true h]; rfl
  · rw [if_neg h, decide_eq_false h]; rfl

theorem sub_place {a b : Nat} : ∀ {l : List Nat}, l.Nodup → [a, b].Sublist l → placeIn l a < placeIn l b
  | [], _, h => by cases h
  | c :: l, hn, h => by
    obtain ⟨hc, hl⟩ := List.nodup_cons.1 hn
    rw [placeIn_cons, placeIn_cons]
    cases h with
    | cons _ h =>
      have ha : c ≠ a := fun e => hc (e ▸ h.subset (by simp))
      have hb : c ≠ b := fun e => hc (e ▸ h.subset (by simp))
      rw [if_neg ha, if_neg hb]
      have := sub_place hl h
      omega
    | cons_cons _ h =>
      have hb : a ≠ b := fun e => hc (e ▸ h.subset (by simp))
      rw [if_pos rfl, if_neg hb]
      omega

theorem place_lt {g : List Bl} (hv : validB g = true) {x : Nat} (hx : Rch g [] x) : placeN g x < (wayOrd g).length := placeIn_lt ((mem_wayOrd hv).2 hx)

/-- The entry comes first. -/
theorem place_entry {g : List Bl} (hv : validB g = true) : placeN g 0 = 0 := by
  obtain ⟨D, e, _⟩ := wayOrd_went hv
  unfold placeN
  rw [e, placeIn_cons, if_pos rfl]

/-- What dominates a block comes ahead of it. -/
theorem dom_place {g : List Bl} (hv : validB g = true) {a x : Nat} (hx : Rch g [] x) (ha : Dm g a x) (hne : a ≠ x) : placeN g a < placeN g x := by
  rcases wayOrd_dom hv hx ha with e | e
  · exact absurd e hne
  · exact sub_place (wayOrd_nodup hv) e

end Go.Proofs.YtgebedbankibmaaGreatDoor

/-
  What LoopOf and DepthIn answer: plain facts.
-/
namespace Go.Proofs.YtgebedbankibmaaGreatDoor

theorem head_small {g : List Bl} (hv : validB g = true) : (headL g).length ≤ 26 := Nat.le_trans (goalL_len 1 backK) (reachS_small hv)
theorem names_at {g : List Bl} (hv : validB g = true) {l : List Nat} (hl : ∀ i ∈ l, i < g.length) {k : Nat} (hk : k < l.length) : (namesAt g l).extract k (k + 1) = nthName g l[k] := by
  obtain ⟨h, e⟩ := namesAt_cut hv hl hk
  rw [e, nthName_at h]
theorem pos_name {g : List Bl} (hv : validB g = true) {i : Nat} (hi : i < g.length) : posOf g (nthName g i) = some i := by
  rw [nthName_at hi]; exact posOf_name hv hi
end Go.Proofs.YtgebedbankibmaaGreatDoor


