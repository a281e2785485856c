import Derived.Test.YtlkfakdghjaoaaaGreatDoorJ9
import Derived.Test.YtlkfakdghjaoaaaGreatDoorKids
namespace Go.Proofs.YtlkfakdghjaoaaaGreatDoor
theorem visit_pred (nx : Nat → List Nat) : ∀ (m i : Nat) (st : List Nat × List Nat), ∃ D, (visit nx m i st).2 = D ++ st.2 ∧ ∀ x ∈ D, x = i ∨ ∃ p, x ∈ nx p ∧ [p, x].Sublist D
 | 0, i, st => ⟨[], rfl, by simp⟩
 | m + 1, i, st => by
  have ih := visit_pred nx m
  have inner : ∀ (ts : List Nat) (st : List Nat × List Nat), ∃ D, (visits nx m st ts).2 = D ++ st.2 ∧ ∀ x ∈ D, x ∈ ts ∨ ∃ p, x ∈ nx p ∧ [p, x].Sublist D := by
   intro ts
   induction ts with
   | nil => intro st; exact ⟨[], rfl, by simp⟩
   | cons t ts iht =>
    intro st
    rw [visits_cons]
    by_cases ht : t ∈ st.1
    ·rw [if_pos ht]
     obtain ⟨D, e, h⟩ := iht st
     exact ⟨D, e, fun x hx => (h x hx).imp (List.mem_cons_of_mem _) id⟩
    ·rw [if_neg ht]
     obtain ⟨D1, e1, h1⟩ := ih t st
     obtain ⟨D, e, h⟩ := iht (visit nx m t st)
     refine ⟨D ++ D1, by rw [e, e1, List.append_assoc], fun x hx => ?_⟩
     rcases List.mem_append.1 hx with hx | hx
     ·rcases h x hx with q | ⟨p, q, r⟩
      ·exact .inl (List.mem_cons_of_mem _ q)
      ·exact .inr ⟨p, q, r.trans (List.sublist_append_left _ _)⟩
     ·rcases h1 x hx with q | ⟨p, q, r⟩
      ·exact .inl (by rw [q]; simp)
      ·exact .inr ⟨p, q, r.trans (List.sublist_append_right _ _)⟩
  obtain ⟨D, e, h⟩ := inner (nx i).reverse (st.1 ++ [i], st.2)
  refine ⟨i :: D, by rw [visit_succ]; simp only [e]; rfl, fun x hx => ?_⟩
  rcases List.mem_cons.1 hx with q | hx
  ·exact .inl q
  ·rcases h x hx with q | ⟨p, q, r⟩
   ·exact .inr ⟨i, List.mem_reverse.1 q, List.Sublist.cons_cons i (List.singleton_sublist.2 hx)⟩
   ·exact .inr ⟨p, q, r.cons i⟩
theorem placeIn_cons (c : Nat) (l : List Nat) (x : Nat) : placeIn (c :: l) x = if c = x then 0 else placeIn l x + 1 := by
 unfold placeIn
 rw [List.findIdx_cons]
 by_cases h : c = x
 ·rw [if_pos h, decide_eq_true h]; rfl
 ·rw [if_neg h, decide_eq_false h]; rfl
theorem sub_place {a b : Nat} : ∀ {l : List Nat}, l.Nodup → [a, b].Sublist l → placeIn l a < placeIn l b
 | [], _, h => by cases h
 | c :: l, hn, h => by
  obtain ⟨hc, hl⟩ := List.nodup_cons.1 hn
  rw [placeIn_cons, placeIn_cons]
  cases h with
  | cons _ h =>
   have ha : c ≠ a := fun e => hc (e ▸ h.subset (by simp))
   have hb : c ≠ b := fun e => hc (e ▸ h.subset (by simp))
   rw [if_neg ha, if_neg hb]
   have := sub_place hl h
   omega
  | cons_cons _ h =>
   have hb : a ≠ b := fun e => hc (e ▸ h.subset (by simp))
   rw [if_pos rfl, if_neg hb]
   omega
theorem place_lt {g : List Bl} (hv : validB g = true) {x : Nat} (hx : Rch g [] x) : placeN g x < (wayOrd g).length := placeIn_lt ((mem_wayOrd hv).2 hx)
theorem fwd_pred {g : List Bl} (hv : validB g = true) {t : Nat} (ht : Rch g [] t) (h0 : t ≠ 0) : ∃ i, Rch g [] i ∧ t ∈ nxt g i ∧ placeN g i < placeN g t := by
 obtain ⟨D, e, h⟩ := visit_pred (nxt g) g.length 0 ([], [])
 have e' : wayOrd g = D := by unfold wayOrd; rw [e, List.append_nil]
 have hm : t ∈ D := e' ▸ (mem_wayOrd hv).2 ht
 rcases h t hm with q | ⟨p, q, r⟩
 ·exact absurd q h0
 ·rw [← e'] at r
  exact ⟨p, (mem_wayOrd hv).1 (r.subset (by simp)), q, sub_place (wayOrd_nodup hv) r⟩
theorem place_entry {g : List Bl} (hv : validB g = true) : placeN g 0 = 0 := by
 obtain ⟨D, e, _⟩ := wayOrd_went hv
 unfold placeN
 rw [e, placeIn_cons, if_pos rfl]
theorem dom_place {g : List Bl} (hv : validB g = true) {a x : Nat} (hx : Rch g [] x) (ha : Dm g a x) (hne : a ≠ x) : placeN g a < placeN g x := by
 rcases wayOrd_dom hv hx ha with e | e
 ·exact absurd e hne
 ·exact sub_place (wayOrd_nodup hv) e
end Go.Proofs.YtlkfakdghjaoaaaGreatDoor
namespace Go.Proofs.YtlkfakdghjaoaaaGreatDoor
theorem head_small {g : List Bl} (hv : validB g = true) : (headL g).length ≤ 26 := Nat.le_trans (goalL_len 1 backK) (reachS_small hv)
theorem names_at {g : List Bl} (hv : validB g = true) {l : List Nat} (hl : ∀ i ∈ l, i < g.length) {k : Nat} (hk : k < l.length) : (namesAt g l).extract k (k + 1) = nthName g l[k] := by
 obtain ⟨h, e⟩ := namesAt_cut hv hl hk
 rw [e, nthName_at h]
theorem pos_name {g : List Bl} (hv : validB g = true) {i : Nat} (hi : i < g.length) : posOf g (nthName g i) = some i := by
 rw [nthName_at hi]; exact posOf_name hv hi
theorem live_nm {g : List Bl} {s : ByteArray} {n : Nat} (e : liveOf g s = some n) : validB g = true ∧ n < g.length ∧ s = nthName g n ∧ Rch g [] n := by
 obtain ⟨hv, hp, hr⟩ := liveOf_is e
 obtain ⟨hl, hn⟩ := posOf_is hp
 exact ⟨hv, hl, by rw [nthName_at hl, hn], (mem_reach hv).1 hr⟩
end Go.Proofs.YtlkfakdghjaoaaaGreatDoor
