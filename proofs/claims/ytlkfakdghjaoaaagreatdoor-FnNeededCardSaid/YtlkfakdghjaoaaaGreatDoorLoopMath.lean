import Derived.Test.YtlkfakdghjaoaaaGreatDoorJ11
import Derived.Test.YtlkfakdghjaoaaaGreatDoorKids
namespace Go.Proofs.YtlkfakdghjaoaaaGreatDoor
theorem qw (nx : Nat → List Nat) : ∀ (m i : Nat) (st : List Nat × List Nat), ∃ D, (df nx m i st).2 = D ++ st.2 ∧ ∀ x ∈ D, x = i ∨ ∃ p, x ∈ nx p ∧ [p, x].Sublist D
 | 0, i, st => ⟨[], rfl, by simp⟩
 | m + 1, i, st => by
  have ih := qw nx m
  have inner : ∀ (ts : List Nat) (st : List Nat × List Nat), ∃ D, (bN nx m st ts).2 = D ++ st.2 ∧ ∀ x ∈ D, x ∈ ts ∨ ∃ p, x ∈ nx p ∧ [p, x].Sublist D := by
   intro ts
   induction ts with
   | nil => intro st; exact ⟨[], rfl, by simp⟩
   | cons t ts iht =>
    intro st
    rw [kY]
    by_cases ht : t ∈ st.1
    ·rw [if_pos ht]
     obtain ⟨D, e, h⟩ := iht st
     exact ⟨D, e, fun x hx => (h x hx).imp (List.mem_cons_of_mem _) id⟩
    ·rw [if_neg ht]
     obtain ⟨D1, e1, h1⟩ := ih t st
     obtain ⟨D, e, h⟩ := iht (df nx m t st)
     refine ⟨D ++ D1, by rw [e, e1, List.append_assoc], fun x hx => ?_⟩
     rcases List.mem_append.1 hx with hx | hx
     ·rcases h x hx with q | ⟨p, q, r⟩
      ·exact .inl (List.mem_cons_of_mem _ q)
      ·exact .inr ⟨p, q, r.trans (List.sublist_append_left _ _)⟩
     ·rcases h1 x hx with q | ⟨p, q, r⟩
      ·exact .inl (by rw [q]; simp)
      ·exact .inr ⟨p, q, r.trans (List.sublist_append_right _ _)⟩
  obtain ⟨D, e, h⟩ := inner (nx i).reverse (st.1 ++ [i], st.2)
  refine ⟨i :: D, by rw [ia]; simp only [e]; rfl, fun x hx => ?_⟩
  rcases List.mem_cons.1 hx with q | hx
  ·exact .inl q
  ·rcases h x hx with q | ⟨p, q, r⟩
   ·exact .inr ⟨i, List.mem_reverse.1 q, List.Sublist.cons_cons i (List.singleton_sublist.2 hx)⟩
   ·exact .inr ⟨p, q, r.cons i⟩
theorem j6 (c : Nat) (l : List Nat) (x : Nat) : bJ (c :: l) x = if c = x then 0 else bJ l x + 1 := by
 unfold bJ
 rw [List.findIdx_cons]
 by_cases h : c = x
 ·rw [if_pos h, decide_eq_true h]; rfl
 ·rw [if_neg h, decide_eq_false h]; rfl
theorem nG {a b : Nat} : ∀ {l : List Nat}, l.Nodup → [a, b].Sublist l → bJ l a < bJ l b
 | [], _, h => by cases h
 | c :: l, hn, h => by
  obtain ⟨hc, hl⟩ := List.nodup_cons.1 hn
  rw [j6, j6]
  cases h with
  | cons _ h =>
   have ha : c ≠ a := fun e => hc (e ▸ h.subset (by simp))
   have hb : c ≠ b := fun e => hc (e ▸ h.subset (by simp))
   rw [if_neg ha, if_neg hb]
   have := nG hl h
   omega
  | cons_cons _ h =>
   have hb : a ≠ b := fun e => hc (e ▸ h.subset (by simp))
   rw [if_pos rfl, if_neg hb]
   omega
theorem j7 {g : List Bl} (hv : aa g = true) {x : Nat} (hx : Rch g [] x) : ah g x < (ac g).length := eB ((aA hv).2 hx)
theorem Dh {g : List Bl} (hv : aa g = true) {t : Nat} (ht : Rch g [] t) (h0 : t ≠ 0) : ∃ i, Rch g [] i ∧ t ∈ ai g i ∧ ah g i < ah g t := by
 obtain ⟨D, e, h⟩ := qw (ai g) g.length 0 ([], [])
 have e' : ac g = D := by unfold ac; rw [e, List.append_nil]
 have hm : t ∈ D := e' ▸ (aA hv).2 ht
 rcases h t hm with q | ⟨p, q, r⟩
 ·exact absurd q h0
 ·rw [← e'] at r
  exact ⟨p, (aA hv).1 (r.subset (by simp)), q, nG (aZ hv) r⟩
theorem iQ {g : List Bl} (hv : aa g = true) : ah g 0 = 0 := by
 obtain ⟨D, e, _⟩ := gA hv
 unfold ah
 rw [e, j6, if_pos rfl]
theorem nH {g : List Bl} (hv : aa g = true) {a x : Nat} (hx : Rch g [] x) (ha : Dm g a x) (hne : a ≠ x) : ah g a < ah g x := by
 rcases qk hv hx ha with e | e
 ·exact absurd e hne
 ·exact nG (aZ hv) e
end Go.Proofs.YtlkfakdghjaoaaaGreatDoor
namespace Go.Proofs.YtlkfakdghjaoaaaGreatDoor
theorem mg {g : List Bl} (hv : aa g = true) : (aL g).length ≤ 26 := Nat.le_trans (eX 1 aS) (bO hv)
theorem mh {g : List Bl} (hv : aa g = true) {l : List Nat} (hl : ∀ i ∈ l, i < g.length) {k : Nat} (hk : k < l.length) : (ae g l).extract k (k + 1) = ay g l[k] := by
 obtain ⟨h, e⟩ := dD hv hl hk
 rw [e, al h]
theorem pN {g : List Bl} (hv : aa g = true) {i : Nat} (hi : i < g.length) : aP g (ay g i) = some i := by
 rw [al hi]; exact gu hv hi
end Go.Proofs.YtlkfakdghjaoaaaGreatDoor
