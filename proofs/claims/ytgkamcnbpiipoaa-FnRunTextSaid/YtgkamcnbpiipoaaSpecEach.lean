/-
  The model's row of all items, and all within them.
-/
import Derived.Test.YtgkamcnbpiipoaaMRead
import Derived.Test.YtgkamcnbpiipoaaWithin
namespace Go.Proofs.Ytgkamcnbpiipoaa
open Go.RowKit Go.Sort

/-- All items, each ahead of those within it. -/
def flL (l : List It) : List It := (evL l 0).map (·.2)
def flB (bs : List (List It)) : List It := (evB bs 0).map (·.2)
mutual
theorem snd_evI : ∀ (i : It) (k k' : Nat), (evI i k).map (·.2) = (evI i k').map (·.2)
  | .blk c, k, k' => by rw [evI, evI]; rfl
  | .ask c l r, k, k' => by rw [evI, evI]; simp [snd_evL l k k', snd_evL r k k']
  | .stop, k, k' => by rw [evI, evI]; rfl
  | .frame b l, k, k' => by rw [evI, evI]; simp [snd_evL l (k + 1) (k' + 1)]
  | .leave n, k, k' => by rw [evI, evI]; rfl
  | .set n, k, k' => by rw [evI, evI]; rfl
  | .pick bs, k, k' => by rw [evI, evI]; simp [snd_evB bs k k']
theorem snd_evL : ∀ (l : List It) (k k' : Nat), (evL l k).map (·.2) = (evL l k').map (·.2)
  | [], k, k' => by rw [evL, evL]
  | i :: l, k, k' => by rw [evL, evL, List.map_append, List.map_append, snd_evI i k k', snd_evL l k k']
theorem snd_evB : ∀ (bs : List (List It)) (k k' : Nat), (evB bs k).map (·.2) = (evB bs k').map (·.2)
  | [], k, k' => by rw [evB, evB]
  | b :: bs, k, k' => by rw [evB, evB, List.map_append, List.map_append, snd_evL b k k', snd_evB bs k k']
end
theorem flL_step {l : List It} {j : Nat} (h : j < l.length) : flL (l.take (j + 1)) = flL (l.take j) ++ l[j] :: flB (bodI l[j]) := by
  unfold flL flB
  rw [List.take_succ_eq_append_getElem h, evL_append, evL, evL, List.append_nil, evI_bod, List.map_append, List.map_cons, snd_evB _ _ 0]
theorem flB_step {bs : List (List It)} {m : Nat} (h : m < bs.length) : flB (bs.take (m + 1)) = flB (bs.take m) ++ flL bs[m] := by
  unfold flL flB
  rw [List.take_succ_eq_append_getElem h, evB_append, evB_one, List.map_append]
theorem MAllAt.append {w : World} {P : Nat → Prop} {k : List It} {us : List Value} (hk : MAllAt w P k us) : ∀ {l : List It} {vs : List Value}, MAllAt w P l vs → MAllAt w P (l ++ k) (vs ++ us)
  | [], vs, h => by rw [MAllAt] at h; rw [h]; exact hk
  | i :: l, vs, h => by
    rw [MAllAt] at h
    obtain ⟨u, t, e, h1, h2⟩ := h
    rw [e, List.cons_append, List.append_assoc, MAllAt]
    exact ⟨u, t ++ us, rfl, h1, MAllAt.append hk h2⟩
mutual
/-- No more items than bytes. -/
theorem ev_lenI : ∀ (i : It) (k : Nat), (evI i k).length ≤ (txI i).length
  | .blk c, k => by rw [evI, txI]; simp
  | .ask c l r, k => by
    rw [evI, txI]
    have h1 := ev_lenL l k
    have h2 := ev_lenL r k
    simp only [List.length_cons, List.length_append, List.length_nil]; omega
  | .stop, k => by rw [evI, txI]; simp
  | .frame b l, k => by
    rw [evI, txI]
    have h1 := ev_lenL l (k + 1)
    simp only [List.length_cons, List.length_append, List.length_nil]; omega
  | .leave n, k => by rw [evI, txI]; simp
  | .set n, k => by rw [evI, txI]; simp
  | .pick bs, k => by
    rw [evI, txI]
    have h1 := ev_lenB bs k
    simp only [List.length_cons]; omega
theorem ev_lenL : ∀ (l : List It) (k : Nat), (evL l k).length ≤ (txL l).length
  | [], k => by rw [evL]; simp
  | i :: l, k => by rw [evL, txL, List.length_append, List.length_append]; have := ev_lenI i k; have := ev_lenL l k; omega
theorem ev_lenB : ∀ (bs : List (List It)) (k : Nat), (evB bs k).length ≤ (txB bs).length
  | [], k => by rw [evB]; simp
  | b :: bs, k => by
    rw [evB, txB]
    have h1 := ev_lenL b k
    have h2 := ev_lenB bs k
    simp only [List.length_cons, List.length_append]; omega
end
theorem flL_length (l : List It) : (flL l).length ≤ (txL l).length := by unfold flL; rw [List.length_map]; exact ev_lenL l 0
theorem flL_take (l : List It) (j : Nat) : (flL (l.take j)).length ≤ (flL l).length := by
  have h : flL l = flL (l.take j) ++ flL (l.drop j) := by
    have := evL_append (l.take j) (l.drop j) 0
    rw [List.take_append_drop] at this
    unfold flL; rw [this, List.map_append]
  rw [h, List.length_append]; omega
theorem flB_take (bs : List (List It)) (m : Nat) : (flB (bs.take m)).length ≤ (flB bs).length := by
  have h : flB bs = flB (bs.take m) ++ flB (bs.drop m) := by
    have := evB_append (bs.take m) (bs.drop m) 0
    rw [List.take_append_drop] at this
    unfold flB; rw [this, List.map_append]
  rw [h, List.length_append]; omega

/-- What the model's row of all items is. -/
def EachPost (w0 : World) (P : Nat → Prop) (l : List It) (w : World) (e : Ending) (w' : World) : Prop :=
  ∃ g c xs, e = .returned (.slice (some ⟨g, 0, none⟩) (flL l).length c) ∧ w'.ownsRow w.heap.size 154 4 (.slice (some ⟨g, 0, none⟩) (flL l).length c) (flL l).length xs ∧ MAllAt w0 P (flL l) xs ∧ Below w.heap.size w w'

theorem ownRow_below4 {w w' : World} {base : Nat} {e : TypeId} {size : Nat} {v : Value} {n : Nat} {xs : List Value} (h : w.ownsRow base e size v n xs) (hb : Below w.heap.size w w') : w'.ownsRow base e size v n xs := by
  refine ⟨h.1, ?_⟩
  rcases h.2 with hn | ⟨g, cap, cur, hv, hb2, hg, rest⟩
  · exact .inl hn
  · refine .inr ⟨g, cap, cur, hv, hb2, ?_, rest⟩
    have hlt : g < w.heap.size := by
      rcases Nat.lt_or_ge g w.heap.size with h' | h'
      · exact h'
      · rw [Array.getElem?_eq_none h'] at hg; cases hg
    exact (hb.block g hlt).trans hg

theorem MBodAt.slice {w : World} {P : Nat → Prop} {i : It} {v : Value} (h : MBodAt w P i v) : ∃ A n k, v = .slice A n k := by
  rw [mbod_iff] at h
  obtain ⟨vs, ⟨A, k, rfl, _⟩, _⟩ := h
  exact ⟨_, _, _, rfl⟩
theorem MAllAt.one {w : World} {P : Nat → Prop} : ∀ {l : List It} {vs : List Value}, MAllAt w P l vs → ∀ u ∈ vs, u.oneCell' = true
  | [], vs, h, u, hu => by rw [MAllAt] at h; subst h; cases hu
  | i :: l, vs, h, u, hu => by
    rw [MAllAt] at h
    obtain ⟨vb, t, rfl, h1, h2⟩ := h
    rcases List.mem_append.1 hu with hu | hu
    · obtain ⟨A, n, k, rfl⟩ := h1.slice
      simp [mcells] at hu
      rcases hu with rfl | rfl | rfl | rfl <;> rfl
    · exact MAllAt.one h2 u hu

end Go.Proofs.Ytgkamcnbpiipoaa
