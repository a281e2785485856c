/-
  Two graphs with the same text are the same: plain facts.
-/
import Derived.Test.YtimgkjlhahapnaaFormat
namespace Go.Proofs.Ytimgkjlhahapnaa
open Go.RowKit Go.Sort

/-- A block of one letter that goes on to two at most. -/
def okB (b : Bl) : Prop := b.1.size = 1 ∧ b.2.size ≤ 2

theorem okB_of {g : List Bl} (hv : validB g = true) : ∀ b ∈ g, okB b := by
  intro b hb
  obtain ⟨c, hc, _⟩ := valid_one hv hb
  obtain ⟨k, hk, rfl⟩ := List.getElem_of_mem hb
  exact ⟨by rw [hc]; rfl, (nextB_iff.1 (nextsB_iff.1 (valid_iff.1 hv).2.2.2 k hk)).1⟩

theorem mark_inj {s t : ByteArray} (hs : s.size ≤ 2) (ht : t.size ≤ 2) (h : mark s = mark t) : s.size = t.size := by
  unfold mark at h
  have h1 : s.size = 0 ∨ s.size = 1 ∨ s.size = 2 := by omega
  have h2 : t.size = 0 ∨ t.size = 1 ∨ t.size = 2 := by omega
  rcases h1 with h1 | h1 | h1 <;> rcases h2 with h2 | h2 | h2 <;> rw [h1, h2] at h <;> first | omega | (exact absurd h (by decide))

theorem size_list (s : ByteArray) : s.data.toList.length = s.size := by rw [Array.length_toList]; rfl

theorem part_inj {b d : Bl} (hb : okB b) (hd : okB d) {x y : List UInt8} (h : (part b).data.toList ++ x = (part d).data.toList ++ y) : b = d ∧ x = y := by
  unfold part at h
  rw [ba_append_toList, ba_append_toList, ba_append_toList, ba_append_toList] at h
  simp only [List.append_assoc] at h
  obtain ⟨h1, h2⟩ := List.append_inj h (by rw [size_list, size_list, hb.1, hd.1])
  obtain ⟨h3, h4⟩ := List.append_inj h2 (by rw [size_list, size_list, mark_size, mark_size])
  obtain ⟨h5, h6⟩ := List.append_inj h4 (by rw [size_list, size_list]; exact mark_inj hb.2 hd.2 (ba_ext h3))
  exact ⟨Prod.ext (ba_ext h1) (ba_ext h5), h6⟩

theorem tail_inj : ∀ {g h : List Bl}, (∀ b ∈ g, okB b) → (∀ b ∈ h, okB b) → Lib.joinTail [44] (g.map fun b => (part b).data.toList) = Lib.joinTail [44] (h.map fun b => (part b).data.toList) → g = h
  | [], [], _, _, _ => rfl
  | [], d :: h, _, _, e => by simp [Lib.joinTail] at e
  | b :: g, [], _, _, e => by simp [Lib.joinTail] at e
  | b :: g, d :: h, hg, hh, e => by
    simp only [List.map_cons, Lib.joinTail, List.flatten_cons, List.cons_append, List.nil_append, List.cons.injEq, true_and] at e
    obtain ⟨rfl, e2⟩ := part_inj (hg b (by simp)) (hh d (by simp)) e
    rw [tail_inj (g := g) (h := h) (fun x hx => hg x (by simp [hx])) (fun x hx => hh x (by simp [hx])) e2]

theorem fmtG_inj {g h : List Bl} (hg : validB g = true) (hh : validB h = true) (e : fmtG g = fmtG h) : g = h := by
  have e' := congrArg (fun s => s.data.toList) e
  simp only [fmtG_toList] at e'
  have g1 := (valid_iff.1 hg).1
  have h1 := (valid_iff.1 hh).1
  cases g with
  | nil => simp at g1
  | cons b g =>
    cases h with
    | nil => simp at h1
    | cons d h =>
      have og := okB_of hg
      have oh := okB_of hh
      simp only [List.map_cons, Lib.join_cons] at e'
      obtain ⟨rfl, e2⟩ := part_inj (og b (by simp)) (oh d (by simp)) e'
      rw [tail_inj (g := g) (h := h) (fun x hx => og x (by simp [hx])) (fun x hx => oh x (by simp [hx])) e2]

end Go.Proofs.Ytimgkjlhahapnaa
