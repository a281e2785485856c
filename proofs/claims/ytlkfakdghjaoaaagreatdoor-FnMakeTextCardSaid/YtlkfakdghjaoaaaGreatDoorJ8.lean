import Derived.Test.YtlkfakdghjaoaaaGreatDoorMRead
import Derived.Test.YtlkfakdghjaoaaaGreatDoorJ5
namespace Go.Proofs.YtlkfakdghjaoaaaGreatDoor
open Go.RowKit Go.Sort
def vo (l : List It) : List It := (bO l 0).map (·.2)
theorem MAllAt.append {w : World} {P : Nat → Prop} {k : List It} {us : List Value} (hk : MAllAt w P k us) : ∀ {l : List It} {vs : List Value}, MAllAt w P l vs → MAllAt w P (l ++ k) (vs ++ us)
 | [], vs, h => by rw [MAllAt] at h; rw [h]; exact hk
 | i :: l, vs, h => by
  rw [MAllAt] at h
  obtain ⟨u, t, e, h1, h2⟩ := h
  rw [e, List.cons_append, List.append_assoc, MAllAt]
  exact ⟨u, t ++ us, rfl, h1, MAllAt.append hk h2⟩
mutual
theorem Ee : ∀ (i : It) (k : Nat), (d9 i k).length ≤ (aJ i).length
 | .blk c, k => by rw [d9, aJ]; simp
 | .ask c l r, k => by
  rw [d9, aJ]
  have h1 := jk l k
  have h2 := jk r k
  simp only [List.length_cons, List.length_append, List.length_nil]; omega
 | .stop, k => by rw [d9, aJ]; simp
 | .frame b l, k => by
  rw [d9, aJ]
  have h1 := jk l (k + 1)
  simp only [List.length_cons, List.length_append, List.length_nil]; omega
 | .leave n, k => by rw [d9, aJ]; simp
 | .set n, k => by rw [d9, aJ]; simp
 | .pick bs, k => by
  rw [d9, aJ]
  have h1 := xI bs k
  simp only [List.length_cons]; omega
theorem jk : ∀ (l : List It) (k : Nat), (bO l k).length ≤ (aF l).length
 | [], k => by rw [bO]; simp
 | i :: l, k => by rw [bO, aF, List.length_append, List.length_append]; have := Ee i k; have := jk l k; omega
theorem xI : ∀ (bs : List (List It)) (k : Nat), (dj bs k).length ≤ (bN bs).length
 | [], k => by rw [dj]; simp
 | b :: bs, k => by
  rw [dj, bN]
  have h1 := jk b k
  have h2 := xI bs k
  simp only [List.length_cons, List.length_append]; omega
end
theorem l9 (l : List It) : (vo l).length ≤ (aF l).length := by unfold vo; rw [List.length_map]; exact jk l 0
theorem MBodAt.slice {w : World} {P : Nat → Prop} {i : It} {v : Value} (h : MBodAt w P i v) : ∃ A n k, v = .slice A n k := by
 rw [vt] at h
 obtain ⟨vs, ⟨A, k, rfl, _⟩, _⟩ := h
 exact ⟨_, _, _, rfl⟩
theorem MAllAt.one {w : World} {P : Nat → Prop} : ∀ {l : List It} {vs : List Value}, MAllAt w P l vs → ∀ u ∈ vs, u.oneCell' = true
 | [], vs, h, u, hu => by rw [MAllAt] at h; subst h; cases hu
 | i :: l, vs, h, u, hu => by
  rw [MAllAt] at h
  obtain ⟨vb, t, rfl, h1, h2⟩ := h
  rcases List.mem_append.1 hu with hu | hu
  ·obtain ⟨A, n, k, rfl⟩ := h1.slice
   simp [fY] at hu
   rcases hu with rfl | rfl | rfl | rfl <;> rfl
  ·exact MAllAt.one h2 u hu
end Go.Proofs.YtlkfakdghjaoaaaGreatDoor

namespace Go.Proofs.YtlkfakdghjaoaaaGreatDoor
open Go.RowKit Go.Sort
end Go.Proofs.YtlkfakdghjaoaaaGreatDoor

set_option maxRecDepth 100000
namespace Go.Proofs.YtlkfakdghjaoaaaGreatDoor
open Go.RowKit Go.Sort
theorem ow (s : List UInt8) (w : World) :
  Calls Tryz.prog 44 #[.string (tb s)] w fun e w' => ((∃ l, aP s l) ∧ e = .returned (.bool true) ∨ (∀ l, ¬ aP s l) ∧ e = .returned (.bool false)) ∧ Below w.heap.size w w' := by
 have HC := F7 (ig s w)
 go_enter Tryz.func44, Tryz.ntmps44
 go_wp2_with fail
 refine HC.out.mono ?_
 rintro e w1 (⟨l, v, hl, rfl, _, _, b1⟩ | ⟨hno, rfl, b1⟩)
 ·have HL := F7 hl
  have HB := F7 b1
  clear hl b1
  go_wp2_with fail
  go_ret
  exact ⟨.inl ⟨⟨l, HL.out⟩, rfl⟩, HB.out⟩
 ·have HN := F7 hno
  have HB := F7 b1
  clear hno b1
  go_wp2_with fail
  go_ret
  exact ⟨.inr ⟨HN.out, rfl⟩, HB.out⟩
end Go.Proofs.YtlkfakdghjaoaaaGreatDoor
namespace Go.Proofs.YtlkfakdghjaoaaaGreatDoor
open Go.RowKit Go.Sort
open Classical in
noncomputable def dw (s : List UInt8) : Bool := if ∃ l, aP s l then true else false
theorem nP {s : List UInt8} (h : ∃ l, aP s l) : dw s = true := if_pos h
theorem mo {s : List UInt8} (h : ∀ l, ¬ aP s l) : dw s = false := if_neg (fun ⟨l, hl⟩ => h l hl)
theorem A9 {s : List UInt8} (h : dw s = true) : ∃ l, aP s l := by
 by_cases k : ∃ l, aP s l
 ·exact k
 ·rw [mo fun l hl => k ⟨l, hl⟩] at h; cases h
theorem rJ (s : ByteArray) (w : World) (hs : s.size ≤ 1048576) :
  Calls Tryz.prog 96 #[.string s] w fun e w' => e = .returned (.bool (dw s.data.toList)) ∧ Below w.heap.size w w' := by
 have h := oo s.data.toList w (by simpa using hs)
 rw [tG] at h
 refine h.mono ?_
 rintro e w' ⟨⟨hl, rfl⟩ | ⟨hl, rfl⟩, hb⟩
 ·exact ⟨by rw [nP hl], hb⟩
 ·exact ⟨by rw [mo hl], hb⟩
theorem lg (s : ByteArray) (w : World) :
  Calls Tryz.prog 44 #[.string s] w fun e w' => e = .returned (.bool (dw s.data.toList)) ∧ Below w.heap.size w w' := by
 have h := ow s.data.toList w
 rw [tG] at h
 refine h.mono ?_
 rintro e w' ⟨⟨hl, rfl⟩ | ⟨hl, rfl⟩, hb⟩
 ·exact ⟨by rw [nP hl], hb⟩
 ·exact ⟨by rw [mo hl], hb⟩
end Go.Proofs.YtlkfakdghjaoaaaGreatDoor
