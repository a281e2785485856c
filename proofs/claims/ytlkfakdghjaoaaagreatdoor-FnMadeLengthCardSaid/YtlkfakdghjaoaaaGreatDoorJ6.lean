import Derived.Test.YtlkfakdghjaoaaaGreatDoorMRead
import Derived.Test.YtlkfakdghjaoaaaGreatDoorJ4
import Derived.Test.YtlkfakdghjaoaaaGreatDoorItemsOf
namespace Go.Proofs.YtlkfakdghjaoaaaGreatDoor
open Go.RowKit Go.Sort
def flL (l : List It) : List It := (evL l 0).map (·.2)
theorem MAllAt.append {w : World} {P : Nat → Prop} {k : List It} {us : List Value} (hk : MAllAt w P k us) : ∀ {l : List It} {vs : List Value}, MAllAt w P l vs → MAllAt w P (l ++ k) (vs ++ us)
 | [], vs, h => by rw [MAllAt] at h; rw [h]; exact hk
 | i :: l, vs, h => by
  rw [MAllAt] at h
  obtain ⟨u, t, e, h1, h2⟩ := h
  rw [e, List.cons_append, List.append_assoc, MAllAt]
  exact ⟨u, t ++ us, rfl, h1, MAllAt.append hk h2⟩
mutual
theorem ev_lenI : ∀ (i : It) (k : Nat), (evI i k).length ≤ (txI i).length
 | .blk c, k => by rw [evI, txI]; simp
 | .ask c l r, k => by
  rw [evI, txI]
  have h1 := ev_lenL l k
  have h2 := ev_lenL r k
  simp only [List.length_cons, List.length_append, List.length_nil]; omega
 | .stop, k => by rw [evI, txI]; simp
 | .frame b l, k => by
  rw [evI, txI]
  have h1 := ev_lenL l (k + 1)
  simp only [List.length_cons, List.length_append, List.length_nil]; omega
 | .leave n, k => by rw [evI, txI]; simp
 | .set n, k => by rw [evI, txI]; simp
 | .pick bs, k => by
  rw [evI, txI]
  have h1 := ev_lenB bs k
  simp only [List.length_cons]; omega
theorem ev_lenL : ∀ (l : List It) (k : Nat), (evL l k).length ≤ (txL l).length
 | [], k => by rw [evL]; simp
 | i :: l, k => by rw [evL, txL, List.length_append, List.length_append]; have := ev_lenI i k; have := ev_lenL l k; omega
theorem ev_lenB : ∀ (bs : List (List It)) (k : Nat), (evB bs k).length ≤ (txB bs).length
 | [], k => by rw [evB]; simp
 | b :: bs, k => by
  rw [evB, txB]
  have h1 := ev_lenL b k
  have h2 := ev_lenB bs k
  simp only [List.length_cons, List.length_append]; omega
end
theorem flL_length (l : List It) : (flL l).length ≤ (txL l).length := by unfold flL; rw [List.length_map]; exact ev_lenL l 0
theorem MBodAt.slice {w : World} {P : Nat → Prop} {i : It} {v : Value} (h : MBodAt w P i v) : ∃ A n k, v = .slice A n k := by
 rw [mbod_iff] at h
 obtain ⟨vs, ⟨A, k, rfl, _⟩, _⟩ := h
 exact ⟨_, _, _, rfl⟩
theorem MAllAt.one {w : World} {P : Nat → Prop} : ∀ {l : List It} {vs : List Value}, MAllAt w P l vs → ∀ u ∈ vs, u.oneCell' = true
 | [], vs, h, u, hu => by rw [MAllAt] at h; subst h; cases hu
 | i :: l, vs, h, u, hu => by
  rw [MAllAt] at h
  obtain ⟨vb, t, rfl, h1, h2⟩ := h
  rcases List.mem_append.1 hu with hu | hu
  ·obtain ⟨A, n, k, rfl⟩ := h1.slice
   simp [mcells] at hu
   rcases hu with rfl | rfl | rfl | rfl <;> rfl
  ·exact MAllAt.one h2 u hu
end Go.Proofs.YtlkfakdghjaoaaaGreatDoor

namespace Go.Proofs.YtlkfakdghjaoaaaGreatDoor
open Go.RowKit Go.Sort
end Go.Proofs.YtlkfakdghjaoaaaGreatDoor

namespace Go.Proofs.YtlkfakdghjaoaaaGreatDoor
open Go.RowKit Go.Sort
set_option maxRecDepth 100000 in
theorem implTextValid_any (s : List UInt8) (w : World) :
  Calls Tryz.prog 44 #[.string (tb s)] w fun e w' => ((∃ l, textOk s l) ∧ e = .returned (.bool true) ∨ (∀ l, ¬ textOk s l) ∧ e = .returned (.bool false)) ∧ Below w.heap.size w w' := by
 have HC := Lib.hid (itemsOf_any s w)
 go_enter Tryz.func44, Tryz.ntmps44
 go_wp2_with fail
 refine HC.out.mono ?_
 rintro e w1 (⟨l, v, hl, rfl, _, _, b1⟩ | ⟨hno, rfl, b1⟩)
 ·have HL := Lib.hid hl
  have HB := Lib.hid b1
  clear hl b1
  go_wp2_with fail
  go_ret
  exact ⟨.inl ⟨⟨l, HL.out⟩, rfl⟩, HB.out⟩
 ·have HN := Lib.hid hno
  have HB := Lib.hid b1
  clear hno b1
  go_wp2_with fail
  go_ret
  exact ⟨.inr ⟨HN.out, rfl⟩, HB.out⟩
end Go.Proofs.YtlkfakdghjaoaaaGreatDoor
namespace Go.Proofs.YtlkfakdghjaoaaaGreatDoor
open Go.RowKit Go.Sort
open Classical in
noncomputable def textB (s : List UInt8) : Bool := if ∃ l, textOk s l then true else false
theorem textB_yes {s : List UInt8} (h : ∃ l, textOk s l) : textB s = true := if_pos h
theorem textB_no {s : List UInt8} (h : ∀ l, ¬ textOk s l) : textB s = false := if_neg (fun ⟨l, hl⟩ => h l hl)
theorem textB_get {s : List UInt8} (h : textB s = true) : ∃ l, textOk s l := by
 by_cases k : ∃ l, textOk s l
 ·exact k
 ·rw [textB_no fun l hl => k ⟨l, hl⟩] at h; cases h
theorem specValid_text (s : ByteArray) (w : World) (hs : s.size ≤ 1048576) :
  Calls Tryz.prog 96 #[.string s] w fun e w' => e = .returned (.bool (textB s.data.toList)) ∧ Below w.heap.size w w' := by
 have h := specTextValid_any s.data.toList w (by simpa using hs)
 rw [tb_of] at h
 refine h.mono ?_
 rintro e w' ⟨⟨hl, rfl⟩ | ⟨hl, rfl⟩, hb⟩
 ·exact ⟨by rw [textB_yes hl], hb⟩
 ·exact ⟨by rw [textB_no hl], hb⟩
theorem implValid_text (s : ByteArray) (w : World) :
  Calls Tryz.prog 44 #[.string s] w fun e w' => e = .returned (.bool (textB s.data.toList)) ∧ Below w.heap.size w w' := by
 have h := implTextValid_any s.data.toList w
 rw [tb_of] at h
 refine h.mono ?_
 rintro e w' ⟨⟨hl, rfl⟩ | ⟨hl, rfl⟩, hb⟩
 ·exact ⟨by rw [textB_yes hl], hb⟩
 ·exact ⟨by rw [textB_no hl], hb⟩
end Go.Proofs.YtlkfakdghjaoaaaGreatDoor
