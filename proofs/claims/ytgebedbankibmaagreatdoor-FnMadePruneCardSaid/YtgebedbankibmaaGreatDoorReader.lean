/-
  The program's reader of texts: what it is in memory, and the contracts of its small steps: it goes on by a byte, or panics.
-/
import Derived.Test.YtgebedbankibmaaGreatDoorOnly
import Derived.Test.YtgebedbankibmaaGreatDoorTextMath
import Derived.Test.YtgebedbankibmaaGreatDoorShelf
import Derived.WalkLawsBesides
import Derived.Recover
namespace Go.Proofs.YtgebedbankibmaaGreatDoor
open Go.RowKit Go.Sort

/-- A text by its bytes. -/
def tb (s : List UInt8) : ByteArray := ⟨s.toArray⟩
theorem tb_size (s : List UInt8) : (tb s).size = s.length := by show s.toArray.size = _; simp
theorem tb_toList (s : List UInt8) : (tb s).toList = s := by rw [Lib.toList_data]; simp [tb]
theorem tb_data (s : List UInt8) : (tb s).data.toList = s := by simp [tb]
theorem tb_of (b : ByteArray) : tb b.data.toList = b := by apply ba_ext; rw [tb_data]
theorem tb_head (c : UInt8) (s : List UInt8) : (tb (c :: s)).extract 0 1 = tb [c] := by
  apply ba_ext; rw [← Lib.toList_data, Lib.extract_toList, tb_data, tb_data]; simp
theorem tb_tail (c : UInt8) (s : List UInt8) : (tb (c :: s)).extract 1 (s.length + 1) = tb s := by
  apply ba_ext; rw [← Lib.toList_data, Lib.extract_toList, tb_data, tb_data]; simp

/-- The program's own panic. -/
def Mis (e : Ending) : Prop := ∃ v, e = .panicked [{ v := .iface 9 (.string v), recovered := false }]

/-- A reader in block R: what has not been read, and how many frames lie around it. -/
def Rdr (w : World) (R : Nat) (s : List UInt8) (f : Nat) : Prop := Blk w R 180 #[.string (tb s), .int .i64 f]
theorem Rdr.to {w : World} {R : Nat} {s : List UInt8} {f : Nat} (h : Rdr w R s f) (t : List UInt8) : Rdr (w.setCell ⟨R, 0, none⟩ (.string (tb t))) R t f := Blk.set_ h 0 _
theorem Rdr.in_ {w : World} {R : Nat} {s : List UInt8} {f : Nat} (h : Rdr w R s f) (k : Nat) : Rdr (w.setCell ⟨R, 1, none⟩ (.int .i64 k)) R s k := Blk.set_ h 1 _
theorem Rdr.left {w : World} {R : Nat} {s : List UInt8} {f : Nat} (h : Rdr w R s f) : w.cell? ⟨R, 0, none⟩ = some (.string (tb s)) := Blk.cell h 0
theorem Rdr.frames {w : World} {R : Nat} {s : List UInt8} {f : Nat} (h : Rdr w R s f) : w.cell? ⟨R, 1, none⟩ = some (.int .i64 f) := Blk.cell h 1
theorem Only.set (R : Nat) (w : World) (i : Nat) (u : Value) : Only R w (w.setCell ⟨R, i, none⟩ u) :=
  ⟨rfl, rfl, rfl, by simp, fun k hk _ => Below.heap_setCell w ⟨R, i, none⟩ u k hk⟩

set_option maxRecDepth 100000 in
theorem next_none (R f : Nat) (w : World) (h : Rdr w R [] f) :
    Calls Tryz.prog 170 #[.pointer (some ⟨R, 0, none⟩)] w fun e w' => Mis e ∧ w' = w := by
  have c0 := h.left
  have t1 : ((tb []).toList == ([] : List UInt8)) = true := by rw [tb_toList]; rfl
  clear h
  go_enter Tryz.func170, Tryz.ntmps170
  go_wp2_with fail
  exact ⟨rfl, ⟨_, rfl⟩, rfl⟩

set_option maxRecDepth 100000 in
theorem next_one (R f : Nat) (c : UInt8) (s : List UInt8) (w : World) (h : Rdr w R (c :: s) f) :
    Calls Tryz.prog 170 #[.pointer (some ⟨R, 0, none⟩)] w fun e w' => e = .returned (.string (tb [c])) ∧ w' = w.setCell ⟨R, 0, none⟩ (.string (tb s)) := by
  have c0 := h.left
  have f0 : w.frozen? ⟨R, 0, none⟩ = false := Blk.frozen h 0
  have HT := Lib.hid (tb_tail c s)
  have HH := Lib.hid (tb_head c s)
  obtain ⟨x, hx⟩ : ∃ x, x = tb (c :: s) := ⟨_, rfl⟩
  have hz : x.size = s.length + 1 := by rw [hx, tb_size]; rfl
  have t1 : (x.toList == ([] : List UInt8)) = false := by rw [hx, tb_toList]; rfl
  rw [← hx] at c0 HT HH
  have l1 : 1 ≤ x.size := by omega
  have l2 : (1 : Int) ≤ (x.size : Int) := by omega
  rw [← hz] at HT
  clear h hx hz
  go_enter Tryz.func170, Tryz.ntmps170
  go_wp2_with fail
  go_ret
  exact ⟨by rw [HH.out]; rfl, by rw [HT.out]⟩

theorem tb_ne {c x : UInt8} (h : c ≠ x) : ((tb [c]).toList == (tb [x]).toList) = false := by
  rw [tb_toList, tb_toList]; simpa using h

set_option maxRecDepth 100000 in
theorem need_yes (R f : Nat) (c : UInt8) (s : List UInt8) (w : World) (h : Rdr w R (c :: s) f) :
    Calls Tryz.prog 200 #[.pointer (some ⟨R, 0, none⟩), .string (tb [c])] w fun e w' => e = .returned (.tuple #[]) ∧ w' = w.setCell ⟨R, 0, none⟩ (.string (tb s)) := by
  have HC := Lib.hid (next_one R f c s w h)
  have t1 : ((tb [c]).toList == (tb [c]).toList) = true := by simp
  have t2 : ((tb [c]).toList != (tb [c]).toList) = false := by simp
  clear h
  go_enter Tryz.func200, Tryz.ntmps200
  go_wp2_with fail
  refine HC.out.mono ?_
  rintro e w1 ⟨rfl, rfl⟩
  go_wp2_with fail
  first | (go_ret; exact ⟨rfl, rfl⟩) | (go_end0; exact ⟨rfl, rfl⟩) | go_end0

set_option maxRecDepth 100000 in
theorem need_no (R f : Nat) (x : UInt8) (s : List UInt8) (w : World) (h : Rdr w R s f) (hx : ∀ t, s ≠ x :: t) :
    Calls Tryz.prog 200 #[.pointer (some ⟨R, 0, none⟩), .string (tb [x])] w fun e w' => Mis e ∧ Only R w w' := by
  cases s with
  | nil =>
    have HC := Lib.hid (next_none R f w h)
    clear h
    go_enter Tryz.func200, Tryz.ntmps200
    go_wp2_with fail
    refine HC.out.mono ?_
    rintro e w1 ⟨⟨v, rfl⟩, rfl⟩
    go_wp2_with fail
    exact ⟨rfl, ⟨_, rfl⟩, Only.refl _ _⟩
  | cons c t =>
    have HC := Lib.hid (next_one R f c t w h)
    have hne : c ≠ x := fun e => hx t (by rw [e])
    have t1 := tb_ne hne
    clear h hx hne
    go_enter Tryz.func200, Tryz.ntmps200
    go_wp2_with fail
    refine HC.out.mono ?_
    rintro e w1 ⟨rfl, rfl⟩
    go_wp2_with fail
    exact ⟨rfl, ⟨_, rfl⟩, Only.set R w 0 _⟩

set_option maxRecDepth 100000 in
theorem end_yes (R f : Nat) (w : World) (h : Rdr w R [] f) :
    Calls Tryz.prog 113 #[.pointer (some ⟨R, 0, none⟩)] w fun e w' => e = .returned (.tuple #[]) ∧ w' = w := by
  have c0 := h.left
  have t1 : ((tb []).toList == ([] : List UInt8)) = true := by rw [tb_toList]; rfl
  clear h
  go_enter Tryz.func113, Tryz.ntmps113
  go_wp2_with fail
  first | (go_ret; exact ⟨rfl, rfl⟩) | (go_end0; exact ⟨rfl, rfl⟩) | go_end0

set_option maxRecDepth 100000 in
theorem end_no (R f : Nat) (c : UInt8) (s : List UInt8) (w : World) (h : Rdr w R (c :: s) f) :
    Calls Tryz.prog 113 #[.pointer (some ⟨R, 0, none⟩)] w fun e w' => Mis e ∧ w' = w := by
  have c0 := h.left
  have t1 : ((tb (c :: s)).toList == ([] : List UInt8)) = false := by rw [tb_toList]; rfl
  clear h
  go_enter Tryz.func113, Tryz.ntmps113
  go_wp2_with fail
  exact ⟨rfl, ⟨_, rfl⟩, rfl⟩

theorem nameB_tb (c : UInt8) : nameB (tb [c]) = letB c := by
  unfold nameB
  rw [tb_size, tb_data]; simp

set_option maxRecDepth 100000 in
theorem name_yes (R : Nat) (c : UInt8) (w : World) (hc : letB c = true) :
    Calls Tryz.prog 171 #[.pointer (some ⟨R, 0, none⟩), .string (tb [c])] w fun e w' => e = .returned (.string (tb [c])) ∧ w' = w := by
  have HC := Lib.hid (by have := isName_any (tb [c]) w; rw [nameB_tb, hc] at this; exact this : Calls Tryz.prog 131 #[.string (tb [c])] w fun e w' => e = .returned (.bool true) ∧ w = w')
  go_enter Tryz.func171, Tryz.ntmps171
  go_wp2_with fail
  refine HC.out.mono ?_
  rintro e w1 ⟨rfl, rfl⟩
  go_wp2_with fail
  go_ret
  exact ⟨rfl, rfl⟩

set_option maxRecDepth 100000 in
theorem name_no (R : Nat) (c : UInt8) (w : World) (hc : letB c = false) :
    Calls Tryz.prog 171 #[.pointer (some ⟨R, 0, none⟩), .string (tb [c])] w fun e w' => Mis e ∧ w' = w := by
  have HC := Lib.hid (by have := isName_any (tb [c]) w; rw [nameB_tb, hc] at this; exact this : Calls Tryz.prog 131 #[.string (tb [c])] w fun e w' => e = .returned (.bool false) ∧ w = w')
  go_enter Tryz.func171, Tryz.ntmps171
  go_wp2_with fail
  refine HC.out.mono ?_
  rintro e w1 ⟨rfl, rfl⟩
  go_wp2_with fail
  exact ⟨rfl, ⟨_, rfl⟩, rfl⟩

/-- The digits. -/
def digs : List UInt8 := [48, 49, 50, 51, 52, 53, 54, 55, 56, 57]
theorem digs_at : ∀ n, n < 10 → Lib.indexByte digs (dig n) = (n : Int) := by decide
theorem digs_mem {c : UInt8} (h : c ∈ digs) : ∃ n, n < 10 ∧ c = dig n := by
  unfold digs at h
  simp only [List.mem_cons, List.not_mem_nil, or_false] at h
  rcases h with h | h | h | h | h | h | h | h | h | h
  · exact ⟨0, by decide, h⟩
  · exact ⟨1, by decide, h⟩
  · exact ⟨2, by decide, h⟩
  · exact ⟨3, by decide, h⟩
  · exact ⟨4, by decide, h⟩
  · exact ⟨5, by decide, h⟩
  · exact ⟨6, by decide, h⟩
  · exact ⟨7, by decide, h⟩
  · exact ⟨8, by decide, h⟩
  · exact ⟨9, by decide, h⟩

theorem digs_idx (c : UInt8) (W : World) : Calls Tryz.prog 114 #[.string ⟨#[48, 49, 50, 51, 52, 53, 54, 55, 56, 57]⟩, .string (tb [c])] W fun e w' => e = .returned (.int .i64 (Lib.indexByte digs c)) ∧ w' = W :=
  Tryz.strings_Index_one ⟨#[48, 49, 50, 51, 52, 53, 54, 55, 56, 57]⟩ c W

set_option maxRecDepth 100000 in
theorem digit_yes (R f n lim : Nat) (s : List UInt8) (w : World) (h : Rdr w R (dig n :: s) f) (h10 : n < 10) (hl : n < lim) :
    Calls Tryz.prog 174 #[.pointer (some ⟨R, 0, none⟩), .int .i64 lim] w fun e w' => e = .returned (.int .i64 n) ∧ w' = w.setCell ⟨R, 0, none⟩ (.string (tb s)) := by
  have HC := Lib.hid (next_one R f (dig n) s w h)
  have HI := Lib.hid (fun W => (by have := Tryz.strings_Index_one ⟨#[48, 49, 50, 51, 52, 53, 54, 55, 56, 57]⟩ (dig n) W; rw [show Lib.indexByte (⟨#[48, 49, 50, 51, 52, 53, 54, 55, 56, 57]⟩ : ByteArray).data.toList (dig n) = (n : Int) from digs_at n h10] at this; exact this : Calls Tryz.prog 114 #[.string ⟨#[48, 49, 50, 51, 52, 53, 54, 55, 56, 57]⟩, .string (tb [dig n])] W fun e w' => e = .returned (.int .i64 n) ∧ w' = W))
  have q1 : decide ((lim : Int) ≤ (n : Int)) = false := decide_eq_false (by omega)
  have q2 : ¬ lim ≤ n := by omega
  clear h
  go_enter Tryz.func174, Tryz.ntmps174
  go_wp2_with fail
  refine HC.out.mono ?_
  rintro e w1 ⟨rfl, rfl⟩
  go_wp2_with fail
  refine (HI.out _).mono ?_
  rintro e w2 ⟨rfl, rfl⟩
  go_wp2_with fail
  go_ret
  exact ⟨rfl, rfl⟩

set_option maxRecDepth 100000 in
theorem digit_no (R f lim : Nat) (s : List UInt8) (w : World) (h : Rdr w R s f) (hx : ∀ n t, n < 10 → n < lim → s ≠ dig n :: t) :
    Calls Tryz.prog 174 #[.pointer (some ⟨R, 0, none⟩), .int .i64 lim] w fun e w' => Mis e ∧ Only R w w' := by
  cases s with
  | nil =>
    have HC := Lib.hid (next_none R f w h)
    clear h
    go_enter Tryz.func174, Tryz.ntmps174
    go_wp2_with fail
    refine HC.out.mono ?_
    rintro e w1 ⟨⟨v, rfl⟩, rfl⟩
    go_wp2_with fail
    exact ⟨rfl, ⟨_, rfl⟩, Only.refl _ _⟩
  | cons c t =>
    have HC := Lib.hid (next_one R f c t w h)
    have HI := Lib.hid (fun W => digs_idx c W)
    clear h
    by_cases hm : c ∈ digs
    · obtain ⟨n, hn, rfl⟩ := digs_mem hm
      have hl : ¬ n < lim := fun hl => hx n t hn hl rfl
      rw [digs_at n hn] at HI
      have q1 : decide ((lim : Int) ≤ (n : Int)) = true := decide_eq_true (by omega)
      have q2 : lim ≤ n := by omega
      clear hx hm
      go_enter Tryz.func174, Tryz.ntmps174
      go_wp2_with fail
      refine HC.out.mono ?_
      rintro e w1 ⟨rfl, rfl⟩
      go_wp2_with fail
      refine (HI.out _).mono ?_
      rintro e w2 ⟨rfl, rfl⟩
      go_wp2_with fail
      exact ⟨rfl, ⟨_, rfl⟩, Only.set R w 0 _⟩
    · have hneg := idx_neg.2 hm
      obtain ⟨z, hz⟩ : ∃ z, z = Lib.indexByte digs c := ⟨_, rfl⟩
      rw [← hz] at HI hneg
      have q1 : decide (z < 0) = true := decide_eq_true hneg
      clear hx hm hz
      go_enter Tryz.func174, Tryz.ntmps174
      go_wp2_with fail
      refine HC.out.mono ?_
      rintro e w1 ⟨rfl, rfl⟩
      go_wp2_with fail
      refine (HI.out _).mono ?_
      rintro e w2 ⟨rfl, rfl⟩
      go_wp2_with fail
      exact ⟨rfl, ⟨_, rfl⟩, Only.set R w 0 _⟩
end Go.Proofs.YtgebedbankibmaaGreatDoor

/-
  How the program's items lie in memory, and that they stay; the row that a call makes of them.
-/
namespace Go.Proofs.YtgebedbankibmaaGreatDoor
open Go.RowKit Go.Sort

/-- A slice that reads as these values, in a block of such. -/
def Reads (w : World) (P : Nat → Prop) (v : Value) (vs : List Value) : Prop :=
  ∃ A cap, v = .slice A vs.length cap ∧ (0 < vs.length → ∃ b off, A = some ⟨b, off, none⟩ ∧ b < w.heap.size ∧ P b ∧ ∀ k (h : k < vs.length), w.cell? ⟨b, off + k, none⟩ = some vs[k])

mutual
/-- An item as it lies. -/
def ItemAt (w : World) (P : Nat → Prop) : It → Value → Prop
  | .blk c, v => v = .iface 189 (.agg #[.string (tb [c])])
  | .ask c l r, v => ∃ vl vr xs ys, v = .iface 191 (.agg #[.string (tb [c]), vl, vr]) ∧ Reads w P vl xs ∧ AllAt w P l xs ∧ Reads w P vr ys ∧ AllAt w P r ys
  | .stop, v => v = .iface 242 (.agg #[])
  | .frame b l, v => ∃ vl xs, v = .iface 184 (.agg #[.bool b, vl]) ∧ Reads w P vl xs ∧ AllAt w P l xs
  | .leave n, v => v = .iface 193 (.agg #[.int .i64 n])
  | .set n, v => v = .iface 195 (.agg #[.int .i64 n])
  | .pick bs, v => ∃ vb xs, v = .iface 197 (.agg #[vb]) ∧ Reads w P vb xs ∧ AllRows w P bs xs
def AllAt (w : World) (P : Nat → Prop) : List It → List Value → Prop
  | [], vs => vs = []
  | i :: l, vs => ∃ v t, vs = v :: t ∧ ItemAt w P i v ∧ AllAt w P l t
def AllRows (w : World) (P : Nat → Prop) : List (List It) → List Value → Prop
  | [], vs => vs = []
  | b :: bs, vs => ∃ v t xs, vs = v :: t ∧ Reads w P v xs ∧ AllAt w P b xs ∧ AllRows w P bs t
end
/-- Items as they lie. -/
def RowAt (w : World) (P : Nat → Prop) (l : List It) (v : Value) : Prop := ∃ xs, Reads w P v xs ∧ AllAt w P l xs
/-- Brackets as they lie. -/
def RowsAt (w : World) (P : Nat → Prop) (bs : List (List It)) (v : Value) : Prop := ∃ xs, Reads w P v xs ∧ AllRows w P bs xs

/-- Blocks of one kind are blocks of another, and have not turned. -/
structure Stay (w : World) (P : Nat → Prop) (w' : World) (P' : Nat → Prop) : Prop where
  size : w.heap.size ≤ w'.heap.size
  same : ∀ b, b < w.heap.size → P b → P' b ∧ w'.heap[b]? = w.heap[b]?

theorem cell_same {w w' : World} {b : Nat} (h : w'.heap[b]? = w.heap[b]?) (o : Nat) : w'.cell? ⟨b, o, none⟩ = w.cell? ⟨b, o, none⟩ := by
  unfold World.cell?
  rw [h]

theorem Reads.stay {w w' : World} {P P' : Nat → Prop} {v : Value} {vs : List Value} (h : Reads w P v vs) (k : Stay w P w' P') : Reads w' P' v vs := by
  obtain ⟨A, cap, e, hc⟩ := h
  refine ⟨A, cap, e, fun hl => ?_⟩
  obtain ⟨b, off, e2, hb, hp, hcell⟩ := hc hl
  obtain ⟨hp', hs⟩ := k.same b hb hp
  exact ⟨b, off, e2, Nat.lt_of_lt_of_le hb k.size, hp', fun j hj => (cell_same hs _).trans (hcell j hj)⟩

mutual
theorem ItemAt.stay {w w' : World} {P P' : Nat → Prop} (k : Stay w P w' P') : ∀ (i : It) (v : Value), ItemAt w P i v → ItemAt w' P' i v
  | .blk c, v, h => by rw [ItemAt] at h ⊢; exact h
  | .ask c l r, v, h => by
    rw [ItemAt] at h ⊢
    obtain ⟨vl, vr, xs, ys, e, h1, h2, h3, h4⟩ := h
    exact ⟨vl, vr, xs, ys, e, h1.stay k, AllAt.stay k l xs h2, h3.stay k, AllAt.stay k r ys h4⟩
  | .stop, v, h => by rw [ItemAt] at h ⊢; exact h
  | .frame b l, v, h => by
    rw [ItemAt] at h ⊢
    obtain ⟨vl, xs, e, h1, h2⟩ := h
    exact ⟨vl, xs, e, h1.stay k, AllAt.stay k l xs h2⟩
  | .leave n, v, h => by rw [ItemAt] at h ⊢; exact h
  | .set n, v, h => by rw [ItemAt] at h ⊢; exact h
  | .pick bs, v, h => by
    rw [ItemAt] at h ⊢
    obtain ⟨vb, xs, e, h1, h2⟩ := h
    exact ⟨vb, xs, e, h1.stay k, AllRows.stay k bs xs h2⟩
theorem AllAt.stay {w w' : World} {P P' : Nat → Prop} (k : Stay w P w' P') : ∀ (l : List It) (vs : List Value), AllAt w P l vs → AllAt w' P' l vs
  | [], vs, h => by rw [AllAt] at h ⊢; exact h
  | i :: l, vs, h => by
    rw [AllAt] at h ⊢
    obtain ⟨v, t, e, h1, h2⟩ := h
    exact ⟨v, t, e, ItemAt.stay k i v h1, AllAt.stay k l t h2⟩
theorem AllRows.stay {w w' : World} {P P' : Nat → Prop} (k : Stay w P w' P') : ∀ (bs : List (List It)) (vs : List Value), AllRows w P bs vs → AllRows w' P' bs vs
  | [], vs, h => by rw [AllRows] at h ⊢; exact h
  | b :: bs, vs, h => by
    rw [AllRows] at h ⊢
    obtain ⟨v, t, xs, e, h1, h2, h3⟩ := h
    exact ⟨v, t, xs, e, h1.stay k, AllAt.stay k b xs h2, AllRows.stay k bs t h3⟩
end
theorem RowAt.stay {w w' : World} {P P' : Nat → Prop} {l : List It} {v : Value} (h : RowAt w P l v) (k : Stay w P w' P') : RowAt w' P' l v := by
  obtain ⟨xs, h1, h2⟩ := h
  exact ⟨xs, h1.stay k, AllAt.stay k l xs h2⟩
theorem RowsAt.stay {w w' : World} {P P' : Nat → Prop} {bs : List (List It)} {v : Value} (h : RowsAt w P bs v) (k : Stay w P w' P') : RowsAt w' P' bs v := by
  obtain ⟨xs, h1, h2⟩ := h
  exact ⟨xs, h1.stay k, AllRows.stay k bs xs h2⟩

theorem AllAt.len {w : World} {P : Nat → Prop} : ∀ {l : List It} {vs : List Value}, AllAt w P l vs → vs.length = l.length
  | [], vs, h => by rw [AllAt] at h; rw [h]; rfl
  | i :: l, vs, h => by rw [AllAt] at h; obtain ⟨v, t, e, _, h2⟩ := h; rw [e, List.length_cons, List.length_cons, h2.len]
theorem AllRows.len {w : World} {P : Nat → Prop} : ∀ {l : List (List It)} {vs : List Value}, AllRows w P l vs → vs.length = l.length
  | [], vs, h => by rw [AllRows] at h; rw [h]; rfl
  | i :: l, vs, h => by rw [AllRows] at h; obtain ⟨v, t, xs, e, _, _, h2⟩ := h; rw [e, List.length_cons, List.length_cons, h2.len]
theorem AllAt.nil (w : World) (P : Nat → Prop) : AllAt w P [] [] := by rw [AllAt]
theorem AllAt.snoc {w : World} {P : Nat → Prop} {i : It} {v : Value} (hi : ItemAt w P i v) : ∀ {l : List It} {vs : List Value}, AllAt w P l vs → AllAt w P (l ++ [i]) (vs ++ [v])
  | [], vs, h => by rw [AllAt] at h; rw [h, List.nil_append, List.nil_append, AllAt]; exact ⟨v, [], rfl, hi, AllAt.nil w P⟩
  | j :: l, vs, h => by
    rw [AllAt] at h
    obtain ⟨u, t, e, h1, h2⟩ := h
    rw [e, List.cons_append, List.cons_append, AllAt]
    exact ⟨u, t ++ [v], rfl, h1, AllAt.snoc hi h2⟩
theorem AllRows.nil (w : World) (P : Nat → Prop) : AllRows w P [] [] := by rw [AllRows]
theorem AllRows.snoc {w : World} {P : Nat → Prop} {b : List It} {v : Value} (hb : RowAt w P b v) : ∀ {l : List (List It)} {vs : List Value}, AllRows w P l vs → AllRows w P (l ++ [b]) (vs ++ [v])
  | [], vs, h => by
    obtain ⟨xs, h1, h2⟩ := hb
    rw [AllRows] at h; rw [h, List.nil_append, List.nil_append, AllRows]; exact ⟨v, [], xs, rfl, h1, h2, AllRows.nil w P⟩
  | j :: l, vs, h => by
    rw [AllRows] at h
    obtain ⟨u, t, xs, e, h1, h2, h3⟩ := h
    rw [e, List.cons_append, List.cons_append, AllRows]
    exact ⟨u, t ++ [v], xs, rfl, h1, h2, AllRows.snoc hb h3⟩

/-- A row of the call's own reads as its values. -/
theorem own_reads {w : World} {base : Nat} {e : TypeId} {v : Value} {n : Nat} {xs : List Value} (h : w.ownsRow base e 1 v n xs) (hn : n = xs.length) : Reads w (fun b => base ≤ b) v xs := by
  rcases h.2 with ⟨rfl, h0⟩ | ⟨gb, cap, cur, hv, hb, hg, _⟩
  · exact ⟨none, 0, by rw [← hn, h0], fun hpos => absurd hpos (by omega)⟩
  · subst hv
    subst hn
    refine ⟨_, _, rfl, fun _ => ⟨gb, 0, rfl, ?_, hb, fun j hj => ?_⟩⟩
    · rcases Nat.lt_or_ge gb w.heap.size with h' | h'
      · exact h'
      · rw [Array.getElem?_eq_none h'] at hg; cases hg
    · have hc := h.cellAt j (by omega)
      rw [List.getElem?_eq_getElem hj] at hc
      rw [Nat.zero_add]; exact hc
end Go.Proofs.YtgebedbankibmaaGreatDoor

/-
  The program's reader: a bracket, a frame, brackets; each leans on the contract of items for what is shorter.
-/
namespace Go.Proofs.YtgebedbankibmaaGreatDoor
open Go.RowKit Go.Sort

/-- Blocks that a call has made. -/
abbrev NewIn (w : World) : Nat → Prop := fun b => w.heap.size ≤ b

def ItemsPost (R f : Nat) (s : List UInt8) (w : World) (e : Ending) (w' : World) : Prop :=
  (∃ l r v, RdL f s l r ∧ e = .returned v ∧ v.oneCell' = true ∧ RowAt w' (NewIn w) l v ∧ Rdr w' R r f ∧ Only R w w') ∨ (Mis e ∧ NoL f s ∧ Only R w w')
def ItemPost (R f : Nat) (s : List UInt8) (w : World) (e : Ending) (w' : World) : Prop :=
  (∃ i r v, RdI f s i r ∧ e = .returned v ∧ v.oneCell' = true ∧ ItemAt w' (NewIn w) i v ∧ Rdr w' R r f ∧ Only R w w') ∨ (Mis e ∧ NoI f s ∧ Only R w w')
def BrPost (R f : Nat) (s : List UInt8) (w : World) (e : Ending) (w' : World) : Prop :=
  (∃ l r v, RdB f s l r ∧ e = .returned v ∧ v.oneCell' = true ∧ RowAt w' (NewIn w) l v ∧ Rdr w' R r f ∧ Only R w w') ∨ (Mis e ∧ NoB f s ∧ Only R w w')

/-- The contract of items, for texts of so many bytes at most. -/
def ItemsOk (n : Nat) : Prop := ∀ (R f : Nat) (s : List UInt8) (w : World), s.length ≤ n → f ≤ 9 → Rdr w R s f →
  Calls Tryz.prog 112 #[.pointer (some ⟨R, 0, none⟩)] w (ItemsPost R f s w)

theorem Rdr.lt {w : World} {R : Nat} {s : List UInt8} {f : Nat} (h : Rdr w R s f) : R < w.heap.size := Blk.lt h
/-- What a call has made stays, whatever of the reader turns. -/
theorem stay_set {w w1 : World} {R : Nat} (hR : R < w.heap.size) (i : Nat) (u : Value) : Stay w1 (NewIn w) (w1.setCell ⟨R, i, none⟩ u) (NewIn w) :=
  ⟨by simp, fun b hb hp => ⟨hp, Below.heap_setCell w1 ⟨R, i, none⟩ u b (by show b ≠ R; have : w.heap.size ≤ b := hp; omega)⟩⟩
theorem newIn_set {w : World} (R i : Nat) (u : Value) : NewIn (w.setCell ⟨R, i, none⟩ u) = NewIn w := by
  funext b; unfold NewIn; simp

set_option maxRecDepth 100000 in
theorem bracket_any (n : Nat) (HI : ItemsOk n) (R f : Nat) (s : List UInt8) (w : World) (hs : s.length ≤ n + 1) (hf : f ≤ 9) (h : Rdr w R s f) :
    Calls Tryz.prog 172 #[.pointer (some ⟨R, 0, none⟩)] w (BrPost R f s w) := by
  have HIX := Lib.hid HI
  clear HI
  by_cases hb : ∃ t, s = 91 :: t
  · obtain ⟨t, rfl⟩ := hb
    have HN := Lib.hid (need_yes R f 91 t w h)
    have HT := Lib.hid (HIX.out R f t _ (by simpa using hs) hf (h.to t))
    have hR := h.lt
    clear h
    go_enter Tryz.func172, Tryz.ntmps172
    go_wp2_with fail
    refine HN.out.mono ?_
    rintro e w1 ⟨rfl, rfl⟩
    go_wp2_with fail
    refine HT.out.mono ?_
    rintro e w2 (⟨l, r, v, hl, rfl, h1c, hrow, hr, ho⟩ | ⟨⟨u, rfl⟩, hno, ho⟩)
    · have HL := Lib.hid hl
      have HROW := Lib.hid hrow
      have HO := Lib.hid ho
      have H1 := Lib.hid h1c
      by_cases hr93 : ∃ q, r = 93 :: q
      · obtain ⟨q, rfl⟩ := hr93
        have HN2 := Lib.hid (need_yes R f 93 q w2 hr)
        have HR2 := Lib.hid (hr.to q)
        clear hl hrow ho hr h1c
        go_wp2_with fail
        refine HN2.out.mono ?_
        rintro e w3 ⟨rfl, rfl⟩
        go_wp2_with fail
        go_ret
        refine .inl ⟨l, q, v, rdB_of HL.out, rfl, H1.out, ?_, HR2.out, ((Only.set R w 0 _).trans HO.out).trans (Only.set R w2 0 _)⟩
        have := HROW.out
        rw [newIn_set] at this
        exact this.stay (stay_set hR 0 _)
      · have HN2 := Lib.hid (need_no R f 93 r w2 hr fun q e => hr93 ⟨q, e⟩)
        have HNO := Lib.hid (noB_end hl fun q e => hr93 ⟨q, e⟩)
        clear hl hrow ho hr h1c hr93
        go_wp2_with fail
        refine HN2.out.mono ?_
        rintro e w3 ⟨⟨u, rfl⟩, ho3⟩
        go_wp2_with fail
        exact ⟨rfl, .inr ⟨⟨_, rfl⟩, HNO.out, ((Only.set R w 0 _).trans HO.out).trans ho3⟩⟩
    · go_wp2_with fail
      exact ⟨rfl, .inr ⟨⟨_, rfl⟩, noB_items hno, (Only.set R w 0 _).trans ho⟩⟩
  · have HN := Lib.hid (need_no R f 91 s w h fun t e => hb ⟨t, e⟩)
    have HNO := Lib.hid (noB_hd (f := f) fun t e => hb ⟨t, e⟩)
    clear h hb
    go_enter Tryz.func172, Tryz.ntmps172
    go_wp2_with fail
    refine HN.out.mono ?_
    rintro e w1 ⟨⟨u, rfl⟩, ho⟩
    go_wp2_with fail
    exact ⟨rfl, .inr ⟨⟨_, rfl⟩, HNO.out, ho⟩⟩

def FrPost (R f : Nat) (b : Bool) (s : List UInt8) (w : World) (e : Ending) (w' : World) : Prop :=
  (∃ l r v, f < 9 ∧ RdL (f + 1) s l (cls b :: r) ∧ e = .returned v ∧ v.oneCell' = true ∧ RowAt w' (NewIn w) l v ∧ Rdr w' R r f ∧ Only R w w') ∨ (Mis e ∧ NoI f (opn b :: s) ∧ Only R w w')

set_option maxRecDepth 100000 in
theorem frame_any (n : Nat) (HI : ItemsOk n) (R f : Nat) (b : Bool) (s : List UInt8) (w : World) (hs : s.length ≤ n) (hf : f ≤ 9) (h : Rdr w R s f) :
    Calls Tryz.prog 173 #[.pointer (some ⟨R, 0, none⟩), .string (tb [cls b])] w (FrPost R f b s w) := by
  have c1 := h.frames
  have f1 : w.frozen? ⟨R, 1, none⟩ = false := Blk.frozen h 1
  by_cases h9 : f = 9
  · have t1 : ((f : Int) == 9) = true := by subst h9; rfl
    have HNO := Lib.hid (noI_frame_full b (t := s) (by omega : 9 ≤ f))
    clear HI h h9
    go_enter Tryz.func173, Tryz.ntmps173
    go_wp2_with fail
    exact ⟨rfl, .inr ⟨⟨_, rfl⟩, HNO.out, Only.refl _ _⟩⟩
  · have t1 : ((f : Int) == 9) = false := beq_eq_false_iff_ne.2 (by omega)
    have hi := h.in_ (f + 1)
    have e1 : ((f + 1 : Nat) : Int) = (f : Int) + 1 := by omega
    rw [e1] at hi
    have HT := Lib.hid (HI R (f + 1) s _ hs (by omega) hi)
    have hR := h.lt
    have s2 : IntKind.i64.wrap ((f : Int) + 1 - 1) = (f : Int) := by rw [show (f : Int) + 1 - 1 = (f : Int) by omega]; exact IntWalk.i64_in _ (by omega)
    clear HI h hi
    go_enter Tryz.func173, Tryz.ntmps173
    go_wp2_with fail
    refine HT.out.mono ?_
    rintro e w2 (⟨l, r, v, hl, rfl, h1c, hrow, hr, ho⟩ | ⟨⟨u, rfl⟩, hno, ho⟩)
    · have d1 := hr.frames
      have g1 : w2.frozen? ⟨R, 1, none⟩ = false := Blk.frozen hr 1
      have hr2 := hr.in_ f
      have HL := Lib.hid hl
      have HROW := Lib.hid hrow
      have HO := Lib.hid ho
      have H1 := Lib.hid h1c
      rw [e1] at d1
      by_cases hrc : ∃ q, r = cls b :: q
      · obtain ⟨q, rfl⟩ := hrc
        have HN2 := Lib.hid (need_yes R f (cls b) q _ hr2)
        have HR2 := Lib.hid (hr2.to q)
        clear hl hrow ho hr hr2 h1c
        go_wp2_with fail
        refine HN2.out.mono ?_
        rintro e w3 ⟨rfl, rfl⟩
        go_wp2_with fail
        go_ret
        refine .inl ⟨l, q, v, by omega, HL.out, rfl, H1.out, ?_, HR2.out, (((Only.set R w 1 _).trans HO.out).trans (Only.set R w2 1 _)).trans (Only.set R _ 0 _)⟩
        have := HROW.out
        rw [newIn_set] at this
        exact (this.stay (stay_set hR 1 _)).stay (stay_set hR 0 _)
      · have HN2 := Lib.hid (need_no R f (cls b) r _ hr2 fun q e => hrc ⟨q, e⟩)
        have HNO := Lib.hid (noI_frame_end b hl fun q e => hrc ⟨q, e⟩)
        clear hl hrow ho hr hr2 h1c hrc
        go_wp2_with fail
        refine HN2.out.mono ?_
        rintro e w3 ⟨⟨u, rfl⟩, ho3⟩
        go_wp2_with fail
        exact ⟨rfl, .inr ⟨⟨_, rfl⟩, HNO.out, (((Only.set R w 1 _).trans HO.out).trans (Only.set R w2 1 _)).trans ho3⟩⟩
    · go_wp2_with fail
      exact ⟨rfl, .inr ⟨⟨_, rfl⟩, noI_frame b hno, (Only.set R w 1 _).trans ho⟩⟩
end Go.Proofs.YtgebedbankibmaaGreatDoor
