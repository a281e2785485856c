/-
  The program's reader of texts: what it is in memory, and the contracts of its small steps: it goes on by a byte, or panics.
-/
import Derived.Test.YtelhogeaobofpaaOnly
import Derived.Test.YtelhogeaobofpaaTextRead
import Derived.Test.YtelhogeaobofpaaShelf
import Derived.WalkLawsBesides
import Derived.Recover
namespace Go.Proofs.Ytelhogeaobofpaa
open Go.RowKit Go.Sort

/-- A text by its bytes. -/
def tb (s : List UInt8) : ByteArray := ⟨s.toArray⟩
theorem tb_size (s : List UInt8) : (tb s).size = s.length := by show s.toArray.size = _; simp
theorem tb_toList (s : List UInt8) : (tb s).toList = s := by rw [Lib.toList_data]; simp [tb]
theorem tb_data (s : List UInt8) : (tb s).data.toList = s := by simp [tb]
theorem tb_of (b : ByteArray) : tb b.data.toList = b := by apply ba_ext; rw [tb_data]
theorem tb_head (c : UInt8) (s : List UInt8) : (tb (c :: s)).extract 0 1 = tb [c] := by
  apply ba_ext; rw [← Lib.toList_data, Lib.extract_toList, tb_data, tb_data]; simp
theorem tb_tail (c : UInt8) (s : List UInt8) : (tb (c :: s)).extract 1 (s.length + 1) = tb s := by
  apply ba_ext; rw [← Lib.toList_data, Lib.extract_toList, tb_data, tb_data]; simp

/-- The program's own panic. -/
def Mis (e : Ending) : Prop := ∃ v, e = .panicked [{ v := .iface 9 (.string v), recovered := false }]

/-- A reader in block R: what has not been read, and how many frames lie around it. -/
def Rdr (w : World) (R : Nat) (s : List UInt8) (f : Nat) : Prop := Blk w R 93 #[.string (tb s), .int .i64 f]
theorem Rdr.to {w : World} {R : Nat} {s : List UInt8} {f : Nat} (h : Rdr w R s f) (t : List UInt8) : Rdr (w.setCell ⟨R, 0, none⟩ (.string (tb t))) R t f := Blk.set_ h 0 _
theorem Rdr.in_ {w : World} {R : Nat} {s : List UInt8} {f : Nat} (h : Rdr w R s f) (k : Nat) : Rdr (w.setCell ⟨R, 1, none⟩ (.int .i64 k)) R s k := Blk.set_ h 1 _
theorem Rdr.left {w : World} {R : Nat} {s : List UInt8} {f : Nat} (h : Rdr w R s f) : w.cell? ⟨R, 0, none⟩ = some (.string (tb s)) := Blk.cell h 0
theorem Rdr.frames {w : World} {R : Nat} {s : List UInt8} {f : Nat} (h : Rdr w R s f) : w.cell? ⟨R, 1, none⟩ = some (.int .i64 f) := Blk.cell h 1
theorem Only.set (R : Nat) (w : World) (i : Nat) (u : Value) : Only R w (w.setCell ⟨R, i, none⟩ u) :=
  ⟨rfl, rfl, rfl, by simp, fun k hk _ => Below.heap_setCell w ⟨R, i, none⟩ u k hk⟩

set_option maxRecDepth 100000 in
theorem next_none (R f : Nat) (w : World) (h : Rdr w R [] f) :
    Calls Try.prog 87 #[.pointer (some ⟨R, 0, none⟩)] w fun e w' => Mis e ∧ w' = w := by
  have c0 := h.left
  have t1 : ((tb []).toList == ([] : List UInt8)) = true := by rw [tb_toList]; rfl
  clear h
  go_enter Try.func87, Try.ntmps87
  go_wp2_with fail
  exact ⟨rfl, ⟨_, rfl⟩, rfl⟩

set_option maxRecDepth 100000 in
theorem next_one (R f : Nat) (c : UInt8) (s : List UInt8) (w : World) (h : Rdr w R (c :: s) f) :
    Calls Try.prog 87 #[.pointer (some ⟨R, 0, none⟩)] w fun e w' => e = .returned (.string (tb [c])) ∧ w' = w.setCell ⟨R, 0, none⟩ (.string (tb s)) := by
  have c0 := h.left
  have f0 : w.frozen? ⟨R, 0, none⟩ = false := Blk.frozen h 0
  have HT := Lib.hid (tb_tail c s)
  have HH := Lib.hid (tb_head c s)
  obtain ⟨x, hx⟩ : ∃ x, x = tb (c :: s) := ⟨_, rfl⟩
  have hz : x.size = s.length + 1 := by rw [hx, tb_size]; rfl
  have t1 : (x.toList == ([] : List UInt8)) = false := by rw [hx, tb_toList]; rfl
  rw [← hx] at c0 HT HH
  have l1 : 1 ≤ x.size := by omega
  have l2 : (1 : Int) ≤ (x.size : Int) := by omega
  rw [← hz] at HT
  clear h hx hz
  go_enter Try.func87, Try.ntmps87
  go_wp2_with fail
  go_ret
  exact ⟨by rw [HH.out]; rfl, by rw [HT.out]⟩

theorem tb_ne {c x : UInt8} (h : c ≠ x) : ((tb [c]).toList == (tb [x]).toList) = false := by
  rw [tb_toList, tb_toList]; simpa using h

set_option maxRecDepth 100000 in
theorem need_yes (R f : Nat) (c : UInt8) (s : List UInt8) (w : World) (h : Rdr w R (c :: s) f) :
    Calls Try.prog 100 #[.pointer (some ⟨R, 0, none⟩), .string (tb [c])] w fun e w' => e = .returned (.tuple #[]) ∧ w' = w.setCell ⟨R, 0, none⟩ (.string (tb s)) := by
  have HC := Lib.hid (next_one R f c s w h)
  have t1 : ((tb [c]).toList == (tb [c]).toList) = true := by simp
  have t2 : ((tb [c]).toList != (tb [c]).toList) = false := by simp
  clear h
  go_enter Try.func100, Try.ntmps100
  go_wp2_with fail
  refine HC.out.mono ?_
  rintro e w1 ⟨rfl, rfl⟩
  go_wp2_with fail
  first | (go_ret; exact ⟨rfl, rfl⟩) | (go_end0; exact ⟨rfl, rfl⟩) | go_end0

set_option maxRecDepth 100000 in
theorem need_no (R f : Nat) (x : UInt8) (s : List UInt8) (w : World) (h : Rdr w R s f) (hx : ∀ t, s ≠ x :: t) :
    Calls Try.prog 100 #[.pointer (some ⟨R, 0, none⟩), .string (tb [x])] w fun e w' => Mis e ∧ Only R w w' := by
  cases s with
  | nil =>
    have HC := Lib.hid (next_none R f w h)
    clear h
    go_enter Try.func100, Try.ntmps100
    go_wp2_with fail
    refine HC.out.mono ?_
    rintro e w1 ⟨⟨v, rfl⟩, rfl⟩
    go_wp2_with fail
    exact ⟨rfl, ⟨_, rfl⟩, Only.refl _ _⟩
  | cons c t =>
    have HC := Lib.hid (next_one R f c t w h)
    have hne : c ≠ x := fun e => hx t (by rw [e])
    have t1 := tb_ne hne
    clear h hx hne
    go_enter Try.func100, Try.ntmps100
    go_wp2_with fail
    refine HC.out.mono ?_
    rintro e w1 ⟨rfl, rfl⟩
    go_wp2_with fail
    exact ⟨rfl, ⟨_, rfl⟩, Only.set R w 0 _⟩

set_option maxRecDepth 100000 in
theorem end_yes (R f : Nat) (w : World) (h : Rdr w R [] f) :
    Calls Try.prog 69 #[.pointer (some ⟨R, 0, none⟩)] w fun e w' => e = .returned (.tuple #[]) ∧ w' = w := by
  have c0 := h.left
  have t1 : ((tb []).toList == ([] : List UInt8)) = true := by rw [tb_toList]; rfl
  clear h
  go_enter Try.func69, Try.ntmps69
  go_wp2_with fail
  first | (go_ret; exact ⟨rfl, rfl⟩) | (go_end0; exact ⟨rfl, rfl⟩) | go_end0

set_option maxRecDepth 100000 in
theorem end_no (R f : Nat) (c : UInt8) (s : List UInt8) (w : World) (h : Rdr w R (c :: s) f) :
    Calls Try.prog 69 #[.pointer (some ⟨R, 0, none⟩)] w fun e w' => Mis e ∧ w' = w := by
  have c0 := h.left
  have t1 : ((tb (c :: s)).toList == ([] : List UInt8)) = false := by rw [tb_toList]; rfl
  clear h
  go_enter Try.func69, Try.ntmps69
  go_wp2_with fail
  exact ⟨rfl, ⟨_, rfl⟩, rfl⟩

theorem nameB_tb (c : UInt8) : nameB (tb [c]) = letB c := by
  unfold nameB
  rw [tb_size, tb_data]; simp

set_option maxRecDepth 100000 in
theorem name_yes (R : Nat) (c : UInt8) (w : World) (hc : letB c = true) :
    Calls Try.prog 88 #[.pointer (some ⟨R, 0, none⟩), .string (tb [c])] w fun e w' => e = .returned (.string (tb [c])) ∧ w' = w := by
  have HC := Lib.hid (by have := isName_any (tb [c]) w; rw [nameB_tb, hc] at this; exact this : Calls Try.prog 99 #[.string (tb [c])] w fun e w' => e = .returned (.bool true) ∧ w = w')
  go_enter Try.func88, Try.ntmps88
  go_wp2_with fail
  refine HC.out.mono ?_
  rintro e w1 ⟨rfl, rfl⟩
  go_wp2_with fail
  go_ret
  exact ⟨rfl, rfl⟩

set_option maxRecDepth 100000 in
theorem name_no (R : Nat) (c : UInt8) (w : World) (hc : letB c = false) :
    Calls Try.prog 88 #[.pointer (some ⟨R, 0, none⟩), .string (tb [c])] w fun e w' => Mis e ∧ w' = w := by
  have HC := Lib.hid (by have := isName_any (tb [c]) w; rw [nameB_tb, hc] at this; exact this : Calls Try.prog 99 #[.string (tb [c])] w fun e w' => e = .returned (.bool false) ∧ w = w')
  go_enter Try.func88, Try.ntmps88
  go_wp2_with fail
  refine HC.out.mono ?_
  rintro e w1 ⟨rfl, rfl⟩
  go_wp2_with fail
  exact ⟨rfl, ⟨_, rfl⟩, rfl⟩

/-- The digits. -/
def digs : List UInt8 := [48, 49, 50, 51, 52, 53, 54, 55, 56, 57]
theorem digs_at : ∀ n, n < 10 → Lib.indexByte digs (dig n) = (n : Int) := by decide
theorem digs_mem {c : UInt8} (h : c ∈ digs) : ∃ n, n < 10 ∧ c = dig n := by
  unfold digs at h
  simp only [List.mem_cons, List.not_mem_nil, or_false] at h
  rcases h with h | h | h | h | h | h | h | h | h | h
  · exact ⟨0, by decide, h⟩
  · exact ⟨1, by decide, h⟩
  · exact ⟨2, by decide, h⟩
  · exact ⟨3, by decide, h⟩
  · exact ⟨4, by decide, h⟩
  · exact ⟨5, by decide, h⟩
  · exact ⟨6, by decide, h⟩
  · exact ⟨7, by decide, h⟩
  · exact ⟨8, by decide, h⟩
  · exact ⟨9, by decide, h⟩

theorem digs_idx (c : UInt8) (W : World) : Calls Try.prog 72 #[.string ⟨#[48, 49, 50, 51, 52, 53, 54, 55, 56, 57]⟩, .string (tb [c])] W fun e w' => e = .returned (.int .i64 (Lib.indexByte digs c)) ∧ w' = W :=
  Try.strings_Index_one ⟨#[48, 49, 50, 51, 52, 53, 54, 55, 56, 57]⟩ c W

set_option maxRecDepth 100000 in
theorem digit_yes (R f n lim : Nat) (s : List UInt8) (w : World) (h : Rdr w R (dig n :: s) f) (h10 : n < 10) (hl : n < lim) :
    Calls Try.prog 91 #[.pointer (some ⟨R, 0, none⟩), .int .i64 lim] w fun e w' => e = .returned (.int .i64 n) ∧ w' = w.setCell ⟨R, 0, none⟩ (.string (tb s)) := by
  have HC := Lib.hid (next_one R f (dig n) s w h)
  have HI := Lib.hid (fun W => (by have := Try.strings_Index_one ⟨#[48, 49, 50, 51, 52, 53, 54, 55, 56, 57]⟩ (dig n) W; rw [show Lib.indexByte (⟨#[48, 49, 50, 51, 52, 53, 54, 55, 56, 57]⟩ : ByteArray).data.toList (dig n) = (n : Int) from digs_at n h10] at this; exact this : Calls Try.prog 72 #[.string ⟨#[48, 49, 50, 51, 52, 53, 54, 55, 56, 57]⟩, .string (tb [dig n])] W fun e w' => e = .returned (.int .i64 n) ∧ w' = W))
  have q1 : decide ((lim : Int) ≤ (n : Int)) = false := decide_eq_false (by omega)
  have q2 : ¬ lim ≤ n := by omega
  clear h
  go_enter Try.func91, Try.ntmps91
  go_wp2_with fail
  refine HC.out.mono ?_
  rintro e w1 ⟨rfl, rfl⟩
  go_wp2_with fail
  refine (HI.out _).mono ?_
  rintro e w2 ⟨rfl, rfl⟩
  go_wp2_with fail
  go_ret
  exact ⟨rfl, rfl⟩

set_option maxRecDepth 100000 in
theorem digit_no (R f lim : Nat) (s : List UInt8) (w : World) (h : Rdr w R s f) (hx : ∀ n t, n < 10 → n < lim → s ≠ dig n :: t) :
    Calls Try.prog 91 #[.pointer (some ⟨R, 0, none⟩), .int .i64 lim] w fun e w' => Mis e ∧ Only R w w' := by
  cases s with
  | nil =>
    have HC := Lib.hid (next_none R f w h)
    clear h
    go_enter Try.func91, Try.ntmps91
    go_wp2_with fail
    refine HC.out.mono ?_
    rintro e w1 ⟨⟨v, rfl⟩, rfl⟩
    go_wp2_with fail
    exact ⟨rfl, ⟨_, rfl⟩, Only.refl _ _⟩
  | cons c t =>
    have HC := Lib.hid (next_one R f c t w h)
    have HI := Lib.hid (fun W => digs_idx c W)
    clear h
    by_cases hm : c ∈ digs
    · obtain ⟨n, hn, rfl⟩ := digs_mem hm
      have hl : ¬ n < lim := fun hl => hx n t hn hl rfl
      rw [digs_at n hn] at HI
      have q1 : decide ((lim : Int) ≤ (n : Int)) = true := decide_eq_true (by omega)
      have q2 : lim ≤ n := by omega
      clear hx hm
      go_enter Try.func91, Try.ntmps91
      go_wp2_with fail
      refine HC.out.mono ?_
      rintro e w1 ⟨rfl, rfl⟩
      go_wp2_with fail
      refine (HI.out _).mono ?_
      rintro e w2 ⟨rfl, rfl⟩
      go_wp2_with fail
      exact ⟨rfl, ⟨_, rfl⟩, Only.set R w 0 _⟩
    · have hneg := idx_neg.2 hm
      obtain ⟨z, hz⟩ : ∃ z, z = Lib.indexByte digs c := ⟨_, rfl⟩
      rw [← hz] at HI hneg
      have q1 : decide (z < 0) = true := decide_eq_true hneg
      clear hx hm hz
      go_enter Try.func91, Try.ntmps91
      go_wp2_with fail
      refine HC.out.mono ?_
      rintro e w1 ⟨rfl, rfl⟩
      go_wp2_with fail
      refine (HI.out _).mono ?_
      rintro e w2 ⟨rfl, rfl⟩
      go_wp2_with fail
      exact ⟨rfl, ⟨_, rfl⟩, Only.set R w 0 _⟩
end Go.Proofs.Ytelhogeaobofpaa
