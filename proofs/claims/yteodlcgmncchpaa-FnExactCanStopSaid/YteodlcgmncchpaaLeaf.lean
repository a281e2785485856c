/-
  Contracts of the small functions: a byte's place in a string, a letter, a name; the sizes, copies and comparison of blocks.
-/
import Derived.Test.YteodlcgmncchpaaProg
import Derived.Test.YteodlcgmncchpaaLists
import Derived.WalkKit
import Derived.WalkSpells
import Derived.Lib.Hide
import Derived.Deep.QuietTactic
import Derived.BigQuiet
namespace Go.Proofs.Yteodlcgmncchpaa
open Go.RowKit

theorem ret_int {k : IntKind} {a b : Int} (h : a = b) : Ending.returned (.int k a) = .returned (.int k b) := by rw [h]
theorem ret_bool {a b : Bool} (h : a = b) : Ending.returned (.bool a) = .returned (.bool b) := by rw [h]

theorem byte_ne {a b : UInt8} (h : a ≠ b) : ((a.toNat : Int) == (b.toNat : Int)) = false := by
  have : a.toNat ≠ b.toNat := fun e => h (UInt8.toNat_inj.1 e)
  simp; omega

theorem byte_at (s : ByteArray) (k : Nat) (h : k < s.size) : s.data.toList[k]? = some s[k] := by
  have h' : k < s.data.toList.length := by simpa using h
  rw [List.getElem?_eq_getElem h']; rfl

set_option maxHeartbeats 400000 in
theorem find_any (s : ByteArray) (c : UInt8) (w : World) (hs : s.size ≤ 4611686018427387904) :
    Calls Try.prog 64 #[.string s, .int .u8 c.toNat] w fun e w' => e = .returned (.int .i64 (Lib.indexByte s.data.toList c)) ∧ w = w' := by
  go_enter Try.func64, Try.ntmps64
  go_wp2
  go_loop [5] (fun i => ∃ k : Nat, k ≤ s.size ∧ i = .int .i64 k ∧ Hid (∀ j, j < k → s.data.toList[j]? ≠ some c)) (fun i => s.size - (intOf i).toNat)
  case atStart => exact ⟨0, Nat.zero_le _, rfl, fun j hj => absurd hj (by omega)⟩
  case round =>
    obtain ⟨k, hk, rfl, HK⟩ := hrel
    by_cases hlt : k < s.size
    · by_cases hc : s[k] = c
      · have hcc : (s[k].toNat : Int) = (c.toNat : Int) := by rw [hc]
        have HH := Lib.hid hc
        clear hc
        go_wp2
        go_ret
        exact ⟨ret_int (idx_found HK.out (by rw [byte_at s k hlt, HH.out])).symm, rfl⟩
      · have hcc := byte_ne hc
        have HH := Lib.hid hc
        clear hc
        go_wp2
        go_round
        case rel =>
          refine ⟨k + 1, by omega, by go_num, fun j hj => ?_⟩
          rcases Nat.lt_succ_iff_lt_or_eq.1 hj with h | rfl
          · exact HK.out j h
          · rw [byte_at s j hlt]; exact fun e => HH.out (Option.some.inj e)
        case measure => simp [intOf]; omega
    · go_wp2
      go_ret
      exact ⟨ret_int (idx_none fun j hj => HK.out j (by have : j < s.size := by simpa using hj
                                                        omega)).symm, rfl⟩

def inB (n lo hi : Int) : Bool := decide (lo ≤ n) && decide (n ≤ hi)

theorem in_any (n lo hi : Int) (w : World) :
    Calls Try.prog 79 #[.int .i64 n, .int .i64 lo, .int .i64 hi] w fun e w' => e = .returned (.bool (inB n lo hi)) ∧ w = w' := by
  by_cases h1 : lo ≤ n <;> by_cases h2 : n ≤ hi
  all_goals
    have b1 : inB n lo hi = inB n lo hi := rfl
    conv at b1 => rhs; unfold inB; simp only [h1, h2]
    have HH := Lib.hid b1
    clear b1
    go_enter Try.func79, Try.ntmps79
    go_wp2
    go_ret
    exact ⟨ret_bool (by rw [HH.out]; first | rfl | simp [h1, h2]), rfl⟩

def letB (c : UInt8) : Bool := decide (65 ≤ c.toNat) && decide (c.toNat ≤ 90)

theorem letter_any (c : UInt8) (w : World) :
    Calls Try.prog 78 #[.int .u8 c.toNat] w fun e w' => e = .returned (.bool (letB c)) ∧ w = w' := by
  have hc : c.toNat < 256 := UInt8.toNat_lt c
  go_enter Try.func78, Try.ntmps78
  go_wp2_with (go_at_call 79; refine (in_any _ _ _ _).mono ?_; rintro e w' ⟨rfl, rfl⟩)
  go_ret
  refine ⟨ret_bool ?_, rfl⟩
  unfold inB letB
  congr 1 <;> (apply decide_eq_decide.2; omega)

/-- A name: one capital letter. -/
def nameB (s : ByteArray) : Bool := s.size == 1 && letB (s.data.toList.getD 0 0)

theorem isName_any (s : ByteArray) (w : World) :
    Calls Try.prog 68 #[.string s] w fun e w' => e = .returned (.bool (nameB s)) ∧ w = w' := by
  by_cases h1 : s.size = 1
  · have h4 : 0 < s.size := by omega
    have hb : nameB s = letB (s[0]'h4) := by
      unfold nameB
      have := byte_at s 0 (by omega)
      rw [List.getD_eq_getElem?_getD, this]
      simp [h1]
    have h1' : ((s.size : Int) == 1) = true := by rw [h1]; rfl
    have HB := Lib.hid hb
    have H1 := Lib.hid h1
    clear hb h1
    have e1 : decide (65 ≤ (s[0]'h4).toNat) = decide (65 ≤ ((s[0]'h4).toNat : Int)) := by apply decide_eq_decide.2; omega
    have e2 : decide ((s[0]'h4).toNat ≤ 90) = decide (((s[0]'h4).toNat : Int) ≤ 90) := by apply decide_eq_decide.2; omega
    have E1 := Lib.hid e1
    have E2 := Lib.hid e2
    clear e1 e2
    have h5 : (65 ≤ ((s[0]'h4).toNat : Int) ∧ ((s[0]'h4).toNat : Int) ≤ 90) ∨ (65 ≤ ((s[0]'h4).toNat : Int) ∧ ¬ ((s[0]'h4).toNat : Int) ≤ 90) ∨ (¬ 65 ≤ ((s[0]'h4).toNat : Int) ∧ ((s[0]'h4).toNat : Int) ≤ 90) := by omega
    rcases h5 with ⟨h2, h3⟩ | ⟨h2, h3⟩ | ⟨h2, h3⟩
    all_goals
      go_enter Try.func68, Try.ntmps68
      go_wp2
      go_ret
      refine ⟨ret_bool ?_, rfl⟩
      have e3 : letB (s[0]'h4) = (decide (65 ≤ ((s[0]'h4).toNat : Int)) && decide (((s[0]'h4).toNat : Int) ≤ 90)) := by
        rw [← E1.out, ← E2.out]; rfl
      rw [HB.out, e3]
      simp_all
  · have hb : nameB s = false := by unfold nameB; simp [h1]
    have h1' : ((s.size : Int) == 1) = false := by simp; omega
    have HB := Lib.hid hb
    clear hb h1
    go_enter Try.func68, Try.ntmps68
    go_wp2
    go_ret
    exact ⟨ret_bool HB.out.symm, rfl⟩

/-- Two one-cell fields by value. -/
abbrev blk (s t : ByteArray) : Value := .agg #[.string s, .string t]

def szL (s t : ByteArray) (l : Int) : Int := if l - s.size - t.size < 0 then -1 else l - s.size - t.size

theorem szBlock_any (s t : ByteArray) (l : Int) (w : World) (hs : s.size ≤ 9223372036854775807) (ht : t.size ≤ 9223372036854775807) (h0 : 0 ≤ l) (h1 : l ≤ 1048576) :
    Calls Try.prog 44 #[blk s t, .int .i64 l] w fun e w' => (e = .returned (.int .i64 (szL s t l))) ∧ Below w.heap.size w w' := by
  by_cases hA : l - s.size < 0
  · have HB := Lib.hid (show szL s t l = -1 by unfold szL; rw [if_pos (by omega)])
    go_enter Try.func44, Try.ntmps44
    go_wp2
    go_ret
    exact ⟨ret_int HB.out.symm, (Below.refl _ _).alloc (Nat.le_refl _) _⟩
  · by_cases hB : l - s.size - t.size < 0
    · have HB := Lib.hid (show szL s t l = -1 by unfold szL; rw [if_pos (by omega)])
      go_enter Try.func44, Try.ntmps44
      go_wp2
      go_ret
      exact ⟨ret_int HB.out.symm, (Below.refl _ _).alloc (Nat.le_refl _) _⟩
    · have HB := Lib.hid (show szL s t l = l - s.size - t.size by unfold szL; rw [if_neg (by omega)])
      go_enter Try.func44, Try.ntmps44
      go_wp2
      go_ret
      exact ⟨ret_int HB.out.symm, (Below.refl _ _).alloc (Nat.le_refl _) _⟩

theorem toBlock_any (s t : ByteArray) (w : World) :
    Calls Try.prog 48 #[blk s t] w fun e w' => e = .returned (blk s t) ∧ Below w.heap.size w w' := by
  go_enter Try.func48, Try.ntmps48
  go_wp2
  exact bodyPost_ret (v := blk s t) (by simp [results, Try.results48, go_sem]) rfl ⟨rfl, (((Below.refl _ _).alloc (Nat.le_refl _) _).alloc (by simp) _).alloc (by simp; omega) _⟩

def eqB (s t s' t' : ByteArray) : Bool := s.toList == s'.toList && t.toList == t'.toList

theorem eqBlock_any (s t s' t' : ByteArray) (w : World) :
    Calls Try.prog 52 #[blk s t, blk s' t'] w fun e w' => e = .returned (.bool (eqB s t s' t')) ∧ Below w.heap.size w w' := by
  by_cases h1 : (s.toList == s'.toList) = true
  · by_cases h2 : (t.toList == t'.toList) = true
    · have HB := Lib.hid (show eqB s t s' t' = true by unfold eqB; rw [h1, h2]; rfl)
      go_enter Try.func52, Try.ntmps52
      go_wp2
      go_ret
      exact ⟨ret_bool HB.out.symm, ((Below.refl _ _).alloc (Nat.le_refl _) _).alloc (by simp) _⟩
    · have h2' : (t.toList == t'.toList) = false := by simpa using h2
      clear h2
      have HB := Lib.hid (show eqB s t s' t' = false by unfold eqB; rw [h1, h2']; rfl)
      go_enter Try.func52, Try.ntmps52
      go_wp2
      go_ret
      exact ⟨ret_bool HB.out.symm, ((Below.refl _ _).alloc (Nat.le_refl _) _).alloc (by simp) _⟩
  · have h1' : (s.toList == s'.toList) = false := by simpa using h1
    clear h1
    have HB := Lib.hid (show eqB s t s' t' = false by unfold eqB; rw [h1']; rfl)
    go_enter Try.func52, Try.ntmps52
    go_wp2
    go_ret
    exact ⟨ret_bool HB.out.symm, ((Below.refl _ _).alloc (Nat.le_refl _) _).alloc (by simp) _⟩
end Go.Proofs.Yteodlcgmncchpaa
