/-
  Contract: of two choices, which are better.
-/
import Derived.Test.YteodlcgmncchpaaFirst
import Derived.Test.YteodlcgmncchpaaLeaf
import Derived.Sort.Walk0
namespace Go.Proofs.Yteodlcgmncchpaa
open Go.RowKit Go.Sort

theorem lt_iff_code {a b : ByteArray} (ha : lrS a = true) (hb : lrS b = true) : cd a < cd b ↔ a.size < b.size ∨ (a.size = b.size ∧ a.data.toList < b.data.toList) := by
  unfold cd
  rcases Nat.lt_trichotomy a.size b.size with h | h | h
  · exact ⟨fun _ => .inl h, fun _ => code_shorter (by rw [list_of_size, list_of_size]; exact h)⟩
  · rw [code_lex (by rw [list_of_size, list_of_size]; exact h) ha hb]
    exact ⟨fun h2 => .inr ⟨h, h2⟩, fun h2 => h2.elim (fun h3 => by omega) fun h3 => h3.2⟩
  · have := code_shorter (s := b.data.toList) (t := a.data.toList) (by rw [list_of_size, list_of_size]; exact h)
    exact ⟨fun h2 => by omega, fun h2 => by omega⟩

def shorterB (a b : ByteArray) : Bool := decide (cd a < cd b)

theorem shorter_any (a b : ByteArray) (ha : lrS a = true) (hb : lrS b = true) (w : World) :
    Calls Try.prog 47 #[.string a, .string b] w fun e w' => e = .returned (.bool (shorterB a b)) ∧ w = w' := by
  have HI := Lib.hid (lt_iff_code ha hb)
  unfold shorterB
  by_cases h1 : a.size < b.size
  · have HR := Lib.hid (show true = decide (cd a < cd b) from (decide_eq_true (HI.out.2 (.inl h1))).symm)
    have q1 : ((a.size : Int) < b.size) := by omega
    go_enter Try.func47, Try.ntmps47
    go_wp2
    go_ret
    exact ⟨ret_bool HR.out, rfl⟩
  · by_cases h2 : a.size = b.size
    · have HR := Lib.hid (show decide (a.data.toList < b.data.toList) = decide (cd a < cd b) from decide_eq_decide.2 ⟨fun h => HI.out.2 (.inr ⟨h2, h⟩), fun h => (HI.out.1 h).elim (fun h => absurd h h1) fun h => h.2⟩)
      have q1 : ¬ ((a.size : Int) < b.size) := by omega
      have q2 : ((a.size : Int) == b.size) = true := by rw [h2]; simp
      have HB := Lib.hid (show Op.bytesLess a.toList b.toList = decide (cd a < cd b) by rw [bytesLess_eq, Lib.toList_data, Lib.toList_data]; exact HR.out)
      clear h1
      go_enter Try.func47, Try.ntmps47
      go_wp2
      go_ret
      exact ⟨ret_bool HB.out, rfl⟩
    · have HR := Lib.hid (show false = decide (cd a < cd b) from (decide_eq_false fun h => (HI.out.1 h).elim h1 fun h => h2 h.1).symm)
      have q1 : ¬ ((a.size : Int) < b.size) := by omega
      have q2 : ((a.size : Int) == b.size) = false := by simp; omega
      clear h1 h2
      go_enter Try.func47, Try.ntmps47
      go_wp2
      go_ret
      exact ⟨ret_bool HR.out, rfl⟩

end Go.Proofs.Yteodlcgmncchpaa
