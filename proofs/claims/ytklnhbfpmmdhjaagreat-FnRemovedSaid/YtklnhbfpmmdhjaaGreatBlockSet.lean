/-
  Sets of blocks as bits: has, with, meet.
-/
import Derived.Test.YtklnhbfpmmdhjaaGreatBase
import Derived.WalkLawsBesides
namespace Go.Proofs.YtklnhbfpmmdhjaaGreat
open Go.RowKit

theorem wrap_u32 (n : Int) : IntKind.u32.wrap n = n % 4294967296 := rfl

theorem ofInt32 (a : Nat) (ha : a < 4294967296) : (BitVec.ofInt 32 (a : Int)).toNat = a := by
  rw [BitVec.ofInt_natCast, BitVec.toNat_ofNat]; exact Nat.mod_eq_of_lt (by omega)

theorem and_u32 (a b : Nat) (ha : a < 4294967296) (hb : b < 4294967296) : bits .and .u32 (a : Int) (b : Int) = ((a &&& b : Nat) : Int) := by
  have hx : a &&& b < 2 ^ 32 := Nat.and_lt_two_pow _ (by omega)
  show IntKind.u32.wrap ((BitVec.ofInt 32 (a : Int) &&& BitVec.ofInt 32 (b : Int)).toNat : Int) = _
  rw [BitVec.toNat_and, ofInt32 a ha, ofInt32 b hb, wrap_u32]
  omega

theorem or_u32 (a b : Nat) (ha : a < 4294967296) (hb : b < 4294967296) : bits .or .u32 (a : Int) (b : Int) = ((a ||| b : Nat) : Int) := by
  have hx : a ||| b < 2 ^ 32 := Nat.or_lt_two_pow (by omega) (by omega)
  show IntKind.u32.wrap ((BitVec.ofInt 32 (a : Int) ||| BitVec.ofInt 32 (b : Int)).toNat : Int) = _
  rw [BitVec.toNat_or, ofInt32 a ha, ofInt32 b hb, wrap_u32]
  omega

theorem pow_small : ∀ k : Nat, k < 26 → ((2 : Int) ^ k % 4294967296) = ((2 ^ k : Nat) : Int) := by decide
theorem pow_lt : ∀ k : Nat, k < 26 → 2 ^ k < 4294967296 := by decide

/-- The two sets' meet. -/
theorem meet_any (s t : Nat) (w : World) (hs : s < 4294967296) (ht : t < 4294967296) :
    Calls Tryz.prog 101 #[.int .u32 s, .int .u32 t] w fun e w' => e = .returned (.int .u32 ((s &&& t : Nat) : Int)) ∧ w = w' := by
  have HB := Lib.hid (and_u32 s t hs ht)
  go_enter Tryz.func101, Tryz.ntmps101
  go_wp2
  go_ret
  exact ⟨ret_int HB.out, rfl⟩

/-- One block more. -/
theorem with_any (s b k : Nat) (w : World) (hs : s < 4294967296) (hc : w.cell? ⟨b, 0, none⟩ = some (.int .i64 k)) (hk : k < 26) :
    Calls Tryz.prog 100 #[.int .u32 s, .pointer (some ⟨b, 0, none⟩)] w fun e w' => e = .returned (.int .u32 ((s ||| 2 ^ k : Nat) : Int)) ∧ w = w' := by
  have hk0 : (0 : Int) ≤ k := by omega
  have HB : Hid (bits .or .u32 (s : Int) ((2 : Int) ^ k % 4294967296) = ((s ||| 2 ^ k : Nat) : Int)) := by
    rw [pow_small k hk]; exact or_u32 s (2 ^ k) hs (pow_lt k hk)
  go_enter Tryz.func100, Tryz.ntmps100
  go_wp2
  go_ret
  exact ⟨ret_int HB.out, rfl⟩

theorem bit_at (s k : Nat) (hs : s < 4294967296) : (bits .and .u32 ((s : Int) / 2 ^ k) 1 == 1) = s.testBit k := by
  have e : ((s : Int) / 2 ^ k) = ((s / 2 ^ k : Nat) : Int) := by norm_cast
  have hl : s / 2 ^ k < 4294967296 := Nat.lt_of_le_of_lt (Nat.div_le_self _ _) hs
  rw [e, show (1 : Int) = ((1 : Nat) : Int) from rfl, and_u32 _ _ hl (by decide), Nat.and_one_is_mod, Nat.testBit_eq_decide_div_mod_eq]
  by_cases h : s / 2 ^ k % 2 = 1
  · rw [h]; rfl
  · rw [decide_eq_false h]
    have : s / 2 ^ k % 2 = 0 := by omega
    rw [this]; rfl

/-- Is the block there? -/
theorem has_any (s b k : Nat) (w : World) (hs : s < 4294967296) (hc : w.cell? ⟨b, 0, none⟩ = some (.int .i64 k)) (hk : k < 26) :
    Calls Tryz.prog 85 #[.int .u32 s, .pointer (some ⟨b, 0, none⟩)] w fun e w' => e = .returned (.bool (s.testBit k)) ∧ w = w' := by
  have hk0 : (0 : Int) ≤ k := by omega
  have HB := Lib.hid (bit_at s k hs)
  go_enter Tryz.func85, Tryz.ntmps85
  go_wp2
  go_ret
  exact ⟨ret_bool HB.out, rfl⟩
end Go.Proofs.YtklnhbfpmmdhjaaGreat
