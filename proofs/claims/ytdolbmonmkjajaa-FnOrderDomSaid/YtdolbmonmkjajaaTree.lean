/-
  Sets of blocks as bits: has, with, meet.
-/
import Derived.Test.YtdolbmonmkjajaaBase
import Derived.WalkLawsBesides
import Derived.Test.YtdolbmonmkjajaaRunGraph
import Derived.BigQuiet
namespace Go.Proofs.Ytdolbmonmkjajaa
open Go.RowKit

theorem wrap_u32 (n : Int) : IntKind.u32.wrap n = n % 4294967296 := rfl

theorem ofInt32 (a : Nat) (ha : a < 4294967296) : (BitVec.ofInt 32 (a : Int)).toNat = a := by
  rw [BitVec.ofInt_natCast, BitVec.toNat_ofNat]; exact Nat.mod_eq_of_lt (by omega)

theorem and_u32 (a b : Nat) (ha : a < 4294967296) (hb : b < 4294967296) : bits .and .u32 (a : Int) (b : Int) = ((a &&& b : Nat) : Int) := by
  have hx : a &&& b < 2 ^ 32 := Nat.and_lt_two_pow _ (by omega)
  show IntKind.u32.wrap ((BitVec.ofInt 32 (a : Int) &&& BitVec.ofInt 32 (b : Int)).toNat : Int) = _
  rw [BitVec.toNat_and, ofInt32 a ha, ofInt32 b hb, wrap_u32]
  omega

theorem or_u32 (a b : Nat) (ha : a < 4294967296) (hb : b < 4294967296) : bits .or .u32 (a : Int) (b : Int) = ((a ||| b : Nat) : Int) := by
  have hx : a ||| b < 2 ^ 32 := Nat.or_lt_two_pow (by omega) (by omega)
  show IntKind.u32.wrap ((BitVec.ofInt 32 (a : Int) ||| BitVec.ofInt 32 (b : Int)).toNat : Int) = _
  rw [BitVec.toNat_or, ofInt32 a ha, ofInt32 b hb, wrap_u32]
  omega

theorem pow_small : ∀ k : Nat, k < 26 → ((2 : Int) ^ k % 4294967296) = ((2 ^ k : Nat) : Int) := by decide
theorem pow_lt : ∀ k : Nat, k < 26 → 2 ^ k < 4294967296 := by decide

/-- The two sets' meet. -/
theorem meet_any (s t : Nat) (w : World) (hs : s < 4294967296) (ht : t < 4294967296) :
    Calls Try.prog 86 #[.int .u32 s, .int .u32 t] w fun e w' => e = .returned (.int .u32 ((s &&& t : Nat) : Int)) ∧ w = w' := by
  have HB := Lib.hid (and_u32 s t hs ht)
  go_enter Try.func86, Try.ntmps86
  go_wp2
  go_ret
  exact ⟨ret_int HB.out, rfl⟩

/-- One block more. -/
theorem with_any (s b k : Nat) (w : World) (hs : s < 4294967296) (hc : w.cell? ⟨b, 0, none⟩ = some (.int .i64 k)) (hk : k < 26) :
    Calls Try.prog 85 #[.int .u32 s, .pointer (some ⟨b, 0, none⟩)] w fun e w' => e = .returned (.int .u32 ((s ||| 2 ^ k : Nat) : Int)) ∧ w = w' := by
  have hk0 : (0 : Int) ≤ k := by omega
  have HB : Hid (bits .or .u32 (s : Int) ((2 : Int) ^ k % 4294967296) = ((s ||| 2 ^ k : Nat) : Int)) := by
    rw [pow_small k hk]; exact or_u32 s (2 ^ k) hs (pow_lt k hk)
  go_enter Try.func85, Try.ntmps85
  go_wp2
  go_ret
  exact ⟨ret_int HB.out, rfl⟩

theorem bit_at (s k : Nat) (hs : s < 4294967296) : (bits .and .u32 ((s : Int) / 2 ^ k) 1 == 1) = s.testBit k := by
  have e : ((s : Int) / 2 ^ k) = ((s / 2 ^ k : Nat) : Int) := by norm_cast
  have hl : s / 2 ^ k < 4294967296 := Nat.lt_of_le_of_lt (Nat.div_le_self _ _) hs
  rw [e, show (1 : Int) = ((1 : Nat) : Int) from rfl, and_u32 _ _ hl (by decide), Nat.and_one_is_mod, Nat.testBit_eq_decide_div_mod_eq]
  by_cases h : s / 2 ^ k % 2 = 1
  · rw [h]; rfl
  · rw [decide_eq_false h]
    have : s / 2 ^ k % 2 = 0 := by omega
    rw [this]; rfl

/-- Is the block there? -/
theorem has_any (s b k : Nat) (w : World) (hs : s < 4294967296) (hc : w.cell? ⟨b, 0, none⟩ = some (.int .i64 k)) (hk : k < 26) :
    Calls Try.prog 73 #[.int .u32 s, .pointer (some ⟨b, 0, none⟩)] w fun e w' => e = .returned (.bool (s.testBit k)) ∧ w = w' := by
  have hk0 : (0 : Int) ≤ k := by omega
  have HB := Lib.hid (bit_at s k hs)
  go_enter Try.func73, Try.ntmps73
  go_wp2
  go_ret
  exact ⟨ret_bool HB.out, rfl⟩
end Go.Proofs.Ytdolbmonmkjajaa

/-
  The tree as it lies: dominates.
-/
namespace Go.Proofs.Ytdolbmonmkjajaa
open Go.RowKit Go.Sort

/-- A tree lies at a block: the nodes' slice, a set for each block, a parent for each block. -/
def TreeIn (w : World) (tb : Nat) (V : Value) (S : Nat → Nat) (Pr : Nat → Value) : Prop :=
  ∃ cs, Blk w tb 85 cs ∧ cs.size = 53 ∧ cs[0]? = some V ∧ (∀ k, k < 26 → cs[1 + k]? = some (.int .u32 (S k))) ∧ (∀ k, k < 26 → cs[27 + k]? = some (Pr k))

theorem TreeIn.set {w : World} {tb : Nat} {V : Value} {S : Nat → Nat} {Pr : Nat → Value} (h : TreeIn w tb V S Pr) {k : Nat} (hk : k < 26) : w.cell? ⟨tb, 1 + k, none⟩ = some (.int .u32 (S k)) := by
  obtain ⟨cs, hb, _, _, hs, _⟩ := h
  rw [hb.cell]; exact hs k hk
theorem TreeIn.nodes {w : World} {tb : Nat} {V : Value} {S : Nat → Nat} {Pr : Nat → Value} (h : TreeIn w tb V S Pr) : w.cell? ⟨tb, 0, none⟩ = some V := by
  obtain ⟨cs, hb, _, hv, _⟩ := h
  rw [hb.cell]; exact hv
theorem TreeIn.parent {w : World} {tb : Nat} {V : Value} {S : Nat → Nat} {Pr : Nat → Value} (h : TreeIn w tb V S Pr) {k : Nat} (hk : k < 26) : w.cell? ⟨tb, 27 + k, none⟩ = some (Pr k) := by
  obtain ⟨cs, hb, _, _, _, hp⟩ := h
  rw [hb.cell]; exact hp k hk
theorem TreeIn.below {w w' : World} {tb : Nat} {V : Value} {S : Nat → Nat} {Pr : Nat → Value} (h : TreeIn w tb V S Pr) (hb : Below w.heap.size w w') : TreeIn w' tb V S Pr := by
  obtain ⟨cs, hk, hr⟩ := h
  exact ⟨cs, hk.below hb hk.lt, hr⟩
/-- A set is written. -/
theorem TreeIn.put {w : World} {tb : Nat} {V : Value} {S : Nat → Nat} {Pr : Nat → Value} (h : TreeIn w tb V S Pr) {t : Nat} (ht : t < 26) (v : Nat) : TreeIn (w.setCell ⟨tb, 1 + t, none⟩ (.int .u32 v)) tb V (fun k => if k = t then v else S k) Pr := by
  obtain ⟨cs, hb, hz, hv, hs, hp⟩ := h
  refine ⟨_, hb.set_ (1 + t) _, by simp [hz], ?_, fun k hk => ?_, fun k hk => ?_⟩
  · rw [Array.getElem?_setIfInBounds_ne (by omega)]; exact hv
  · show _ = some (Value.int .u32 ((if k = t then v else S k : Nat) : Int))
    by_cases e : k = t
    · subst e
      rw [if_pos rfl, Array.getElem?_setIfInBounds_self_of_lt (by omega)]
    · rw [if_neg e, Array.getElem?_setIfInBounds_ne (by omega)]; exact hs k hk
  · rw [Array.getElem?_setIfInBounds_ne (by omega)]; exact hp k hk

set_option maxRecDepth 100000 in
theorem dominates_any (tb NB : Nat) (V : Value) (S : Nat → Nat) (Pr : Nat → Value) (g : List Bl) (a b : Nat) (w : World) (hT : TreeIn w tb V S Pr) (hN : NodesIn w NB g) (hl : g.length ≤ 26) (ha : a < g.length) (hb : b < g.length) (hS : S b < 4294967296) :
    Calls Try.prog 46 #[.pointer (some ⟨tb, 0, none⟩), nptr NB a, nptr NB b] w fun e w' => e = .returned (.bool ((S b).testBit a)) ∧ ∃ m, w' = w.drewN m := by
  have c0 : w.cell? ⟨nb NB b, 0, none⟩ = some (.int .i64 b) := by have := (hN b hb).cell 0; simpa using this
  have c1 := hT.set (k := b) (by omega)
  have hb0 : (0 : Int) ≤ (b : Int) := by omega
  have hb1 : (b : Int) < 26 := by omega
  have hb2 : b < 26 := by omega
  obtain ⟨x, hx⟩ : ∃ x, x = S b := ⟨_, rfl⟩
  rw [← hx] at c1 hS ⊢
  have tS : ∀ n, Calls Try.prog 73 #[.int .u32 x, nptr NB a] (w.drewN n) fun e w'' => e = .returned (.bool (x.testBit a)) ∧ ∃ m, w'' = w.drewN m := fun n => by
    have hN2 := hN.below (below_drewN w n)
    have c : (w.drewN n).cell? ⟨nb NB a, 0, none⟩ = some (.int .i64 a) := by have := (hN2 a ha).cell 0; simpa using this
    exact Calls.quiet_of_same ((has_any x (nb NB a) a (w.drewN n) hS c (by omega)).mono fun _ _ ⟨p, q⟩ => ⟨p, q.symm⟩)
  clear hx hT hN
  go_enter Try.func46, Try.ntmps46
  go_wp2_with fail
  go_quiet (with_reducible exact tS _)
  clear tS
  go_wp2_with fail
  go_ret
  exact ⟨rfl, _, rfl⟩
end Go.Proofs.Ytdolbmonmkjajaa
