/-
  Where a name stands in a graph: the model's search, and what NextOf returns.
-/
import Derived.Test.YteodlcgmncchpaaTargets
namespace Go.Proofs.Yteodlcgmncchpaa
open Go.RowKit Go.Sort

def nextVal (g : List Bl) (s : ByteArray) : ByteArray := if validB g then (match posOf g s with | some i => nthNext g i | none => ⟨#[]⟩) else ⟨#[]⟩
def nextHas (g : List Bl) (s : ByteArray) : Bool := validB g && (posOf g s).isSome

theorem nextVal_no {g : List Bl} {s : ByteArray} (h : validB g = false) : nextVal g s = ⟨#[]⟩ := by unfold nextVal; rw [h]; rfl
theorem nextHas_no {g : List Bl} {s : ByteArray} (h : validB g = false) : nextHas g s = false := by unfold nextHas; rw [h]; rfl
theorem nextVal_none {g : List Bl} {s : ByteArray} (hp : posOf g s = none) : nextVal g s = ⟨#[]⟩ := by unfold nextVal; rw [hp]; split <;> rfl
theorem nextHas_none {g : List Bl} {s : ByteArray} (hp : posOf g s = none) : nextHas g s = false := by unfold nextHas; rw [hp]; simp
theorem nextVal_some {g : List Bl} {s : ByteArray} {i : Nat} (h : validB g = true) (hp : posOf g s = some i) (hi : i < g.length) : nextVal g s = g[i].2 := by unfold nextVal; rw [if_pos h, hp]; exact nthNext_at hi
theorem nextHas_some {g : List Bl} {s : ByteArray} {i : Nat} (h : validB g = true) (hp : posOf g s = some i) : nextHas g s = true := by unfold nextHas; rw [h, hp]; rfl

def idxInt : Option Nat → Int
  | some i => i
  | none => -1

theorem index_any (A : Option Addr) (cap : Nat) (g : List Bl) (s : ByteArray) (w : World) (hg : Gr w A g) (hn : g.length ≤ 1048576) :
    Calls Try.prog 53 #[.slice A g.length cap, .string s] w fun e w' => e = .returned (.int .i64 (idxInt (posOf g s))) ∧ Below w.heap.size w w' := by
  go_enter Try.func53, Try.ntmps53
  go_wp2_with fail
  go_loopw [9] (fun i wr => ∃ k : Nat, k ≤ g.length ∧ i = .int .i64 k ∧ Hid (∀ j (h : j < g.length), j < k → g[j].1 ≠ s) ∧ Below w.heap.size w wr) (fun i _ => g.length - (intOf i).toNat)
  case atStart => exact ⟨0, Nat.zero_le _, rfl, fun j _ h => absurd h (by omega), Below.refl _ _⟩
  case round =>
    obtain ⟨k, hk, rfl, HK, hB⟩ := hrel
    by_cases hlt : k < g.length
    · obtain ⟨b, off, t, t2, rfl, hb, hc0, hc1, he, he2⟩ := gr_at (hg.below hB) hlt
      have HE := Lib.hid he
      clear he he2
      by_cases hq : (t.toList == s.toList) = true
      · have HP := Lib.hid (show posOf g s = some k from posOf_some hlt (HE.out.trans (beq_toList.1 hq)) HK.out)
        go_wp2_with fail
        go_ret
        exact ⟨ret_int (by rw [HP.out]; rfl), hB.alloc hB.size _⟩
      · have hq' : (t.toList == s.toList) = false := by simpa using hq
        have HNE := Lib.hid (show g[k].1 ≠ s from fun e => hq (beq_toList.2 (HE.out.symm.trans e)))
        clear hq
        go_wp2_with fail
        go_roundw
        case rel =>
          refine ⟨k + 1, by omega, by go_num, fun j h hj => ?_, hB.alloc hB.size _⟩
          rcases Nat.lt_succ_iff_lt_or_eq.1 hj with hj | rfl
          · exact HK.out j h hj
          · exact HNE.out
        case measure => simp [intOf]; omega
    · have HP := Lib.hid (show posOf g s = none from posOf_none fun j h => HK.out j h (by omega))
      go_wp2_with fail
      go_ret
      exact ⟨ret_int (by rw [HP.out]; rfl), hB⟩

theorem l1Next_any (A : Option Addr) (cap : Nat) (g : List Bl) (s : ByteArray) (i : Nat) (w : World) (hg : Gr w A g) (hn : g.length ≤ 1048576) (hp : posOf g s = some i) (hi : i < g.length) :
    Calls Try.prog 77 #[.slice A g.length cap, .string s] w fun e w' => e = .returned (.string g[i].2) ∧ Below w.heap.size w w' := by
  have hc := index_any A cap g s w hg hn
  rw [hp] at hc
  have HC : Hid (Calls Try.prog 53 #[.slice A g.length cap, .string s] w fun e w' => e = .returned (.int .i64 (i : Int)) ∧ Below w.heap.size w w') := hc
  clear hc hp
  obtain ⟨b, off, t, t2, rfl, hb, hc0, hc1, he, he2⟩ := gr_at hg hi
  have HE := Lib.hid he2
  clear he he2
  go_enter Try.func77, Try.ntmps77
  go_wp2_with fail
  refine HC.out.mono ?_
  rintro e w1 ⟨rfl, b1⟩
  have c1 := (b1.cell (p := ⟨b, off + i * 2 + 1, none⟩) hb).trans hc1
  go_wp2_with fail
  go_ret
  exact ⟨by rw [HE.out]; rfl, b1⟩

end Go.Proofs.Yteodlcgmncchpaa
