import Derived.Test.YteodlcgmncchpaaDoorProg
import Derived.WalkKit
import Derived.WalkSpells
import Derived.WalkLawsBesides
/-! NameOfEnd of the program and of the model: the word of an end. -/
namespace Go.Proofs.YteodlcgmncchpaaDoor
open Go Go.RowKit

def wStop : ByteArray := { data := #[115, 116, 111, 112] }
def wAsk : ByteArray := { data := #[97, 115, 107] }
def wLong : ByteArray := { data := #[108, 111, 110, 103] }
def wNone : ByteArray := { data := #[] }
/-- The word of an end. -/
def endWord (n : Int) : ByteArray := if n = 0 then wStop else if n = 1 then wAsk else if n = 2 then wLong else wNone

theorem specName_any (n : Int) (w : World) :
    Calls Tryd.prog 5 #[.int .i64 n] w fun e w' => e = .returned (.string (endWord n)) ∧ w' = w := by
  rcases Classical.em (n = 0) with rfl | h0
  · go_enter Tryd.func5, Tryd.ntmps5
    go_wp2
    go_ret
    exact ⟨rfl, rfl⟩
  rcases Classical.em (n = 1) with rfl | h1
  · go_enter Tryd.func5, Tryd.ntmps5
    go_wp2
    go_ret
    exact ⟨rfl, rfl⟩
  rcases Classical.em (n = 2) with rfl | h2
  · go_enter Tryd.func5, Tryd.ntmps5
    go_wp2
    go_ret
    exact ⟨rfl, rfl⟩
  have e : endWord n = wNone := by simp [endWord, h0, h1, h2]
  rw [e]
  have b0 : (n == 0) = false := by simpa using h0
  have b1 : (n == 1) = false := by simpa using h1
  have b2 : (n == 2) = false := by simpa using h2
  clear e h0 h1 h2
  go_enter Tryd.func5, Tryd.ntmps5
  go_wp2
  go_ret
  exact ⟨rfl, rfl⟩

theorem implName_any (n : Int) (w : World) (h0 : w.cell? ⟨0, 0, none⟩ = some (.string wStop)) (h1 : w.cell? ⟨0, 1, none⟩ = some (.string wAsk)) (h2 : w.cell? ⟨0, 2, none⟩ = some (.string wLong)) :
    Calls Tryd.prog 6 #[.int .i64 n] w fun e w' => e = .returned (.string (endWord n)) ∧ w' = w := by
  rcases Classical.em (n = 0) with rfl | n0
  · go_enter Tryd.func6, Tryd.ntmps6
    go_wp2
    go_ret
    exact ⟨rfl, rfl⟩
  rcases Classical.em (n = 1) with rfl | n1
  · go_enter Tryd.func6, Tryd.ntmps6
    go_wp2
    go_ret
    exact ⟨rfl, rfl⟩
  rcases Classical.em (n = 2) with rfl | n2
  · go_enter Tryd.func6, Tryd.ntmps6
    go_wp2
    go_ret
    exact ⟨rfl, rfl⟩
  have e : endWord n = wNone := by simp [endWord, n0, n1, n2]
  rw [e]
  rcases Int.lt_or_le n 0 with hl | hl
  · have b : decide (n < 0) = true := decide_eq_true hl
    clear n0 n1 n2 e
    go_enter Tryd.func6, Tryd.ntmps6
    go_wp2
    go_ret
    exact ⟨rfl, rfl⟩
  · have b : decide (n < 0) = false := decide_eq_false (by omega)
    have b3 : decide (n ≥ 3) = true := decide_eq_true (by omega)
    have b4 : (3 : Int) ≤ n := by omega
    clear n0 n1 n2 e
    go_enter Tryd.func6, Tryd.ntmps6
    go_wp2
    go_ret
    exact ⟨rfl, rfl⟩

theorem nameLaw_any (n : Int) (w : World) (h0 : w.cell? ⟨0, 0, none⟩ = some (.string wStop)) (h1 : w.cell? ⟨0, 1, none⟩ = some (.string wAsk)) (h2 : w.cell? ⟨0, 2, none⟩ = some (.string wLong)) :
    Calls Tryd.prog 3 #[.int .i64 n] w fun e w' => e = .returned (.bool true) ∧ w' = w := by
  have hs := specName_any n w
  have hi := implName_any n w h0 h1 h2
  generalize endWord n = u at hs hi
  have hq : (u.toList == u.toList) = true := by simp
  go_enter Tryd.func3, Tryd.ntmps3
  go_wp2_with (first
    | (go_at_call 5; refine hs.mono ?_; rintro e w' ⟨rfl, rfl⟩)
    | (go_at_call 6; refine hi.mono ?_; rintro e w' ⟨rfl, rfl⟩))
  go_ret
  exact ⟨rfl, rfl⟩
end Go.Proofs.YteodlcgmncchpaaDoor
