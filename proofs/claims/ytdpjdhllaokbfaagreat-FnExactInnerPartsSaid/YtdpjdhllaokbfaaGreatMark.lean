/-
  Contracts of the laws' markText, markBlockS and heldBlockS.
-/
import Derived.Test.YtdpjdhllaokbfaaGreatStrs
import Derived.Laws.BytesArg
namespace Go.Proofs.YtdpjdhllaokbfaaGreat
open Go.RowKit Go.Sort

set_option maxRecDepth 100000 in
theorem mark_any' {cp : Nat} (B l : Nat) (t : TypeId) (cs : Array Value) (w : World) (hb : Blk w B t cs) (hs : l * 2 ≤ cs.size) (hl : l ≤ 1048576) :
    Calls Tryz.prog 17 #[.slice (some ⟨B, 0, none⟩) l cp, .int .i64 1] w (MarkPost B 1 (l * 2) w) := by
  have HBK := Lib.hid hb
  clear hb
  go_enter Tryz.func17, Tryz.ntmps17
  go_wp2_with fail
  go_loopw [1, 5] (fun x i wr => ∃ k p : Nat, k ≤ l ∧ i = .int .i64 k ∧ x = .int .i64 p ∧ p ≤ 2097153 ∧ Hid (p = 1 + k * 2) ∧ (∃ cs, Blk wr B t cs ∧ Marked cs 1 (l * 2) (k * 2)) ∧ Only B w wr) (fun _ i _ => l - (intOf i).toNat)
  case atStart => exact ⟨0, 1, Nat.zero_le _, rfl, rfl, by omega, rfl, ⟨cs, HBK.out, hs, fun j hj => absurd hj (by omega)⟩, Only.refl _ _⟩
  case round =>
    obtain ⟨k, p, hk, rfl, rfl, hp, HP, ⟨cs1, hblk, hmk⟩, ho⟩ := hrel
    by_cases hlt : k < l
    · have hsz := hmk.1
      have hp1 : 1 ≤ p := by have := HP.out; omega
      have hp2 : p + 2 ≤ 2097153 := by have := HP.out; omega
      have HM1 := Lib.hid hmk
      have HO := Lib.hid ho
      have M1 := Lib.hid (markText_any p wr hp1 (by omega))
      have M2 : Hid (∀ w, Calls Tryz.prog 43 #[.int .i64 ((p : Int) + 1)] w fun e w' => e = .returned (.string (mT (p + 1))) ∧ Below w.heap.size w w') := fun w => markText_any (p + 1) w (by omega) (by omega)
      have hblt := hblk.lt
      clear hmk ho
      go_wp2_with fail
      refine M1.out.mono ?_
      rintro e w1 ⟨rfl, b1⟩
      have hblk1 := hblk.below b1 hblk.lt
      have HO1 := Lib.hid (HO.out.trans (Only.of_below b1))
      obtain ⟨v0, x0⟩ := hblk1.some_cell (i := k * 2) (by omega)
      have f0 := hblk1.frozen (k * 2)
      have hblk2 := hblk1.set_ (k * 2) (.string (mT p))
      have HO2 := Lib.hid (HO1.out.setCell (k * 2) (.string (mT p)))
      have HS1 := Lib.hid (HM1.out.step (by omega : k * 2 < l * 2))
      rw [← HP.out] at HS1
      clear b1 hblk hblk1
      go_wp2_with fail
      generalize w1.setCell ⟨B, k * 2, none⟩ (.string (mT p)) = w2 at hblk2 HO2 ⊢
      refine (M2.out w2).mono ?_
      rintro e w3 ⟨rfl, b3⟩
      have hblk3 := hblk2.below b3 hblk2.lt
      have HO3 := Lib.hid (HO2.out.trans (Only.of_below b3))
      obtain ⟨v1, x1⟩ := hblk3.some_cell (i := k * 2 + 1) (by simp; omega)
      have f1 := hblk3.frozen (k * 2 + 1)
      have HB4 := Lib.hid (hblk3.set_ (k * 2 + 1) (.string (mT (p + 1))))
      have HO4 := Lib.hid (HO3.out.setCell (k * 2 + 1) (.string (mT (p + 1))))
      have HS2 := Lib.hid (HS1.out.step (by omega : k * 2 + 1 < l * 2))
      rw [show 1 + (k * 2 + 1) = p + 1 by have := HP.out; omega] at HS2
      clear b3 hblk2 hblk3 x0 f0
      go_wp2_with fail
      go_roundw
      case rel => exact ⟨k + 1, p + 2, by omega, by go_num, by go_num, hp2, by (have := HP.out; show p + 2 = 1 + (k + 1) * 2; omega), ⟨_, HB4.out, by rw [show (k + 1) * 2 = k * 2 + 1 + 1 by omega]; exact HS2.out⟩, HO4.out⟩
      case measure => simp [intOf]; omega
    · have hkl : k = l := by omega
      subst hkl
      have HO := Lib.hid ho
      have HM1 := Lib.hid hmk
      have HB1 := Lib.hid hblk
      have HPE := Lib.hid (show (p : Int) = ((1 + k * 2 : Nat) : Int) by rw [HP.out])
      clear ho hmk hblk
      go_wp2_with fail
      go_ret
      exact ⟨ret_int HPE.out, ⟨cs1, t, HB1.out, HM1.out⟩, HO.out⟩
end Go.Proofs.YtdpjdhllaokbfaaGreat
