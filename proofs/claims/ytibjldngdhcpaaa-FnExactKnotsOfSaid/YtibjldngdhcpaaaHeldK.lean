/-
  Contract of the laws' heldKnotS.
-/
import Derived.Test.YtibjldngdhcpaaaMarkK
import Derived.Test.YtibjldngdhcpaaaValids
namespace Go.Proofs.Ytibjldngdhcpaaa
open Go.RowKit Go.Sort

set_option maxRecDepth 100000 in
set_option maxHeartbeats 1600000 in
theorem heldK_any {cp : Nat} (B l : Nat) (t : TypeId) (cs : Array Value) (w : World) (hb : Blk w B t cs) (hm : Marked cs 1 (l * 2) (l * 2)) (hl : l ≤ 1048576) :
    Calls Try.prog 23 #[.slice (some ⟨B, 0, none⟩) l cp, .int .i64 1] w fun e w' => e = .returned (.int .i64 ((1 + l * 2 : Nat) : Int)) ∧ Below w.heap.size w w' := by
  have HBK := Lib.hid hb
  have HM := Lib.hid hm
  clear hb hm
  go_enter Try.func23, Try.ntmps23
  go_wp2_with fail
  go_loopw [1, 5] (fun x i wr => ∃ k p : Nat, k ≤ l ∧ i = .int .i64 k ∧ x = .int .i64 p ∧ p ≤ 2097153 ∧ Hid (p = 1 + k * 2) ∧ Below w.heap.size w wr) (fun _ i _ => l - (intOf i).toNat)
  case atStart => exact ⟨0, 1, Nat.zero_le _, rfl, rfl, by omega, rfl, Below.refl _ _⟩
  case round =>
    obtain ⟨k, p, hk, rfl, rfl, hp, HP, hB⟩ := hrel
    by_cases hlt : k < l
    · have hp1 : 1 ≤ p := by have := HP.out; omega
      have hp2 : p + 2 ≤ 2097153 := by have := HP.out; omega
      have hblk := HBK.out.below hB HBK.out.lt
      have hblt := hblk.lt
      have x0 : wr.cell? ⟨B, k * 2, none⟩ = some (.string (mT p)) := by rw [hblk.cell, HM.out.2 _ (by omega), HP.out]
      have x1 : wr.cell? ⟨B, k * 2 + 1, none⟩ = some (.string (mT (p + 1))) := by rw [hblk.cell, HM.out.2 _ (by omega), HP.out]; congr 3
      obtain ⟨a, ha⟩ : ∃ a, a = mT p := ⟨_, rfl⟩
      obtain ⟨b, hbb⟩ : ∃ b, b = mT (p + 1) := ⟨_, rfl⟩
      rw [← ha] at x0
      rw [← hbb] at x1
      have c1 : ∀ d os, Calls Try.prog 57 #[.int .i64 p] (grow (redrawn wr d) os) fun e w'' => e = .returned (.string a) ∧ ∃ p : Regrown, w'' = grow (redrawn wr p.d) p.os := fun d os => by
        have := markText_any p (grow (redrawn wr d) os) hp1 (by omega)
        rw [← ha] at this
        exact Calls.regrown_of this
      have M2 : Hid (∀ w, Calls Try.prog 57 #[.int .i64 ((p : Int) + 1)] w fun e w' => e = .returned (.string b) ∧ Below w.heap.size w w') := fun w => hbb ▸ markText_any (p + 1) w (by omega) (by omega)
      have k0 := cell_regrown x0
      have q1 : (a.toList == a.toList) = true := by simp
      have q2 : (b.toList == b.toList) = true := by simp
      have q3 : (!(a.toList == a.toList)) = false := by rw [q1]; rfl
      have q4 : (!(b.toList == b.toList)) = false := by rw [q2]; rfl
      have HB := Lib.hid hB
      have HBL := Lib.hid hblk
      clear ha hbb hB hblk
      go_wp2_with fail
      refine wp_region_quiet_below (by kernel_rfl) (by kernel_rfl) ?_
      repeat (any_goals (first | go_big_quiet_step (first | with_reducible exact c1 _ _) | quiet_step (first | with_reducible exact c1 _ _)))
      all_goals (refine wpQuiet_nil ?_; intro _ hw'; obtain ⟨⟨dq, osq⟩, hw''⟩ := hw'; subst hw'')
      have hb2 := below_regrown wr dq osq
      generalize grow (redrawn wr dq) osq = w2 at hb2 ⊢
      have HB2 := Lib.hid (HB.out.trans (hb2.mono HB.out.size))
      have x1' : w2.cell? ⟨B, k * 2 + 1, none⟩ = some (.string b) := (hb2.cell (p := ⟨B, k * 2 + 1, none⟩) hblt).trans x1
      have hblt2 : B < w2.heap.size := Nat.lt_of_lt_of_le hblt hb2.size
      have k1 := cell_regrown x1'
      have c2 : ∀ d os, Calls Try.prog 57 #[.int .i64 ((p : Int) + 1)] (grow (redrawn w2 d) os) fun e w'' => e = .returned (.string b) ∧ ∃ p : Regrown, w'' = grow (redrawn w2 p.d) p.os := fun d os => Calls.regrown_of (M2.out _)
      clear c1 k0 x0 x1 hb2
      go_wp2_with fail
      refine wp_region_quiet_below (by kernel_rfl) (by kernel_rfl) ?_
      repeat (any_goals (first | go_big_quiet_step (first | with_reducible exact c2 _ _) | quiet_step (first | with_reducible exact c2 _ _)))
      all_goals (refine wpQuiet_nil ?_; intro _ hw'; obtain ⟨⟨dr, osr⟩, hw''⟩ := hw'; subst hw'')
      have hb3 := below_regrown w2 dr osr
      generalize grow (redrawn w2 dr) osr = w3 at hb3 ⊢
      have HB3 := Lib.hid (HB2.out.trans (hb3.mono HB2.out.size))
      clear c2 k1 x1' hb3
      go_wp2_with fail
      go_roundw
      case rel => exact ⟨k + 1, p + 2, by omega, by go_num, by go_num, hp2, by (have := HP.out; show p + 2 = 1 + (k + 1) * 2; omega), HB3.out⟩
      case measure => simp [intOf]; omega
    · have hkl : k = l := by omega
      subst hkl
      have HB := Lib.hid hB
      have HPE := Lib.hid (show (p : Int) = ((1 + k * 2 : Nat) : Int) by rw [HP.out])
      clear hB
      go_wp2_with fail
      go_ret
      exact ⟨ret_int HPE.out, HB.out⟩
end Go.Proofs.Ytibjldngdhcpaaa
