/-
  Contracts of the laws' eqStringS, markStringS and heldStringS; lists of strings of a call's own.
-/
import Derived.Test.YtdolbmonmkjajaaMark
import Derived.Test.YtdolbmonmkjajaaSpecParse
import Derived.Test.YtdolbmonmkjajaaValids
namespace Go.Proofs.Ytdolbmonmkjajaa
open Go.RowKit Go.Sort


theorem only_below {B n : Nat} {w w' : World} (h : Only B w w') (h1 : n ≤ B) (h2 : n ≤ w.heap.size) : Below n w w' :=
  ⟨h.os, h.tape, h.output, h.size, fun k hk => h.block k (by omega) (by omega)⟩
theorem OwnGr.below' {w w' : World} {B : Nat} {g : List Bl} (h : OwnGr w B g) (hb : Below w.heap.size w w') : OwnGr w' B g := by
  obtain ⟨cs, t, hk, hc⟩ := h
  exact ⟨cs, t, hk.below hb hk.lt, hc⟩
theorem OwnGr.lt' {w : World} {B : Nat} {g : List Bl} (h : OwnGr w B g) : B < w.heap.size := by
  obtain ⟨cs, t, hk, hc⟩ := h
  exact hk.lt
theorem OwnGr.mark {w : World} {B : Nat} {g : List Bl} (h : OwnGr w B g) (hl : g.length ≤ 1048576) :
    Calls Try.prog 14 #[.slice (some ⟨B, 0, none⟩) g.length g.length, .int .i64 1] w (MarkPost B 1 (g.length * 2) w) := by
  obtain ⟨cs, t, hk, hc⟩ := h
  refine mark_any' B g.length t cs w hk ?_ hl
  by_cases h0 : g.length = 0
  · omega
  · obtain ⟨_, h2⟩ := hc (g.length - 1) (by omega)
    rcases Nat.lt_or_ge ((g.length - 1) * 2 + 1) cs.size with h | h
    · omega
    · rw [Array.getElem?_eq_none h] at h2; cases h2

theorem own_only {w w' : World} {base R : Nat} {e : TypeId} {v : Value} {n size : Nat} {xs : List Value} (h : w.ownsRow base e size v n xs) (ho : Only R w w') (hR : R < base) : w'.ownsRow base e size v n xs := by
  refine h.kept (row := some R) ⟨ho.os, ho.tape, ho.output, ho.size, fun k hk hne => ho.block k (fun q => hne (by rw [q])) hk⟩ ?_
  cases hv : v.ownBlock with
  | none => exact .inl rfl
  | some k =>
    have := (h.lt k hv).1
    refine .inr fun q => ?_
    injection q with q
    omega

set_option maxRecDepth 100000 in
theorem eqStr_any (A A' : Option Addr) (cap cap' : Nat) (ps : List ByteArray) (w : World) (hA : Strs w A ps) (hB : Strs w A' ps) (hn : ps.length ≤ 1048576) :
    Calls Try.prog 12 #[.slice A ps.length cap, .slice A' ps.length cap'] w fun e w' => e = .returned (.bool true) ∧ Below w.heap.size w w' := by
  have HA := Lib.hid hA
  have HB := Lib.hid hB
  clear hA hB
  go_enter Try.func12, Try.ntmps12
  go_wp2_with fail
  go_loopw [5] (fun i wr => ∃ k : Nat, k ≤ ps.length ∧ i = .int .i64 k ∧ Hid (Below w.heap.size w wr)) (fun i _ => ps.length - (intOf i).toNat)
  case atStart => exact ⟨0, Nat.zero_le _, rfl, Below.refl _ _⟩
  case round =>
    obtain ⟨k, hk, rfl, HW⟩ := hrel
    by_cases hlt : k < ps.length
    · obtain ⟨b, off, rfl, hb, hc⟩ := HA.out.below HW.out (by omega)
      obtain ⟨b', off', rfl, hb', hc'⟩ := HB.out.below HW.out (by omega)
      have x0 := hc k hlt
      have x1 := hc' k hlt
      obtain ⟨p, hp⟩ : ∃ p, p = ps[k] := ⟨_, rfl⟩
      rw [← hp] at x0 x1
      have k0 := cell_regrown x0
      have k1 := cell_regrown x1
      have q1 : (p.toList == p.toList) = true := by simp
      have q3 : (!(p.toList == p.toList)) = false := by rw [q1]; rfl
      clear hc hc' hp
      go_wp2_with fail
      refine wp_region_quiet_below (by kernel_rfl) (by kernel_rfl) ?_
      repeat (any_goals (first | go_big_quiet_step (fail) | quiet_step (fail)))
      all_goals (refine wpQuiet_nil ?_; intro _ hw'; obtain ⟨⟨dq, osq⟩, hw''⟩ := hw'; subst hw'')
      have hb2 := below_regrown wr dq osq
      generalize grow (redrawn wr dq) osq = w2 at hb2 ⊢
      have HW2 := Lib.hid (below_trans_self HW.out hb2)
      clear k0 k1 x0 x1 hb2
      go_wp2_with fail
      go_roundw
      case rel => exact ⟨k + 1, by omega, by go_num, HW2.out⟩
      case measure => simp [intOf]; omega
    · go_wp2_with fail
      go_ret
      exact ⟨rfl, HW.out⟩

set_option maxRecDepth 100000 in
theorem markStr_any {cp : Nat} (B l : Nat) (t : TypeId) (cs : Array Value) (w : World) (hb : Blk w B t cs) (hs : l ≤ cs.size) (hl : l ≤ 1048576) :
    Calls Try.prog 15 #[.slice (some ⟨B, 0, none⟩) l cp, .int .i64 1] w (MarkPost B 1 l w) := by
  have HBK := Lib.hid hb
  clear hb
  go_enter Try.func15, Try.ntmps15
  go_wp2_with fail
  go_loopw [1, 5] (fun x i wr => ∃ k p : Nat, k ≤ l ∧ i = .int .i64 k ∧ x = .int .i64 p ∧ p ≤ 1048577 ∧ Hid (p = 1 + k) ∧ (∃ cs, Blk wr B t cs ∧ Marked cs 1 l k) ∧ Only B w wr) (fun _ i _ => l - (intOf i).toNat)
  case atStart => exact ⟨0, 1, Nat.zero_le _, rfl, rfl, by omega, rfl, ⟨cs, HBK.out, hs, fun j hj => absurd hj (by omega)⟩, Only.refl _ _⟩
  case round =>
    obtain ⟨k, p, hk, rfl, rfl, hp, HP, ⟨cs1, hblk, hmk⟩, ho⟩ := hrel
    by_cases hlt : k < l
    · have hsz := hmk.1
      have hp1 : 1 ≤ p := by have := HP.out; omega
      have hp2 : p + 1 ≤ 1048577 := by have := HP.out; omega
      have HM1 := Lib.hid hmk
      have HO := Lib.hid ho
      have M1 := Lib.hid (markText_any p wr hp1 (by omega))
      have hblt := hblk.lt
      clear hmk ho
      go_wp2_with fail
      refine M1.out.mono ?_
      rintro e w1 ⟨rfl, b1⟩
      have hblk1 := hblk.below b1 hblk.lt
      have HO1 := Lib.hid (HO.out.trans (Only.of_below b1))
      obtain ⟨v0, x0⟩ := hblk1.some_cell (i := k) (by omega)
      have f0 := hblk1.frozen k
      have HB2 := Lib.hid (hblk1.set_ k (.string (mT p)))
      have HO2 := Lib.hid (HO1.out.setCell k (.string (mT p)))
      have HS1 := Lib.hid (HM1.out.step hlt)
      rw [← HP.out] at HS1
      clear b1 hblk hblk1
      go_wp2_with fail
      go_roundw
      case rel => exact ⟨k + 1, p + 1, by omega, by go_num, by go_num, hp2, by (have := HP.out; show p + 1 = 1 + (k + 1); omega), ⟨_, HB2.out, HS1.out⟩, HO2.out⟩
      case measure => simp [intOf]; omega
    · have hkl : k = l := by omega
      subst hkl
      have HO := Lib.hid ho
      have HM1 := Lib.hid hmk
      have HB1 := Lib.hid hblk
      have HPE := Lib.hid (show (p : Int) = ((1 + k : Nat) : Int) by rw [HP.out])
      clear ho hmk hblk
      go_wp2_with fail
      go_ret
      exact ⟨ret_int HPE.out, ⟨cs1, t, HB1.out, HM1.out⟩, HO.out⟩

set_option maxRecDepth 100000 in
set_option maxHeartbeats 1600000 in
theorem heldStr_any {cp : Nat} (B l : Nat) (t : TypeId) (cs : Array Value) (w : World) (hb : Blk w B t cs) (hm : Marked cs 1 l l) (hl : l ≤ 1048576) :
    Calls Try.prog 16 #[.slice (some ⟨B, 0, none⟩) l cp, .int .i64 1] w fun e w' => e = .returned (.int .i64 ((1 + l : Nat) : Int)) ∧ Below w.heap.size w w' := by
  have HBK := Lib.hid hb
  have HM := Lib.hid hm
  clear hb hm
  go_enter Try.func16, Try.ntmps16
  go_wp2_with fail
  go_loopw [1, 5] (fun x i wr => ∃ k p : Nat, k ≤ l ∧ i = .int .i64 k ∧ x = .int .i64 p ∧ p ≤ 1048577 ∧ Hid (p = 1 + k) ∧ Below w.heap.size w wr) (fun _ i _ => l - (intOf i).toNat)
  case atStart => exact ⟨0, 1, Nat.zero_le _, rfl, rfl, by omega, rfl, Below.refl _ _⟩
  case round =>
    obtain ⟨k, p, hk, rfl, rfl, hp, HP, hB⟩ := hrel
    by_cases hlt : k < l
    · have hp1 : 1 ≤ p := by have := HP.out; omega
      have hp2 : p + 1 ≤ 1048577 := by have := HP.out; omega
      have hblk := HBK.out.below hB HBK.out.lt
      have x0 : wr.cell? ⟨B, k, none⟩ = some (.string (mT p)) := by rw [hblk.cell, HM.out.2 _ hlt, HP.out]
      obtain ⟨a, ha⟩ : ∃ a, a = mT p := ⟨_, rfl⟩
      rw [← ha] at x0
      have c1 : ∀ d os, Calls Try.prog 36 #[.int .i64 p] (grow (redrawn wr d) os) fun e w'' => e = .returned (.string a) ∧ ∃ p : Regrown, w'' = grow (redrawn wr p.d) p.os := fun d os => by
        have := markText_any p (grow (redrawn wr d) os) hp1 (by omega)
        rw [← ha] at this
        exact Calls.regrown_of this
      have k0 := cell_regrown x0
      have q1 : (a.toList == a.toList) = true := by simp
      have q3 : (!(a.toList == a.toList)) = false := by rw [q1]; rfl
      have HB := Lib.hid hB
      clear ha hB hblk
      go_wp2_with fail
      refine wp_region_quiet_below (by kernel_rfl) (by kernel_rfl) ?_
      repeat (any_goals (first | go_big_quiet_step (first | with_reducible exact c1 _ _) | quiet_step (first | with_reducible exact c1 _ _)))
      all_goals (refine wpQuiet_nil ?_; intro _ hw'; obtain ⟨⟨dq, osq⟩, hw''⟩ := hw'; subst hw'')
      have hb2 := below_regrown wr dq osq
      generalize grow (redrawn wr dq) osq = w2 at hb2 ⊢
      have HB2 := Lib.hid (HB.out.trans (hb2.mono HB.out.size))
      clear c1 k0 x0 hb2
      go_wp2_with fail
      go_roundw
      case rel => exact ⟨k + 1, p + 1, by omega, by go_num, by go_num, hp2, by (have := HP.out; show p + 1 = 1 + (k + 1); omega), HB2.out⟩
      case measure => simp [intOf]; omega
    · have hkl : k = l := by omega
      subst hkl
      have HB := Lib.hid hB
      have HPE := Lib.hid (show (p : Int) = ((1 + k : Nat) : Int) by rw [HP.out])
      clear hB
      go_wp2_with fail
      go_ret
      exact ⟨ret_int HPE.out, HB.out⟩

theorem markStr_nil (w : World) : Calls Try.prog 15 #[.slice none 0 0, .int .i64 1] w fun e w' => e = .returned (.int .i64 1) ∧ w = w' := by
  go_enter Try.func15, Try.ntmps15
  go_wp2
  go_loop [1, 5] (fun x i => x = .int .i64 ((1 : Nat) : Int) ∧ i = .int .i64 ((0 : Nat) : Int)) (fun _ _ => 0)
  case atStart => exact ⟨rfl, rfl⟩
  case round =>
    obtain ⟨rfl, rfl⟩ := hrel
    go_wp2
    go_ret
    exact ⟨rfl, rfl⟩

theorem heldStr_nil (w : World) : Calls Try.prog 16 #[.slice none 0 0, .int .i64 1] w fun e w' => e = .returned (.int .i64 1) ∧ w = w' := by
  go_enter Try.func16, Try.ntmps16
  go_wp2
  go_loop [1, 5] (fun x i => x = .int .i64 ((1 : Nat) : Int) ∧ i = .int .i64 ((0 : Nat) : Int)) (fun _ _ => 0)
  case atStart => exact ⟨rfl, rfl⟩
  case round =>
    obtain ⟨rfl, rfl⟩ := hrel
    go_wp2
    go_ret
    exact ⟨rfl, rfl⟩

/-- A list that holds marks. -/
def MarkedV (w : World) (v : Value) (n : Nat) : Prop := (v = .slice none 0 0 ∧ n = 0) ∨ ∃ B cap cs t, v = .slice (some ⟨B, 0, none⟩) n cap ∧ Blk w B t cs ∧ Marked cs 1 n n
theorem MarkedV.below {w w' : World} {v : Value} {n : Nat} (h : MarkedV w v n) (hb : Below w.heap.size w w') : MarkedV w' v n := by
  rcases h with h | ⟨B, cap, cs, t, e, hk, hm⟩
  · exact .inl h
  · exact .inr ⟨B, cap, cs, t, e, hk.below hb hk.lt, hm⟩

theorem own_casesS {w : World} {base : Nat} {v : Value} {ps : List ByteArray} (h : OwnStr w base v ps) : (v = .slice none 0 0 ∧ ps.length = 0) ∨ ∃ B cap cs t, v = .slice (some ⟨B, 0, none⟩) ps.length cap ∧ base ≤ B ∧ Blk w B t cs ∧ ps.length ≤ cs.size := by
  rcases h.2 with ⟨hv, hn⟩ | ⟨B, cap, cur, hv, hb, hg, hnc, _, _, ht⟩
  · exact .inl ⟨hv, hn⟩
  · refine .inr ⟨B, cap, cur, 9, hv, hb, hg, ?_⟩
    have := congrArg List.length ht
    rw [List.length_take, List.length_map, Nat.mul_one, Array.length_toList] at this
    omega

theorem markV {w : World} {base : Nat} {v : Value} {ps : List ByteArray} (h : OwnStr w base v ps) (hl : ps.length ≤ 1048576) (hb : base ≤ w.heap.size) :
    Calls Try.prog 15 #[v, .int .i64 1] w fun e w' => e = .returned (.int .i64 ((1 + ps.length : Nat) : Int)) ∧ MarkedV w' v ps.length ∧ Below base w w' := by
  rcases own_casesS h with ⟨rfl, hn⟩ | ⟨B, cap, cs, t, rfl, hB, hk, hz⟩
  · rw [hn]
    exact (markStr_nil w).mono fun e w' ⟨h1, h2⟩ => by subst h2; exact ⟨h1, .inl ⟨rfl, rfl⟩, Below.refl _ _⟩
  · refine (markStr_any B ps.length t cs w hk hz hl).mono fun e w' ⟨h1, ⟨cs', t', h2, h3⟩, h4⟩ => ?_
    exact ⟨h1, .inr ⟨B, cap, cs', t', rfl, h2, h3⟩, only_below h4 hB hb⟩

theorem heldV {w : World} {v : Value} {n : Nat} (h : MarkedV w v n) (hl : n ≤ 1048576) :
    Calls Try.prog 16 #[v, .int .i64 1] w fun e w' => e = .returned (.int .i64 ((1 + n : Nat) : Int)) ∧ Below w.heap.size w w' := by
  rcases h with ⟨rfl, hn⟩ | ⟨B, cap, cs, t, rfl, hk, hm⟩
  · rw [hn]
    exact (heldStr_nil w).mono fun e w' ⟨h1, h2⟩ => by subst h2; exact ⟨h1, Below.refl _ _⟩
  · exact heldStr_any B n t cs w hk hm hl
end Go.Proofs.Ytdolbmonmkjajaa
