import Derived.Test.YtgebedbankibmaaGreatDoorBase
import Derived.Test.YtgebedbankibmaaGreatDoorOnly
import Derived.Lib.QuietBelow
import Derived.Test.YtgebedbankibmaaGreatDoorMakeFace
import Derived.Test.YtgebedbankibmaaGreatDoorCount
/-
  Lists of numbers as they lie; the laws' eqIntS, markIntS and heldIntS.
-/
namespace Go.Proofs.YtgebedbankibmaaGreatDoor
open Go.RowKit Go.Sort

/-- A list of numbers that is known whole. -/
def IntsV (w : World) (base : Nat) (v : Value) (xs : List Int) : Prop := (v = .slice none 0 0 ∧ xs.length = 0) ∨ ∃ B cap t cs, v = .slice (some ⟨B, 0, none⟩) xs.length cap ∧ base ≤ B ∧ Blk w B t cs ∧ xs.length ≤ cs.size ∧ ∀ k (h : k < xs.length), cs[k]? = some (.int .i64 xs[k])
theorem IntsV.below {w w' : World} {base : Nat} {v : Value} {xs : List Int} (h : IntsV w base v xs) (hb : Below w.heap.size w w') : IntsV w' base v xs := by
  rcases h with h | ⟨B, cap, t, cs, e, hB, hk, hs, hc⟩
  · exact .inl h
  · exact .inr ⟨B, cap, t, cs, e, hB, hk.below hb hk.lt, hs, hc⟩
theorem IntsV.low {w : World} {base base' : Nat} {v : Value} {xs : List Int} (h : IntsV w base v xs) (hb : base' ≤ base) : IntsV w base' v xs := by
  rcases h with h | ⟨B, cap, t, cs, e, hB, hk, hs, hc⟩
  · exact .inl h
  · exact .inr ⟨B, cap, t, cs, e, by omega, hk, hs, hc⟩

set_option maxRecDepth 100000 in
theorem eqInt_any {base base' : Nat} (v v' : Value) (xs : List Int) (w : World) (hA : IntsV w base v xs) (hB : IntsV w base' v' xs) (hn : xs.length ≤ 1048576) :
    Calls Tryz.prog 24 #[v, v'] w fun e w' => e = .returned (.bool true) ∧ Below w.heap.size w w' := by
  obtain ⟨A, cap, rfl⟩ : ∃ A cap, v = .slice A xs.length cap := by
    rcases hA with ⟨rfl, h⟩ | ⟨B, cap, t, cs, rfl, _⟩
    · exact ⟨_, 0, by rw [h]⟩
    · exact ⟨_, _, rfl⟩
  obtain ⟨A', cap', rfl⟩ : ∃ A cap, v' = .slice A xs.length cap := by
    rcases hB with ⟨rfl, h⟩ | ⟨B, cap, t, cs, rfl, _⟩
    · exact ⟨_, 0, by rw [h]⟩
    · exact ⟨_, _, rfl⟩
  have key : ∀ (b : Nat) (A : Option Addr) (cap : Nat) (W : World), IntsV W b (.slice A xs.length cap) xs → ∀ k (h : k < xs.length), ∃ B, A = some ⟨B, 0, none⟩ ∧ W.cell? ⟨B, k, none⟩ = some (.int .i64 xs[k]) := fun b A cap W h k hk => by
    rcases h with ⟨h, h0⟩ | ⟨B, cap', t, cs, e, _, hk', hs, hc⟩
    · omega
    · injection e with e1 _ _
      exact ⟨B, e1, by rw [hk'.cell]; exact hc k hk⟩
  have HA := Lib.hid hA
  have HB := Lib.hid hB
  have HK := Lib.hid key
  clear hA hB key
  go_enter Tryz.func24, Tryz.ntmps24
  go_wp2_with fail
  go_loopw [5] (fun i wr => ∃ k : Nat, k ≤ xs.length ∧ i = .int .i64 k ∧ Hid (Below w.heap.size w wr)) (fun i _ => xs.length - (intOf i).toNat)
  case atStart => exact ⟨0, Nat.zero_le _, rfl, Below.refl _ _⟩
  case round =>
    obtain ⟨k, hk, rfl, HW⟩ := hrel
    by_cases hlt : k < xs.length
    · obtain ⟨B, rfl, x0⟩ := HK.out _ _ _ _ (HA.out.below HW.out) k hlt
      obtain ⟨B', rfl, x1⟩ := HK.out _ _ _ _ (HB.out.below HW.out) k hlt
      obtain ⟨p, hp⟩ : ∃ p, p = xs[k] := ⟨_, rfl⟩
      rw [← hp] at x0 x1
      have k0 := cell_regrown x0
      have k1 := cell_regrown x1
      have q3 : (p != p) = false := by simp
      clear hp
      go_wp2_with fail
      refine wp_region_quiet_below (by kernel_rfl) (by kernel_rfl) ?_
      repeat (any_goals (first | go_big_quiet_step (fail) | quiet_step (fail)))
      all_goals (refine wpQuiet_nil ?_; intro _ hw'; obtain ⟨⟨dq, osq⟩, hw''⟩ := hw'; subst hw'')
      have hb2 := below_regrown wr dq osq
      generalize grow (redrawn wr dq) osq = w2 at hb2 ⊢
      have HW2 := Lib.hid (below_trans_self HW.out hb2)
      clear k0 k1 x0 x1 hb2
      go_wp2_with fail
      go_roundw
      case rel => exact ⟨k + 1, by omega, by go_num, HW2.out⟩
      case measure => simp [intOf]; omega
    · go_wp2_with fail
      go_ret
      exact ⟨rfl, HW.out⟩

/-- The first k of l places hold the numbers from 1 on. -/
def MarkedI (cs : Array Value) (l k : Nat) : Prop := l ≤ cs.size ∧ ∀ j, j < k → cs[j]? = some (.int .i64 ((1 + j : Nat) : Int))
theorem MarkedI.step {cs : Array Value} {l k : Nat} (h : MarkedI cs l k) (hk : k < l) : MarkedI (cs.setIfInBounds k (.int .i64 ((1 + k : Nat) : Int))) l (k + 1) := by
  refine ⟨by rw [Array.size_setIfInBounds]; exact h.1, fun j hj => ?_⟩
  rw [Array.getElem?_setIfInBounds]
  have := h.1
  by_cases e : k = j
  · subst e; rw [if_pos rfl, if_pos (by omega)]
  · rw [if_neg e]; exact h.2 j (by omega)
def MarkedIV (w : World) (v : Value) (n : Nat) : Prop := (v = .slice none 0 0 ∧ n = 0) ∨ ∃ B cap cs t, v = .slice (some ⟨B, 0, none⟩) n cap ∧ Blk w B t cs ∧ MarkedI cs n n
theorem MarkedIV.below {w w' : World} {v : Value} {n : Nat} (h : MarkedIV w v n) (hb : Below w.heap.size w w') : MarkedIV w' v n := by
  rcases h with h | ⟨B, cap, cs, t, e, hk, hm⟩
  · exact .inl h
  · exact .inr ⟨B, cap, cs, t, e, hk.below hb hk.lt, hm⟩
theorem only_belowI {B n : Nat} {w w' : World} (h : Only B w w') (h1 : n ≤ B) (h2 : n ≤ w.heap.size) : Below n w w' :=
  ⟨h.os, h.tape, h.output, h.size, fun k hk => h.block k (by omega) (by omega)⟩
theorem Only.setI {R : Nat} {a w : World} (h : Only R a w) (j : Nat) (v : Value) : Only R a (w.setCell ⟨R, j, none⟩ v) :=
  h.trans ⟨rfl, rfl, rfl, by simp, fun k hk _ => Below.heap_setCell w ⟨R, j, none⟩ v k hk⟩

set_option maxRecDepth 100000 in
theorem markInt_at {cp : Nat} (B l : Nat) (t : TypeId) (cs : Array Value) (w : World) (hb : Blk w B t cs) (hs : l ≤ cs.size) (hl : l ≤ 1048576) :
    Calls Tryz.prog 26 #[.slice (some ⟨B, 0, none⟩) l cp, .int .i64 1] w fun e w' => e = .returned (.int .i64 ((1 + l : Nat) : Int)) ∧ (∃ cs t, Blk w' B t cs ∧ MarkedI cs l l) ∧ Only B w w' := by
  have HBK := Lib.hid hb
  clear hb
  go_enter Tryz.func26, Tryz.ntmps26
  go_wp2_with fail
  go_loopw [1, 5] (fun x i wr => ∃ k p : Nat, k ≤ l ∧ i = .int .i64 k ∧ x = .int .i64 p ∧ p ≤ 1048577 ∧ Hid (p = 1 + k) ∧ (∃ cs, Blk wr B t cs ∧ MarkedI cs l k) ∧ Only B w wr) (fun _ i _ => l - (intOf i).toNat)
  case atStart => exact ⟨0, 1, Nat.zero_le _, rfl, rfl, by omega, rfl, ⟨cs, HBK.out, hs, fun j hj => absurd hj (by omega)⟩, Only.refl _ _⟩
  case round =>
    obtain ⟨k, p, hk, rfl, rfl, hp, HP, ⟨cs1, hblk, hmk⟩, ho⟩ := hrel
    by_cases hlt : k < l
    · have hsz := hmk.1
      have hp1 : 1 ≤ p := by have := HP.out; omega
      have hp2 : p + 1 ≤ 1048577 := by have := HP.out; omega
      have HM1 := Lib.hid hmk
      have HO := Lib.hid ho
      have hblt := hblk.lt
      obtain ⟨v0, x0⟩ := hblk.some_cell (i := k) (by omega)
      have f0 := hblk.frozen k
      have HB2 := Lib.hid (hblk.set_ k (.int .i64 (p : Int)))
      have HO2 := Lib.hid (HO.out.setI k (.int .i64 (p : Int)))
      have HS1 := Lib.hid (HM1.out.step hlt)
      rw [← HP.out] at HS1
      clear hblk ho hmk
      go_wp2_with fail
      go_roundw
      case rel => exact ⟨k + 1, p + 1, by omega, by go_num, by go_num, hp2, by (have := HP.out; show p + 1 = 1 + (k + 1); omega), ⟨_, HB2.out, HS1.out⟩, HO2.out⟩
      case measure => simp [intOf]; omega
    · have hkl : k = l := by omega
      subst hkl
      have HO := Lib.hid ho
      have HM1 := Lib.hid hmk
      have HB1 := Lib.hid hblk
      have HPE := Lib.hid (show (p : Int) = ((1 + k : Nat) : Int) by rw [HP.out])
      clear ho hmk hblk
      go_wp2_with fail
      go_ret
      exact ⟨ret_int HPE.out, ⟨cs1, t, HB1.out, HM1.out⟩, HO.out⟩

set_option maxRecDepth 100000 in
theorem heldInt_at {cp : Nat} (B l : Nat) (t : TypeId) (cs : Array Value) (w : World) (hb : Blk w B t cs) (hm : MarkedI cs l l) (hl : l ≤ 1048576) :
    Calls Tryz.prog 27 #[.slice (some ⟨B, 0, none⟩) l cp, .int .i64 1] w fun e w' => e = .returned (.int .i64 ((1 + l : Nat) : Int)) ∧ Below w.heap.size w w' := by
  have HBK := Lib.hid hb
  have HM := Lib.hid hm
  clear hb hm
  go_enter Tryz.func27, Tryz.ntmps27
  go_wp2_with fail
  go_loopw [1, 5] (fun x i wr => ∃ k p : Nat, k ≤ l ∧ i = .int .i64 k ∧ x = .int .i64 p ∧ p ≤ 1048577 ∧ Hid (p = 1 + k) ∧ Below w.heap.size w wr) (fun _ i _ => l - (intOf i).toNat)
  case atStart => exact ⟨0, 1, Nat.zero_le _, rfl, rfl, by omega, rfl, Below.refl _ _⟩
  case round =>
    obtain ⟨k, p, hk, rfl, rfl, hp, HP, hB⟩ := hrel
    by_cases hlt : k < l
    · have hp1 : 1 ≤ p := by have := HP.out; omega
      have hp2 : p + 1 ≤ 1048577 := by have := HP.out; omega
      have hblk := HBK.out.below hB HBK.out.lt
      have x0 : wr.cell? ⟨B, k, none⟩ = some (.int .i64 (p : Int)) := by rw [hblk.cell, HM.out.2 _ hlt, HP.out]
      have k0 := cell_regrown x0
      have q3 : ((p : Int) != (p : Int)) = false := by simp
      have HB := Lib.hid hB
      clear hB hblk
      go_wp2_with fail
      go_roundw
      case rel => exact ⟨k + 1, p + 1, by omega, by go_num, by go_num, hp2, by (have := HP.out; show p + 1 = 1 + (k + 1); omega), HB.out⟩
      case measure => simp [intOf]; omega
    · have hkl : k = l := by omega
      subst hkl
      have HB := Lib.hid hB
      have HPE := Lib.hid (show (p : Int) = ((1 + k : Nat) : Int) by rw [HP.out])
      clear hB
      go_wp2_with fail
      go_ret
      exact ⟨ret_int HPE.out, HB.out⟩

theorem markInt_nil (w : World) : Calls Tryz.prog 26 #[.slice none 0 0, .int .i64 1] w fun e w' => e = .returned (.int .i64 1) ∧ w = w' := by
  go_enter Tryz.func26, Tryz.ntmps26
  go_wp2
  go_loop [1, 5] (fun x i => x = .int .i64 ((1 : Nat) : Int) ∧ i = .int .i64 ((0 : Nat) : Int)) (fun _ _ => 0)
  case atStart => exact ⟨rfl, rfl⟩
  case round =>
    obtain ⟨rfl, rfl⟩ := hrel
    go_wp2
    go_ret
    exact ⟨rfl, rfl⟩
theorem heldInt_nil (w : World) : Calls Tryz.prog 27 #[.slice none 0 0, .int .i64 1] w fun e w' => e = .returned (.int .i64 1) ∧ w = w' := by
  go_enter Tryz.func27, Tryz.ntmps27
  go_wp2
  go_loop [1, 5] (fun x i => x = .int .i64 ((1 : Nat) : Int) ∧ i = .int .i64 ((0 : Nat) : Int)) (fun _ _ => 0)
  case atStart => exact ⟨rfl, rfl⟩
  case round =>
    obtain ⟨rfl, rfl⟩ := hrel
    go_wp2
    go_ret
    exact ⟨rfl, rfl⟩

theorem markIV {w : World} {base : Nat} {v : Value} {xs : List Int} (h : IntsV w base v xs) (hl : xs.length ≤ 1048576) (hb : base ≤ w.heap.size) :
    Calls Tryz.prog 26 #[v, .int .i64 1] w fun e w' => e = .returned (.int .i64 ((1 + xs.length : Nat) : Int)) ∧ MarkedIV w' v xs.length ∧ Below base w w' := by
  rcases h with ⟨rfl, hn⟩ | ⟨B, cap, t, cs, rfl, hB, hk, hz, _⟩
  · rw [hn]
    exact (markInt_nil w).mono fun e w' ⟨h1, h2⟩ => by subst h2; exact ⟨h1, .inl ⟨rfl, rfl⟩, Below.refl _ _⟩
  · refine (markInt_at B xs.length t cs w hk hz hl).mono fun e w' ⟨h1, ⟨cs', t', h2, h3⟩, h4⟩ => ?_
    exact ⟨h1, .inr ⟨B, cap, cs', t', rfl, h2, h3⟩, only_belowI h4 hB hb⟩
theorem heldIV {w : World} {v : Value} {n : Nat} (h : MarkedIV w v n) (hl : n ≤ 1048576) :
    Calls Tryz.prog 27 #[v, .int .i64 1] w fun e w' => e = .returned (.int .i64 ((1 + n : Nat) : Int)) ∧ Below w.heap.size w w' := by
  rcases h with ⟨rfl, hn⟩ | ⟨B, cap, cs, t, rfl, hk, hm⟩
  · rw [hn]
    exact (heldInt_nil w).mono fun e w' ⟨h1, h2⟩ => by subst h2; exact ⟨h1, Below.refl _ _⟩
  · exact heldInt_at B n t cs w hk hm hl
end Go.Proofs.YtgebedbankibmaaGreatDoor

/-
  CountNeeded of both.
-/
namespace Go.Proofs.YtgebedbankibmaaGreatDoor
open Go.RowKit Go.Sort

/-- What CountNeeded counts. -/
noncomputable def needL (g : List Bl) : List Int := if madeB g = true then [countZ (madeT g) [40], countZ (madeT g) [123], countZ (madeT g) [94]] else []

set_option maxRecDepth 100000 in
theorem implCountNeeded_any (A : Option Addr) (cap : Nat) (g : List Bl) (w : World) (hg : Gr w A g) (hn : g.length + tot g ≤ 1048576) :
    Calls Tryz.prog 23 #[.slice A g.length cap] w fun e w' => (∃ v, e = .returned (.tuple #[v, .bool (madeB g)]) ∧ IntsV w' w.heap.size v (needL g)) ∧ Below w.heap.size w w' := by
  have HC := Lib.hid (implMakeText_any A cap g w hg hn)
  have H1 : Hid (∀ W, Calls Tryz.prog 44 #[.string (tb (madeT g)), .string ⟨#[40]⟩] W fun e w' => e = .returned (.int .i64 (countZ (madeT g) [40])) ∧ Below W.heap.size W w') := fun W => implCountItems_any (madeT g) [40] W
  have H2 : Hid (∀ W, Calls Tryz.prog 44 #[.string (tb (madeT g)), .string ⟨#[123]⟩] W fun e w' => e = .returned (.int .i64 (countZ (madeT g) [123])) ∧ Below W.heap.size W w') := fun W => implCountItems_any (madeT g) [123] W
  have H3 : Hid (∀ W, Calls Tryz.prog 44 #[.string (tb (madeT g)), .string ⟨#[94]⟩] W fun e w' => e = .returned (.int .i64 (countZ (madeT g) [94])) ∧ Below W.heap.size W w') := fun W => implCountItems_any (madeT g) [94] W
  clear hg
  cases hb : madeB g with
  | false =>
    rw [hb] at HC
    have HR : Hid (needL g = []) := Lib.hid (by unfold needL; rw [hb]; rfl)
    clear hb
    go_enter Tryz.func23, Tryz.ntmps23
    go_wp2_with fail
    refine HC.out.mono ?_
    rintro e w1 ⟨rfl, b1⟩
    have HB1 := Lib.hid b1
    clear b1
    go_wp2_with fail
    go_ret2
    refine ⟨⟨_, rfl, .inl ⟨rfl, by rw [HR.out]; rfl⟩⟩, HB1.out⟩
  | true =>
    have hm : madeV g = tb (madeT g) := by unfold madeV; rw [if_pos hb]
    rw [hb, hm] at HC
    have HR : Hid (needL g = [countZ (madeT g) [40], countZ (madeT g) [123], countZ (madeT g) [94]]) := Lib.hid (by unfold needL; rw [if_pos hb])
    clear hb hm
    go_enter Tryz.func23, Tryz.ntmps23
    go_wp2_with fail
    refine HC.out.mono ?_
    rintro e w1 ⟨rfl, b1⟩
    have HB1 := Lib.hid b1
    clear b1
    go_wp2_with fail
    refine (H1.out _).mono ?_
    rintro e w2 ⟨rfl, b2⟩
    have HB2 := Lib.hid (HB1.out.trans (b2.mono HB1.out.size))
    clear b2
    go_wp2_with fail
    refine (H2.out _).mono ?_
    rintro e w3 ⟨rfl, b3⟩
    have HB3 := Lib.hid (HB2.out.trans (b3.mono HB2.out.size))
    clear b3
    go_wp2_with fail
    refine (H3.out _).mono ?_
    rintro e w4 ⟨rfl, b4⟩
    have HB4 := Lib.hid (HB3.out.trans (b4.mono HB3.out.size))
    clear b4
    generalize countZ (madeT g) [40] = za at HR ⊢
    generalize countZ (madeT g) [123] = zb at HR ⊢
    generalize countZ (madeT g) [94] = zc at HR ⊢
    go_wp2_with fail
    go_ret2
    refine ⟨⟨_, rfl, .inr ⟨_, 3, 3, #[.int .i64 za, .int .i64 zb, .int .i64 zc], by rw [HR.out]; rfl, HB4.out.size, Blk.newAt _ _ rfl, by rw [HR.out]; exact Nat.le_refl _, fun k hk => ?_⟩⟩, HB4.out.alloc HB4.out.size _⟩
    rw [HR.out] at hk
    simp only [HR.out]
    rcases k with _ | _ | _ | k
    · rfl
    · rfl
    · rfl
    · exact absurd hk (by simp)

set_option maxRecDepth 100000 in
theorem specCountNeeded_any (A : Option Addr) (cap : Nat) (g : List Bl) (w : World) (hg : Gr w A g) (hn : g.length + tot g ≤ 1048576) (hcap : g.length ≤ cap) :
    Calls Tryz.prog 22 #[.slice A g.length cap] w fun e w' => (∃ v, e = .returned (.tuple #[v, .bool (madeB g)]) ∧ IntsV w' w.heap.size v (needL g)) ∧ Below w.heap.size w w' := by
  have HC := Lib.hid (specMakeText_any A cap g w hg hn hcap)
  clear hg
  cases hb : madeB g with
  | false =>
    rw [hb] at HC
    have HR : Hid (needL g = []) := Lib.hid (by unfold needL; rw [hb]; rfl)
    clear hb
    go_enter Tryz.func22, Tryz.ntmps22
    go_wp2_with fail
    refine HC.out.mono ?_
    rintro e w1 ⟨rfl, b1⟩
    have HB1 := Lib.hid b1
    clear b1
    go_wp2_with fail
    go_ret2
    refine ⟨⟨_, rfl, .inr ⟨_, 0, 3, #[], by rw [HR.out]; rfl, HB1.out.size, Blk.newAt _ _ rfl, by rw [HR.out]; exact Nat.le_refl _, fun k hk => ?_⟩⟩, HB1.out.alloc HB1.out.size _⟩
    rw [HR.out] at hk
    exact absurd hk (by simp)
  | true =>
    have hm : madeV g = tb (madeT g) := by unfold madeV; rw [if_pos hb]
    rw [hb, hm] at HC
    have HR : Hid (needL g = [countZ (madeT g) [40], countZ (madeT g) [123], countZ (madeT g) [94]]) := Lib.hid (by unfold needL; rw [if_pos hb])
    have HLT : Hid ((madeT g).length ≤ 1048576) := Lib.hid (by
      have h := hb
      unfold madeB at h
      rw [Bool.and_eq_true] at h
      have := madeT_small h.1
      omega)
    have H1 : Hid (∀ W, Calls Tryz.prog 43 #[.string (tb (madeT g)), .string ⟨#[40]⟩] W fun e w' => e = .returned (.int .i64 (countZ (madeT g) [40])) ∧ Below W.heap.size W w') := fun W => specCountItems_any (madeT g) [40] W HLT.out (by decide)
    have H2 : Hid (∀ W, Calls Tryz.prog 43 #[.string (tb (madeT g)), .string ⟨#[123]⟩] W fun e w' => e = .returned (.int .i64 (countZ (madeT g) [123])) ∧ Below W.heap.size W w') := fun W => specCountItems_any (madeT g) [123] W HLT.out (by decide)
    have H3 : Hid (∀ W, Calls Tryz.prog 43 #[.string (tb (madeT g)), .string ⟨#[94]⟩] W fun e w' => e = .returned (.int .i64 (countZ (madeT g) [94])) ∧ Below W.heap.size W w') := fun W => specCountItems_any (madeT g) [94] W HLT.out (by decide)
    clear hb hm
    go_enter Tryz.func22, Tryz.ntmps22
    go_wp2_with fail
    refine HC.out.mono ?_
    rintro e w1 ⟨rfl, b1⟩
    have HB1 := Lib.hid b1
    clear b1
    go_wp2_with fail
    refine (H1.out _).mono ?_
    rintro e w2 ⟨rfl, b2⟩
    have HB2 := Lib.hid (HB1.out.trans (b2.mono HB1.out.size))
    clear b2
    go_wp2_with fail
    refine (H2.out _).mono ?_
    rintro e w3 ⟨rfl, b3⟩
    have HB3 := Lib.hid (HB2.out.trans (b3.mono HB2.out.size))
    clear b3
    go_wp2_with fail
    refine (H3.out _).mono ?_
    rintro e w4 ⟨rfl, b4⟩
    have HB4 := Lib.hid (HB3.out.trans (b4.mono HB3.out.size))
    clear b4
    generalize countZ (madeT g) [40] = za at HR ⊢
    generalize countZ (madeT g) [123] = zb at HR ⊢
    generalize countZ (madeT g) [94] = zc at HR ⊢
    go_wp2_with fail
    go_ret2
    refine ⟨⟨_, rfl, .inr ⟨_, 3, 3, #[.int .i64 za, .int .i64 zb, .int .i64 zc], by rw [HR.out]; rfl, HB4.out.size, Blk.newAt _ _ rfl, by rw [HR.out]; exact Nat.le_refl _, fun k hk => ?_⟩⟩, HB4.out.alloc HB4.out.size _⟩
    rw [HR.out] at hk
    simp only [HR.out]
    rcases k with _ | _ | _ | k
    · rfl
    · rfl
    · rfl
    · exact absurd hk (by simp)

end Go.Proofs.YtgebedbankibmaaGreatDoor
