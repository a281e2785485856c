/-
  Slices of knots: sizes, copies, comparison, marks (as those of blocks, which lie alike).
-/
import Derived.Test.YtibjldngdhcpaaaBase
import Derived.Test.YtibjldngdhcpaaaOnly
import Derived.Test.YtibjldngdhcpaaaValids
namespace Go.Proofs.Ytibjldngdhcpaaa
open Go.RowKit Go.Sort

theorem szKnot_any (s t : ByteArray) (l : Int) (w : World) (hs : s.size ≤ 9223372036854775807) (ht : t.size ≤ 9223372036854775807) (h0 : 0 ≤ l) (h1 : l ≤ 1048576) :
    Calls Try.prog 42 #[blk s t, .int .i64 l] w fun e w' => (e = .returned (.int .i64 (szL s t l))) ∧ Below w.heap.size w w' := by
  by_cases hA : l - s.size < 0
  · have HB := Lib.hid (show szL s t l = -1 by unfold szL; rw [if_pos (by omega)])
    go_enter Try.func42, Try.ntmps42
    go_wp2
    go_ret
    exact ⟨ret_int HB.out.symm, (Below.refl _ _).alloc (Nat.le_refl _) _⟩
  · by_cases hB : l - s.size - t.size < 0
    · have HB := Lib.hid (show szL s t l = -1 by unfold szL; rw [if_pos (by omega)])
      go_enter Try.func42, Try.ntmps42
      go_wp2
      go_ret
      exact ⟨ret_int HB.out.symm, (Below.refl _ _).alloc (Nat.le_refl _) _⟩
    · have HB := Lib.hid (show szL s t l = l - s.size - t.size by unfold szL; rw [if_neg (by omega)])
      go_enter Try.func42, Try.ntmps42
      go_wp2
      go_ret
      exact ⟨ret_int HB.out.symm, (Below.refl _ _).alloc (Nat.le_refl _) _⟩

theorem toKnot_any (s t : ByteArray) (w : World) :
    Calls Try.prog 47 #[blk s t] w fun e w' => e = .returned (blk s t) ∧ Below w.heap.size w w' := by
  go_enter Try.func47, Try.ntmps47
  go_wp2
  exact bodyPost_ret (v := blk s t) (by simp [results, Try.results47, go_sem]) rfl ⟨rfl, (((Below.refl _ _).alloc (Nat.le_refl _) _).alloc (by simp) _).alloc (by simp; omega) _⟩

theorem eqKnot_any (s t s' t' : ByteArray) (w : World) :
    Calls Try.prog 49 #[blk s t, blk s' t'] w fun e w' => e = .returned (.bool (eqB s t s' t')) ∧ Below w.heap.size w w' := by
  by_cases h1 : (s.toList == s'.toList) = true
  · by_cases h2 : (t.toList == t'.toList) = true
    · have HB := Lib.hid (show eqB s t s' t' = true by unfold eqB; rw [h1, h2]; rfl)
      go_enter Try.func49, Try.ntmps49
      go_wp2
      go_ret
      exact ⟨ret_bool HB.out.symm, ((Below.refl _ _).alloc (Nat.le_refl _) _).alloc (by simp) _⟩
    · have h2' : (t.toList == t'.toList) = false := by simpa using h2
      clear h2
      have HB := Lib.hid (show eqB s t s' t' = false by unfold eqB; rw [h1, h2']; rfl)
      go_enter Try.func49, Try.ntmps49
      go_wp2
      go_ret
      exact ⟨ret_bool HB.out.symm, ((Below.refl _ _).alloc (Nat.le_refl _) _).alloc (by simp) _⟩
  · have h1' : (s.toList == s'.toList) = false := by simpa using h1
    clear h1
    have HB := Lib.hid (show eqB s t s' t' = false by unfold eqB; rw [h1']; rfl)
    go_enter Try.func49, Try.ntmps49
    go_wp2
    go_ret
    exact ⟨ret_bool HB.out.symm, ((Below.refl _ _).alloc (Nat.le_refl _) _).alloc (by simp) _⟩

set_option maxHeartbeats 400000 in
theorem szKS_small (A : Option Addr) (cap : Nat) (g : List Bl) (w : World) (hg : Gr w A g) (hn : g.length + tot g ≤ 1048576) :
    Calls Try.prog 11 #[.slice A g.length cap, .int .i64 1048576] w fun e w' => e = .returned (.int .i64 (1048576 - g.length - tot g)) ∧ Below w.heap.size w w' := by
  go_enter Try.func11, Try.ntmps11
  go_wp2
  go_loopw [1, 5] (fun l i wr => ∃ k : Nat, k ≤ g.length ∧ i = .int .i64 k ∧ l = .int .i64 (1048576 - g.length - tot (g.take k)) ∧ Below w.heap.size w wr) (fun _ i _ => g.length - (intOf i).toNat)
  case atStart => exact ⟨0, Nat.zero_le _, rfl, by simp [tot], Below.refl _ _⟩
  case round =>
    obtain ⟨k, hk, rfl, rfl, hB⟩ := hrel
    have hs2 := tot_take_le g k
    obtain ⟨m, hm⟩ : ∃ m, m = tot (g.take k) := ⟨_, rfl⟩
    have HM := Lib.hid hm
    rw [← hm] at hs2 ⊢
    clear hm
    by_cases hlt : k < g.length
    · obtain ⟨b, off, s, t, rfl, hb, hc0, hc1, he, he2⟩ := gr_at (hg.below hB) hlt
      have hs3 := tot_get g k hlt
      have hs4 := tot_take g k hlt
      have hs5 := tot_take_le g (k + 1)
      rw [he, he2] at hs3 hs4
      rw [← HM.out] at hs4
      have hs6 : m + (s.size + t.size) ≤ tot g := by omega
      have HN := Lib.hid hs4
      have HZ := Lib.hid (show szL s t (1048576 - g.length - m) = 1048576 - g.length - m - s.size - t.size by unfold szL; rw [if_neg (by omega)])
      clear he he2 hs4 hs5
      go_wp2_with fail
      refine (szKnot_any s t _ _ (by omega) (by omega) (by omega) (by omega)).mono ?_
      rintro e w1 ⟨rfl, hb1⟩
      rw [HZ.out]
      go_wp2
      go_roundw
      case rel => exact ⟨k + 1, by omega, by go_num, by rw [HN.out]; congr 1; omega, below_trans_self hB hb1⟩
      case measure => simp [intOf]; omega
    · go_wp2
      go_ret
      refine ⟨ret_int ?_, hB⟩
      have : m = tot g := by rw [HM.out, List.take_of_length_le (by omega)]
      omega

set_option maxHeartbeats 400000 in
theorem szKS_big (A : Option Addr) (cap : Nat) (g : List Bl) (w : World) (hg : Gr w A g) (hn : ¬ g.length + tot g ≤ 1048576) (hl : g.length ≤ 9223372036854775807) (hz : ∀ b ∈ g, b.1.size ≤ 9223372036854775807 ∧ b.2.size ≤ 9223372036854775807) :
    Calls Try.prog 11 #[.slice A g.length cap, .int .i64 1048576] w fun e w' => e = .returned (.int .i64 (-1)) ∧ Below w.heap.size w w' := by
  by_cases h0 : (1048576 : Int) - g.length < 0
  · go_enter Try.func11, Try.ntmps11
    go_wp2
    go_ret
    exact ⟨rfl, Below.refl _ _⟩
  · go_enter Try.func11, Try.ntmps11
    go_wp2
    go_loopw [1, 5] (fun l i wr => ∃ k : Nat, k ≤ g.length ∧ i = .int .i64 k ∧ l = .int .i64 (1048576 - g.length - tot (g.take k)) ∧ g.length + tot (g.take k) ≤ 1048576 ∧ Below w.heap.size w wr) (fun _ i _ => g.length - (intOf i).toNat)
    case atStart => exact ⟨0, Nat.zero_le _, rfl, by simp [tot], by simp [tot]; omega, Below.refl _ _⟩
    case round =>
      obtain ⟨k, hk, rfl, rfl, hle, hB⟩ := hrel
      obtain ⟨m, hm⟩ : ∃ m, m = tot (g.take k) := ⟨_, rfl⟩
      have HM := Lib.hid hm
      rw [← hm] at hle ⊢
      clear hm
      by_cases hlt : k < g.length
      · obtain ⟨b, off, s, t, rfl, hb, hc0, hc1, he, he2⟩ := gr_at (hg.below hB) hlt
        have hs4 := tot_take g k hlt
        have hz1 := hz g[k] (List.getElem_mem _)
        rw [he, he2] at hs4 hz1
        obtain ⟨hz1, hz2⟩ := hz1
        rw [← HM.out] at hs4
        have HN := Lib.hid hs4
        clear he he2 hs4
        by_cases hlast : (1048576 : Int) - g.length - m - s.size - t.size < 0
        · have HZ := Lib.hid (show szL s t (1048576 - g.length - m) = -1 by unfold szL; rw [if_pos hlast])
          go_wp2_with fail
          refine (szKnot_any s t _ _ (by omega) (by omega) (by omega) (by omega)).mono ?_
          rintro e w1 ⟨rfl, hb1⟩
          rw [HZ.out]
          go_wp2
          go_ret
          exact ⟨rfl, below_trans_self hB hb1⟩
        · have HZ := Lib.hid (show szL s t (1048576 - g.length - m) = 1048576 - g.length - m - s.size - t.size by unfold szL; rw [if_neg hlast])
          go_wp2_with fail
          refine (szKnot_any s t _ _ (by omega) (by omega) (by omega) (by omega)).mono ?_
          rintro e w1 ⟨rfl, hb1⟩
          rw [HZ.out]
          go_wp2
          go_roundw
          case rel => exact ⟨k + 1, by omega, by go_num, by rw [HN.out]; congr 1; omega, by rw [HN.out]; omega, below_trans_self hB hb1⟩
          case measure => simp [intOf]; omega
      · exfalso
        have : m = tot g := by rw [HM.out, List.take_of_length_le (by omega)]
        omega

theorem info_knot : (Try.prog.info? 58).map (fun i => (i.zero, i.size, i.bytes)) = some (some (.agg #[.string ⟨#[]⟩, .string ⟨#[]⟩]), 2, 32) := by kernel_rfl

theorem run_make_knots (n : Nat) (hn : n ≤ 1048576) (w : World) :
    (Instr.makeSlice 25 (.int .i64 (n : Int)) (.int .i64 (n : Int))).run Try.prog w = .ok (.slice (some ⟨w.heap.size, 0, none⟩) n n) (w.alloc (.cells (madeCells #[.string ⟨#[]⟩, .string ⟨#[]⟩] (n * 2)) 58)) := by
  obtain ⟨i, hi, hzz⟩ := Option.map_eq_some_iff.1 info_knot
  simp only [Prod.mk.injEq] at hzz
  obtain ⟨hz, hs, hb⟩ := hzz
  have := run_make (P := Try.prog) w 25 58 i _ Try.underlying25 hi hz .i64 .i64 n n (by omega) (by omega) (by rw [hb]; omega) (by omega)
  simpa [hs, Value.cells] using this

set_option maxHeartbeats 400000 in
theorem toKS_any (A : Option Addr) (cap : Nat) (g : List Bl) (w : World) (hg : Gr w A g) (hn : g.length + tot g ≤ 1048576) :
    Calls Try.prog 13 #[.slice A g.length cap] w fun e w' => e = .returned (.slice (some ⟨w.heap.size, 0, none⟩) g.length g.length) ∧ OwnGr w' w.heap.size g ∧ Below w.heap.size w w' := by
  have hmk := run_make_knots g.length (by omega)
  go_enter Try.func13, Try.ntmps13
  go_wp2
  clear hmk
  go_loopw [4] (fun i wr => ∃ k : Nat, k ≤ g.length ∧ i = .int .i64 k ∧ (∃ cs, Blk wr w.heap.size 58 cs ∧ Filled cs g k) ∧ Below w.heap.size w wr) (fun i _ => g.length - (intOf i).toNat)
  case atStart => exact ⟨0, Nat.zero_le _, rfl, ⟨_, Blk.new _ _ _, size_madeCells _ _, fun j hj h => absurd h (by omega)⟩, (Below.refl _ _).alloc (Nat.le_refl _) _⟩
  case round =>
    obtain ⟨k, hk, rfl, ⟨cs, hblk, hf⟩, hB⟩ := hrel
    by_cases hlt : k < g.length
    · obtain ⟨b, off, s, t, rfl, hb, hc0, hc1, he, he2⟩ := gr_at (hg.below hB) hlt
      have HE := Lib.hid he
      have HE2 := Lib.hid he2
      have HF := Lib.hid hf
      have hsz := hf.1
      clear he he2 hf
      go_wp2_with fail
      refine (toKnot_any s t _).mono ?_
      rintro e w1 ⟨rfl, hb1⟩
      have hblk1 := hblk.below hb1 hblk.lt
      obtain ⟨v0, x0⟩ := hblk1.some_cell (i := k * 2) (by omega)
      obtain ⟨v1, x1⟩ := hblk1.some_cell (i := k * 2 + 1) (by omega)
      have f0 := hblk1.frozen (k * 2)
      have f1 := hblk1.frozen (k * 2 + 1)
      have HB1 := Lib.hid hblk1
      clear hblk1 hblk hsz
      go_wp2
      go_roundw
      case rel => exact ⟨k + 1, by omega, by go_num, ⟨_, (HB1.out.set_ _ _).set_ _ _, HF.out.step hlt HE.out HE2.out⟩, ((below_trans_self hB hb1).setCell (p := ⟨w.heap.size, k * 2, none⟩) (Nat.le_refl _) _).setCell (p := ⟨w.heap.size, k * 2 + 1, none⟩) (Nat.le_refl _) _⟩
      case measure => simp [intOf]; omega
    · have HF := Lib.hid hf
      clear hf
      go_wp2
      go_ret
      exact ⟨rfl, ⟨cs, _, hblk, fun j hj => HF.out.2 j hj (by omega)⟩, hB⟩

set_option maxHeartbeats 400000 in
theorem eqKS_any (A A' : Option Addr) (cap cap' : Nat) (g h : List Bl) (w : World) (hg : Gr w A g) (hh : Gr w A' h) (hn : g.length ≤ 1048576) (hn' : h.length ≤ 1048576) :
    Calls Try.prog 15 #[.slice A g.length cap, .slice A' h.length cap'] w fun e w' => e = .returned (.bool (eqG g h)) ∧ Below w.heap.size w w' := by
  by_cases hl : g.length = h.length
  · have hl' : ((g.length : Int) != (h.length : Int)) = false := by simp [hl]
    have HL := Lib.hid hl
    clear hl
    go_enter Try.func15, Try.ntmps15
    go_wp2
    go_loopw [5] (fun i wr => ∃ k : Nat, k ≤ g.length ∧ i = .int .i64 k ∧ Hid (∀ j (h1 : j < g.length) (h2 : j < h.length), j < k → g[j] = h[j]) ∧ Below w.heap.size w wr) (fun i _ => g.length - (intOf i).toNat)
    case atStart => exact ⟨0, Nat.zero_le _, rfl, fun j _ _ h => absurd h (by omega), Below.refl _ _⟩
    case round =>
      obtain ⟨k, hk, rfl, HK, hB⟩ := hrel
      by_cases hlt : k < g.length
      · have hlt' : k < h.length := by have := HL.out; omega
        obtain ⟨b, off, s, t, rfl, hb, hc0, hc1, he, he2⟩ := gr_at (hg.below hB) hlt
        obtain ⟨b', off', s', t', rfl, hb', hc0', hc1', he', he2'⟩ := gr_at (hh.below hB) hlt'
        have HE := Lib.hid (show g[k] = (s, t) from Prod.ext he he2)
        have HE' := Lib.hid (show h[k] = (s', t') from Prod.ext he' he2')
        clear he he2 he' he2' hg hh
        have k0 := cell_regrown hc0
        have k1 := cell_regrown hc1
        have k2 := cell_regrown hc0'
        have k3 := cell_regrown hc1'
        have cQ : ∀ d os, Calls Try.prog 49 #[blk s t, blk s' t'] (grow (redrawn wr d) os) fun e w'' => e = .returned (.bool (eqB s t s' t')) ∧ ∃ p : Regrown, w'' = grow (redrawn wr p.d) p.os := fun d os => Calls.regrown_of (eqKnot_any _ _ _ _ _)
        go_wp2_with fail
        refine wp_region_quiet_below (by kernel_rfl) (by kernel_rfl) ?_
        repeat (any_goals (first | go_big_quiet_step (exact cQ _ _) | quiet_step (exact cQ _ _)))
        all_goals (refine wpQuiet_nil ?_; intro _ hw'; obtain ⟨⟨dq, osq⟩, hw''⟩ := hw'; subst hw'')
        have hb2 := below_regrown wr dq osq
        generalize grow (redrawn wr dq) osq = w2 at hb2 ⊢
        clear cQ k0 k1 k2 k3
        by_cases hq : eqB s t s' t' = true
        · rw [hq]
          have HQ := Lib.hid hq
          clear hq
          go_wp2
          go_roundw
          case rel =>
            refine ⟨k + 1, by omega, by go_num, fun j h1 h2 hj => ?_, below_trans_self hB hb2⟩
            rcases Nat.lt_succ_iff_lt_or_eq.1 hj with h | rfl
            · exact HK.out j h1 h2 h
            · obtain ⟨e1, e2⟩ := eqB_iff.1 HQ.out
              rw [HE.out, HE'.out, e1, e2]
          case measure => simp [intOf]; omega
        · have hq' : eqB s t s' t' = false := by simpa using hq
          have HN := Lib.hid (show eqG g h = false from Bool.eq_false_iff.2 fun e => hq (eqB_iff.2 (by
            have e3 := eqG_iff.1 e
            subst e3
            exact Prod.mk.inj (HE.out.symm.trans HE'.out))))
          rw [hq']
          clear hq hq'
          go_wp2
          go_ret
          exact ⟨ret_bool HN.out.symm, below_trans_self hB hb2⟩
      · have HN := Lib.hid (show eqG g h = true from eqG_iff.2 (List.ext_getElem HL.out fun j h1 h2 => HK.out j h1 h2 (by omega)))
        go_wp2
        go_ret
        exact ⟨ret_bool HN.out.symm, hB⟩
  · have hl' : ((g.length : Int) != (h.length : Int)) = true := by simp; omega
    have HN := Lib.hid (show eqG g h = false from Bool.eq_false_iff.2 fun e => hl (by rw [eqG_iff.1 e]))
    clear hl
    go_enter Try.func15, Try.ntmps15
    go_wp2
    go_ret
    exact ⟨ret_bool HN.out.symm, Below.refl _ _⟩

end Go.Proofs.Ytibjldngdhcpaaa

namespace Go.Proofs.Ytibjldngdhcpaaa
open Go.ChangeShapes Go.WideShapes Go.ChangeAt Go.RowKit Go.Deep

theorem cellsKnot : Try.prog.cellsOf 57 = 2 := by kernel_rfl
set_option maxRecDepth 100000 in
/-- A slice-of-blocks argument. -/
theorem open_knots {H : Type} {enc : TypeId × Value → H} {W : World} {r : Reach} {b0 : Nat} {v : Value} {d : DataW H} {ps : List MemPlace}
    (hval : Value.okWide Try.prog W r b0 22 v) (h : DataW.Trod enc Try.prog W 0 (fun _ => true) true 22 v d ps) (hlt : ∀ x ∈ ps, x.block < W.heap.size) :
    ∃ (A : Option Addr) (cap : Nat) (g : List Bl), v = .slice A g.length cap ∧ g.length ≤ cap ∧ g.length ≤ maxLen ∧ Gr W A g ∧ ∀ b ∈ g, b.1.size ≤ maxLen ∧ b.2.size ≤ maxLen := by
  obtain ⟨a0, len, cap, rfl⟩ := okWide_slice Try.underlying22 hval
  obtain ⟨fuel, hf⟩ := h
  rcases open_slice_pairs Try.underlying22 Try.underlying57 cellsKnot rfl rfl cellsString cellsString hf with ⟨hcs, _⟩ | ⟨a, len', cap', m, n, V0, V1, D0, D1, P0, P1, hcs, _, hl, hm, hmm, hx, hall⟩
  · simp [Value.cells] at hcs
    obtain ⟨rfl, rfl, rfl⟩ := hcs
    exact ⟨none, 0, [], rfl, Nat.le_refl _, Nat.zero_le _, Gr.nil _ _, by simp⟩
  · simp [Value.cells] at hcs
    obtain ⟨rfl, rfl, rfl⟩ := hcs
    simp only [if_true] at hmm
    subst hmm
    have each : ∀ i, i < len → ∃ q : Bl, W.cell? (a.add (i * 2)) = some (.string q.1) ∧ W.cell? (a.add (i * 2 + 1)) = some (.string q.2) ∧ q.1.size ≤ maxLen ∧ q.2.size ≤ maxLen := by
      intro i hi
      obtain ⟨e0, e1, t0, t1⟩ := hall i (by omega)
      obtain ⟨s, hs, _, hs2⟩ := DataW.trod_string Try.underlying9 t0
      obtain ⟨t, ht, _, ht2⟩ := DataW.trod_string Try.underlying9 t1
      simp only [List.cons.injEq, and_true] at hs ht
      exact ⟨(s, t), by rw [e0, hs], by rw [e1, ht], hs2, ht2⟩
    obtain ⟨q, hq⟩ := choose_lt each
    refine ⟨some a, m, (List.range len).map q, by simp, by simpa using hl, by simp; omega, fun hn => ?_, ?_⟩
    · have hn' : 0 < len := by simpa using hn
      obtain ⟨b, off, spot⟩ := a
      have hspot : spot = none := by simpa [Addr.add] using World.cell?_spot (hq 0 hn').1
      subst hspot
      have hbW : b < W.heap.size := by
        have hx2 := (Prod.mk.inj hx).2
        have : MemPlace.cell b off ∈ ps := by
          rw [hx2]
          exact List.mem_append_left _ (MemPlace.mem_row.2 ⟨0, by omega, by simp⟩)
        exact hlt _ this
      refine ⟨b, off, rfl, hbW, fun k hk => ?_⟩
      have hk' : k < len := by simpa using hk
      have := hq k hk'
      rw [add_plain, add_plain] at this
      simp only [List.getElem_map, List.getElem_range]
      exact ⟨this.1, by rw [Nat.add_assoc]; exact this.2.1⟩
    · intro x hx'
      obtain ⟨i, hi, rfl⟩ := List.mem_map.1 hx'
      exact (hq i (List.mem_range.1 hi)).2.2
end Go.Proofs.Ytibjldngdhcpaaa
