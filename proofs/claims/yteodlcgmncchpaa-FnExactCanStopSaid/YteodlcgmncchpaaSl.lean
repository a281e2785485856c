/-
  Contracts of the functions that go over slices of blocks: sizes, copies, comparison, names.
-/
import Derived.Test.YteodlcgmncchpaaLeaf
import Derived.Test.YteodlcgmncchpaaGr
import Derived.Deep.LoopGhost
import Derived.Lib.QuietBelow
import Derived.KernelRfl
namespace Go.Proofs.Yteodlcgmncchpaa
open Go.RowKit Go.Sort

theorem bcell {W w1 : World} (hb : Below W.heap.size W w1) : (∀ b o, b < W.heap.size → w1.cell? ⟨b, o, none⟩ = W.cell? ⟨b, o, none⟩) ∧ (∀ b o, b < W.heap.size → w1.frozen? ⟨b, o, none⟩ = W.frozen? ⟨b, o, none⟩) :=
  ⟨fun b o h => hb.cell (p := ⟨b, o, none⟩) h, fun b o h => hb.frozen (p := ⟨b, o, none⟩) h⟩

theorem below_trans_self {w w1 w2 : World} (h : Below w.heap.size w w1) (h2 : Below w1.heap.size w1 w2) : Below w.heap.size w w2 :=
  h.trans (h2.mono h.size)

theorem ret_string {a b : ByteArray} (h : a = b) : Ending.returned (.string a) = .returned (.string b) := by rw [h]

/-- What a round over blocks knows of its block. -/
theorem gr_at {w : World} {A : Option Addr} {g : List Bl} (hg : Gr w A g) {k : Nat} (h : k < g.length) :
    ∃ b off s t, A = some ⟨b, off, none⟩ ∧ b < w.heap.size ∧ w.cell? ⟨b, off + k * 2, none⟩ = some (.string s) ∧ w.cell? ⟨b, off + k * 2 + 1, none⟩ = some (.string t) ∧ g[k].1 = s ∧ g[k].2 = t := by
  obtain ⟨b, off, e, hb, hc⟩ := hg (by omega)
  exact ⟨b, off, g[k].1, g[k].2, e, hb, (hc k h).1, (hc k h).2, rfl, rfl⟩

theorem names_any (A : Option Addr) (cap : Nat) (g : List Bl) (w : World) (hg : Gr w A g) (hn : g.length ≤ 1048576) (ht : tot g ≤ 1048576) :
    Calls Try.prog 66 #[.slice A g.length cap] w fun e w' => e = .returned (.string (names g)) ∧ Below w.heap.size w w' := by
  go_enter Try.func66, Try.ntmps66
  go_wp2
  go_loopw [3, 8] (fun s i wr => ∃ k : Nat, k ≤ g.length ∧ i = .int .i64 k ∧ s = .string (names (g.take k)) ∧ Below w.heap.size w wr) (fun _ i _ => g.length - (intOf i).toNat)
  case atStart => exact ⟨0, Nat.zero_le _, rfl, rfl, Below.refl _ _⟩
  case round =>
    obtain ⟨k, hk, rfl, rfl, hB⟩ := hrel
    have hs := names_size_le (g.take k)
    have hs2 := tot_take_le g k
    obtain ⟨m, hm⟩ : ∃ m, m = names (g.take k) := ⟨_, rfl⟩
    have HM := Lib.hid hm
    rw [← hm] at hs ⊢
    clear hm
    by_cases hlt : k < g.length
    · obtain ⟨b, off, s, t, rfl, hb, hc0, hc1, he, he2⟩ := gr_at (hg.below hB) hlt
      have hs3 := tot_get g k hlt
      rw [he, he2] at hs3
      have HN := Lib.hid (names_take g k hlt)
      have HE := Lib.hid he
      clear he he2
      go_wp2
      go_roundw
      case rel => exact ⟨k + 1, by omega, by go_num, by rw [HN.out, HE.out, ← HM.out], hB.alloc hB.size _⟩
      case measure => simp [intOf]; omega
    · go_wp2
      go_ret
      exact ⟨ret_string (by rw [HM.out, List.take_of_length_le (by omega)]), hB⟩

set_option maxHeartbeats 400000 in
theorem szS_small (A : Option Addr) (cap : Nat) (g : List Bl) (w : World) (hg : Gr w A g) (hn : g.length + tot g ≤ 1048576) :
    Calls Try.prog 13 #[.slice A g.length cap, .int .i64 1048576] w fun e w' => e = .returned (.int .i64 (1048576 - g.length - tot g)) ∧ Below w.heap.size w w' := by
  go_enter Try.func13, Try.ntmps13
  go_wp2
  go_loopw [1, 5] (fun l i wr => ∃ k : Nat, k ≤ g.length ∧ i = .int .i64 k ∧ l = .int .i64 (1048576 - g.length - tot (g.take k)) ∧ Below w.heap.size w wr) (fun _ i _ => g.length - (intOf i).toNat)
  case atStart => exact ⟨0, Nat.zero_le _, rfl, by simp [tot], Below.refl _ _⟩
  case round =>
    obtain ⟨k, hk, rfl, rfl, hB⟩ := hrel
    have hs2 := tot_take_le g k
    obtain ⟨m, hm⟩ : ∃ m, m = tot (g.take k) := ⟨_, rfl⟩
    have HM := Lib.hid hm
    rw [← hm] at hs2 ⊢
    clear hm
    by_cases hlt : k < g.length
    · obtain ⟨b, off, s, t, rfl, hb, hc0, hc1, he, he2⟩ := gr_at (hg.below hB) hlt
      have hs3 := tot_get g k hlt
      have hs4 := tot_take g k hlt
      have hs5 := tot_take_le g (k + 1)
      rw [he, he2] at hs3 hs4
      rw [← HM.out] at hs4
      have hs6 : m + (s.size + t.size) ≤ tot g := by omega
      have HN := Lib.hid hs4
      have HZ := Lib.hid (show szL s t (1048576 - g.length - m) = 1048576 - g.length - m - s.size - t.size by unfold szL; rw [if_neg (by omega)])
      clear he he2 hs4 hs5
      go_wp2_with fail
      refine (szBlock_any s t _ _ (by omega) (by omega) (by omega) (by omega)).mono ?_
      rintro e w1 ⟨rfl, hb1⟩
      rw [HZ.out]
      go_wp2
      go_roundw
      case rel => exact ⟨k + 1, by omega, by go_num, by rw [HN.out]; congr 1; omega, below_trans_self hB hb1⟩
      case measure => simp [intOf]; omega
    · go_wp2
      go_ret
      refine ⟨ret_int ?_, hB⟩
      have : m = tot g := by rw [HM.out, List.take_of_length_le (by omega)]
      omega

set_option maxHeartbeats 400000 in
theorem szS_big (A : Option Addr) (cap : Nat) (g : List Bl) (w : World) (hg : Gr w A g) (hn : ¬ g.length + tot g ≤ 1048576) (hl : g.length ≤ 9223372036854775807) (hz : ∀ b ∈ g, b.1.size ≤ 9223372036854775807 ∧ b.2.size ≤ 9223372036854775807) :
    Calls Try.prog 13 #[.slice A g.length cap, .int .i64 1048576] w fun e w' => e = .returned (.int .i64 (-1)) ∧ Below w.heap.size w w' := by
  by_cases h0 : (1048576 : Int) - g.length < 0
  · go_enter Try.func13, Try.ntmps13
    go_wp2
    go_ret
    exact ⟨rfl, Below.refl _ _⟩
  · go_enter Try.func13, Try.ntmps13
    go_wp2
    go_loopw [1, 5] (fun l i wr => ∃ k : Nat, k ≤ g.length ∧ i = .int .i64 k ∧ l = .int .i64 (1048576 - g.length - tot (g.take k)) ∧ g.length + tot (g.take k) ≤ 1048576 ∧ Below w.heap.size w wr) (fun _ i _ => g.length - (intOf i).toNat)
    case atStart => exact ⟨0, Nat.zero_le _, rfl, by simp [tot], by simp [tot]; omega, Below.refl _ _⟩
    case round =>
      obtain ⟨k, hk, rfl, rfl, hle, hB⟩ := hrel
      obtain ⟨m, hm⟩ : ∃ m, m = tot (g.take k) := ⟨_, rfl⟩
      have HM := Lib.hid hm
      rw [← hm] at hle ⊢
      clear hm
      by_cases hlt : k < g.length
      · obtain ⟨b, off, s, t, rfl, hb, hc0, hc1, he, he2⟩ := gr_at (hg.below hB) hlt
        have hs4 := tot_take g k hlt
        have hz1 := hz g[k] (List.getElem_mem _)
        rw [he, he2] at hs4 hz1
        obtain ⟨hz1, hz2⟩ := hz1
        rw [← HM.out] at hs4
        have HN := Lib.hid hs4
        clear he he2 hs4
        by_cases hlast : (1048576 : Int) - g.length - m - s.size - t.size < 0
        · have HZ := Lib.hid (show szL s t (1048576 - g.length - m) = -1 by unfold szL; rw [if_pos hlast])
          go_wp2_with fail
          refine (szBlock_any s t _ _ (by omega) (by omega) (by omega) (by omega)).mono ?_
          rintro e w1 ⟨rfl, hb1⟩
          rw [HZ.out]
          go_wp2
          go_ret
          exact ⟨rfl, below_trans_self hB hb1⟩
        · have HZ := Lib.hid (show szL s t (1048576 - g.length - m) = 1048576 - g.length - m - s.size - t.size by unfold szL; rw [if_neg hlast])
          go_wp2_with fail
          refine (szBlock_any s t _ _ (by omega) (by omega) (by omega) (by omega)).mono ?_
          rintro e w1 ⟨rfl, hb1⟩
          rw [HZ.out]
          go_wp2
          go_roundw
          case rel => exact ⟨k + 1, by omega, by go_num, by rw [HN.out]; congr 1; omega, by rw [HN.out]; omega, below_trans_self hB hb1⟩
          case measure => simp [intOf]; omega
      · exfalso
        have : m = tot g := by rw [HM.out, List.take_of_length_le (by omega)]
        omega

theorem info_block : (Try.prog.info? 49).map (fun i => (i.zero, i.size, i.bytes)) = some (some (.agg #[.string ⟨#[]⟩, .string ⟨#[]⟩]), 2, 32) := by kernel_rfl

theorem run_make_blocks (n : Nat) (hn : n ≤ 1048576) (w : World) :
    (Instr.makeSlice 26 (.int .i64 (n : Int)) (.int .i64 (n : Int))).run Try.prog w = .ok (.slice (some ⟨w.heap.size, 0, none⟩) n n) (w.alloc (.cells (madeCells #[.string ⟨#[]⟩, .string ⟨#[]⟩] (n * 2)) 49)) := by
  obtain ⟨i, hi, hzz⟩ := Option.map_eq_some_iff.1 info_block
  simp only [Prod.mk.injEq] at hzz
  obtain ⟨hz, hs, hb⟩ := hzz
  have := run_make (P := Try.prog) w 26 49 i _ Try.underlying26 hi hz .i64 .i64 n n (by omega) (by omega) (by rw [hb]; omega) (by omega)
  simpa [hs, Value.cells] using this

/-- Of the cells of a row being filled: the first k blocks are there. -/
def Filled (cs : Array Value) (g : List Bl) (k : Nat) : Prop := cs.size = g.length * 2 ∧ ∀ j (h : j < g.length), j < k → cs[j * 2]? = some (.string g[j].1) ∧ cs[j * 2 + 1]? = some (.string g[j].2)

theorem Filled.step {cs : Array Value} {g : List Bl} {k : Nat} {s t : ByteArray} (h : Filled cs g k) (hk : k < g.length) (e1 : g[k].1 = s) (e2 : g[k].2 = t) :
    Filled ((cs.setIfInBounds (k * 2) (.string s)).setIfInBounds (k * 2 + 1) (.string t)) g (k + 1) := by
  refine ⟨by simpa using h.1, fun j hj hjk => ?_⟩
  have hsz := h.1
  simp only [Array.getElem?_setIfInBounds, Array.size_setIfInBounds]
  rcases Nat.lt_succ_iff_lt_or_eq.1 hjk with hlt | rfl
  · rw [if_neg (by omega), if_neg (by omega), if_neg (by omega), if_neg (by omega)]
    exact h.2 j hj hlt
  · constructor
    · rw [if_neg (by omega), if_pos rfl, if_pos (by omega), e1]
    · rw [if_pos rfl, if_pos (by omega), e2]

set_option maxHeartbeats 400000 in
theorem toS_any (A : Option Addr) (cap : Nat) (g : List Bl) (w : World) (hg : Gr w A g) (hn : g.length + tot g ≤ 1048576) :
    Calls Try.prog 15 #[.slice A g.length cap] w fun e w' => e = .returned (.slice (some ⟨w.heap.size, 0, none⟩) g.length g.length) ∧ OwnGr w' w.heap.size g ∧ Below w.heap.size w w' := by
  have hmk := run_make_blocks g.length (by omega)
  go_enter Try.func15, Try.ntmps15
  go_wp2
  clear hmk
  go_loopw [4] (fun i wr => ∃ k : Nat, k ≤ g.length ∧ i = .int .i64 k ∧ (∃ cs, Blk wr w.heap.size 49 cs ∧ Filled cs g k) ∧ Below w.heap.size w wr) (fun i _ => g.length - (intOf i).toNat)
  case atStart => exact ⟨0, Nat.zero_le _, rfl, ⟨_, Blk.new _ _ _, size_madeCells _ _, fun j hj h => absurd h (by omega)⟩, (Below.refl _ _).alloc (Nat.le_refl _) _⟩
  case round =>
    obtain ⟨k, hk, rfl, ⟨cs, hblk, hf⟩, hB⟩ := hrel
    by_cases hlt : k < g.length
    · obtain ⟨b, off, s, t, rfl, hb, hc0, hc1, he, he2⟩ := gr_at (hg.below hB) hlt
      have HE := Lib.hid he
      have HE2 := Lib.hid he2
      have HF := Lib.hid hf
      have hsz := hf.1
      clear he he2 hf
      go_wp2_with fail
      refine (toBlock_any s t _).mono ?_
      rintro e w1 ⟨rfl, hb1⟩
      have hblk1 := hblk.below hb1 hblk.lt
      obtain ⟨v0, x0⟩ := hblk1.some_cell (i := k * 2) (by omega)
      obtain ⟨v1, x1⟩ := hblk1.some_cell (i := k * 2 + 1) (by omega)
      have f0 := hblk1.frozen (k * 2)
      have f1 := hblk1.frozen (k * 2 + 1)
      have HB1 := Lib.hid hblk1
      clear hblk1 hblk hsz
      go_wp2
      go_roundw
      case rel => exact ⟨k + 1, by omega, by go_num, ⟨_, (HB1.out.set_ _ _).set_ _ _, HF.out.step hlt HE.out HE2.out⟩, ((below_trans_self hB hb1).setCell (p := ⟨w.heap.size, k * 2, none⟩) (Nat.le_refl _) _).setCell (p := ⟨w.heap.size, k * 2 + 1, none⟩) (Nat.le_refl _) _⟩
      case measure => simp [intOf]; omega
    · have HF := Lib.hid hf
      clear hf
      go_wp2
      go_ret
      exact ⟨rfl, ⟨cs, _, hblk, fun j hj => HF.out.2 j hj (by omega)⟩, hB⟩

/-- Two lists of blocks, compared. -/
def eqG : List Bl → List Bl → Bool
  | [], [] => true
  | a :: g, b :: h => eqB a.1 a.2 b.1 b.2 && eqG g h
  | _, _ => false

theorem beq_toList {a b : ByteArray} : (a.toList == b.toList) = true ↔ a = b := by
  constructor
  · intro h
    have h1 : a.toList = b.toList := by simpa using h
    rw [Lib.toList_data, Lib.toList_data] at h1
    exact ba_ext h1
  · rintro rfl; simp

theorem eqB_iff {s t s' t' : ByteArray} : eqB s t s' t' = true ↔ s = s' ∧ t = t' := by
  unfold eqB; rw [Bool.and_eq_true, beq_toList, beq_toList]

theorem eqG_iff {g h : List Bl} : eqG g h = true ↔ g = h := by
  induction g generalizing h with
  | nil => cases h <;> simp [eqG]
  | cons a g ih =>
    cases h with
    | nil => simp [eqG]
    | cons b h =>
      obtain ⟨a1, a2⟩ := a
      obtain ⟨b1, b2⟩ := b
      simp [eqG, eqB_iff, ih, and_assoc]

set_option maxHeartbeats 400000 in
theorem eqS_any (A A' : Option Addr) (cap cap' : Nat) (g h : List Bl) (w : World) (hg : Gr w A g) (hh : Gr w A' h) (hn : g.length ≤ 1048576) (hn' : h.length ≤ 1048576) :
    Calls Try.prog 17 #[.slice A g.length cap, .slice A' h.length cap'] w fun e w' => e = .returned (.bool (eqG g h)) ∧ Below w.heap.size w w' := by
  by_cases hl : g.length = h.length
  · have hl' : ((g.length : Int) != (h.length : Int)) = false := by simp [hl]
    have HL := Lib.hid hl
    clear hl
    go_enter Try.func17, Try.ntmps17
    go_wp2
    go_loopw [5] (fun i wr => ∃ k : Nat, k ≤ g.length ∧ i = .int .i64 k ∧ Hid (∀ j (h1 : j < g.length) (h2 : j < h.length), j < k → g[j] = h[j]) ∧ Below w.heap.size w wr) (fun i _ => g.length - (intOf i).toNat)
    case atStart => exact ⟨0, Nat.zero_le _, rfl, fun j _ _ h => absurd h (by omega), Below.refl _ _⟩
    case round =>
      obtain ⟨k, hk, rfl, HK, hB⟩ := hrel
      by_cases hlt : k < g.length
      · have hlt' : k < h.length := by have := HL.out; omega
        obtain ⟨b, off, s, t, rfl, hb, hc0, hc1, he, he2⟩ := gr_at (hg.below hB) hlt
        obtain ⟨b', off', s', t', rfl, hb', hc0', hc1', he', he2'⟩ := gr_at (hh.below hB) hlt'
        have HE := Lib.hid (show g[k] = (s, t) from Prod.ext he he2)
        have HE' := Lib.hid (show h[k] = (s', t') from Prod.ext he' he2')
        clear he he2 he' he2' hg hh
        have k0 := cell_regrown hc0
        have k1 := cell_regrown hc1
        have k2 := cell_regrown hc0'
        have k3 := cell_regrown hc1'
        have cQ : ∀ d os, Calls Try.prog 52 #[blk s t, blk s' t'] (grow (redrawn wr d) os) fun e w'' => e = .returned (.bool (eqB s t s' t')) ∧ ∃ p : Regrown, w'' = grow (redrawn wr p.d) p.os := fun d os => Calls.regrown_of (eqBlock_any _ _ _ _ _)
        go_wp2_with fail
        refine wp_region_quiet_below (by kernel_rfl) (by kernel_rfl) ?_
        repeat (any_goals (first | go_big_quiet_step (exact cQ _ _) | quiet_step (exact cQ _ _)))
        all_goals (refine wpQuiet_nil ?_; intro _ hw'; obtain ⟨⟨dq, osq⟩, hw''⟩ := hw'; subst hw'')
        have hb2 := below_regrown wr dq osq
        generalize grow (redrawn wr dq) osq = w2 at hb2 ⊢
        clear cQ k0 k1 k2 k3
        by_cases hq : eqB s t s' t' = true
        · rw [hq]
          have HQ := Lib.hid hq
          clear hq
          go_wp2
          go_roundw
          case rel =>
            refine ⟨k + 1, by omega, by go_num, fun j h1 h2 hj => ?_, below_trans_self hB hb2⟩
            rcases Nat.lt_succ_iff_lt_or_eq.1 hj with h | rfl
            · exact HK.out j h1 h2 h
            · obtain ⟨e1, e2⟩ := eqB_iff.1 HQ.out
              rw [HE.out, HE'.out, e1, e2]
          case measure => simp [intOf]; omega
        · have hq' : eqB s t s' t' = false := by simpa using hq
          have HN := Lib.hid (show eqG g h = false from Bool.eq_false_iff.2 fun e => hq (eqB_iff.2 (by
            have e3 := eqG_iff.1 e
            subst e3
            exact Prod.mk.inj (HE.out.symm.trans HE'.out))))
          rw [hq']
          clear hq hq'
          go_wp2
          go_ret
          exact ⟨ret_bool HN.out.symm, below_trans_self hB hb2⟩
      · have HN := Lib.hid (show eqG g h = true from eqG_iff.2 (List.ext_getElem HL.out fun j h1 h2 => HK.out j h1 h2 (by omega)))
        go_wp2
        go_ret
        exact ⟨ret_bool HN.out.symm, hB⟩
  · have hl' : ((g.length : Int) != (h.length : Int)) = true := by simp; omega
    have HN := Lib.hid (show eqG g h = false from Bool.eq_false_iff.2 fun e => hl (by rw [eqG_iff.1 e]))
    clear hl
    go_enter Try.func17, Try.ntmps17
    go_wp2
    go_ret
    exact ⟨ret_bool HN.out.symm, Below.refl _ _⟩
end Go.Proofs.Yteodlcgmncchpaa
