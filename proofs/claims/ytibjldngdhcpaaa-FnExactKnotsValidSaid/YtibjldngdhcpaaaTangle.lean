/-
  Knots: when texts are in ascending order, when letters stand once, where a door is; the model's side of all three.
-/
import Derived.Test.YtibjldngdhcpaaaBase
import Derived.Test.YtibjldngdhcpaaaOnly
import Derived.Test.YtibjldngdhcpaaaNodes
import Derived.Test.YtibjldngdhcpaaaRuns
import Derived.IntWalk
namespace Go.Proofs.Ytibjldngdhcpaaa
open Go.RowKit Go.Sort

/-- The byte at a place. -/
def byt (s : ByteArray) (i : Nat) : UInt8 := (s.data.toList[i]?).getD 0
theorem byt_at {s : ByteArray} {i : Nat} (h : i < s.size) : byt s i = s[i] := by unfold byt; rw [byte_at s i h]; rfl
/-- In ascending order. -/
def ascB (s : ByteArray) : Bool := (List.range (s.size - 1)).all fun i => decide ((byt s i).toNat < (byt s (i + 1)).toNat)
theorem ascB_iff {s : ByteArray} : ascB s = true ↔ ∀ i, i + 1 < s.size → (byt s i).toNat < (byt s (i + 1)).toNat := by
  unfold ascB
  simp only [List.all_eq_true, List.mem_range, decide_eq_true_eq]
  exact ⟨fun h i hi => h i (by omega), fun h i hi => h i (by omega)⟩
/-- Letters, none twice. -/
def onceB (s : ByteArray) : Bool := (List.range s.size).all fun i => letB (byt s i) && !((s.data.toList.take i).contains (byt s i))
theorem onceB_iff {s : ByteArray} : onceB s = true ↔ ∀ i, i < s.size → letB (byt s i) = true ∧ (s.data.toList.take i).contains (byt s i) = false := by
  unfold onceB
  simp only [List.all_eq_true, List.mem_range, Bool.and_eq_true, Bool.not_eq_true']

set_option maxRecDepth 100000 in
theorem rest_any (s : ByteArray) (w : World) (hs : s.size ≤ 1048576) :
    Calls Try.prog 43 #[.string s] w fun e w' => e = .returned (.bool (ascB s)) ∧ Below w.heap.size w w' := by
  go_enter Try.func43, Try.ntmps43
  go_wp2_with fail
  go_loopw [3] (fun i wr => ∃ k : Nat, 1 ≤ k ∧ i = .int .i64 k ∧ Hid (k = 1 ∨ k ≤ s.size) ∧ Hid (∀ i, i + 1 < k → (byt s i).toNat < (byt s (i + 1)).toNat) ∧ Below w.heap.size w wr) (fun i _ => s.size - (intOf i).toNat)
  case atStart => exact ⟨1, Nat.le_refl _, rfl, Or.inl rfl, fun i h => absurd h (by omega), Below.refl _ _⟩
  case round =>
    obtain ⟨k, hk, rfl, HK1, HK, hB⟩ := hrel
    by_cases hlt : k < s.size
    · obtain ⟨m, rfl⟩ : ∃ m, k = m + 1 := ⟨k - 1, by omega⟩
      have h1 : m < s.size := by omega
      have s1 : IntKind.i64.wrap ((m : Int) + 1 - 1) = (m : Int) := by rw [IntWalk.i64_in _ (by omega)]; omega
      have t1 : ((m : Int) + 1).toNat = m + 1 := by omega
      have p1 : (m : Int) + 1 < s.size := by omega
      have p2 : 0 ≤ (m : Int) + 1 := by omega
      have p3 : (m : Int) < s.size := by omega
      have b0 := byt_at h1
      have b1 := byt_at hlt
      have HX := Lib.hid b0
      have HY := Lib.hid b1
      clear b0 b1
      by_cases hc : s[m].toNat < s[m + 1].toNat
      · have q1 : ¬ (s[m + 1].toNat ≤ s[m].toNat) := by omega
        have q2 : ¬ ((s[m + 1].toNat : Int) ≤ s[m].toNat) := by omega
        have HC := Lib.hid (show (byt s m).toNat < (byt s (m + 1)).toNat by rw [HX.out, HY.out]; exact hc)
        clear hc
        go_wp2_with fail
        go_quiet (fail)
        go_wp2_with fail
        go_roundw
        case rel => exact ⟨m + 1 + 1, by omega, by go_num, Or.inr (by omega), fun i h => by
          rcases Nat.lt_succ_iff_lt_or_eq.1 h with h | h
          · exact HK.out i h
          · have : i = m := by omega
            rw [this]; exact HC.out, hB.trans ((below_drewN _ _).mono hB.size)⟩
        case measure => simp [intOf]; omega
      · have HN := Lib.hid (show ascB s = false from Bool.eq_false_iff.2 fun e => hc (by rw [← HX.out, ← HY.out]; exact ascB_iff.1 e m hlt))
        have q1 : s[m + 1].toNat ≤ s[m].toNat := by omega
        have q2 : (s[m + 1].toNat : Int) ≤ s[m].toNat := by omega
        clear hc
        go_wp2_with fail
        go_quiet (fail)
        go_wp2_with fail
        go_ret
        exact ⟨ret_bool HN.out.symm, hB.trans ((below_drewN _ _).mono hB.size)⟩
    · have HN := Lib.hid (show ascB s = true from ascB_iff.2 fun i h => HK.out i (by omega))
      go_wp2_with fail
      go_ret
      exact ⟨ret_bool HN.out.symm, hB⟩
set_option maxRecDepth 100000 in
theorem ascending_any (s : ByteArray) (w : World) (hs : s.size ≤ 1048576) :
    Calls Try.prog 95 #[.string s] w fun e w' => e = .returned (.bool (ascB s)) ∧ Below w.heap.size w w' := by
  go_enter Try.func95, Try.ntmps95
  go_wp2_with fail
  go_loopw [3] (fun i wr => ∃ k : Nat, 1 ≤ k ∧ i = .int .i64 k ∧ Hid (k = 1 ∨ k ≤ s.size) ∧ Hid (∀ i, i + 1 < k → (byt s i).toNat < (byt s (i + 1)).toNat) ∧ Below w.heap.size w wr) (fun i _ => s.size - (intOf i).toNat)
  case atStart => exact ⟨1, Nat.le_refl _, rfl, Or.inl rfl, fun i h => absurd h (by omega), Below.refl _ _⟩
  case round =>
    obtain ⟨k, hk, rfl, HK1, HK, hB⟩ := hrel
    by_cases hlt : k < s.size
    · obtain ⟨m, rfl⟩ : ∃ m, k = m + 1 := ⟨k - 1, by omega⟩
      have h1 : m < s.size := by omega
      have s1 : IntKind.i64.wrap ((m : Int) + 1 - 1) = (m : Int) := by rw [IntWalk.i64_in _ (by omega)]; omega
      have t1 : ((m : Int) + 1).toNat = m + 1 := by omega
      have p1 : (m : Int) + 1 < s.size := by omega
      have p2 : 0 ≤ (m : Int) + 1 := by omega
      have p3 : (m : Int) < s.size := by omega
      have b0 := byt_at h1
      have b1 := byt_at hlt
      have HX := Lib.hid b0
      have HY := Lib.hid b1
      clear b0 b1
      by_cases hc : s[m].toNat < s[m + 1].toNat
      · have q1 : ¬ (s[m + 1].toNat ≤ s[m].toNat) := by omega
        have q2 : ¬ ((s[m + 1].toNat : Int) ≤ s[m].toNat) := by omega
        have HC := Lib.hid (show (byt s m).toNat < (byt s (m + 1)).toNat by rw [HX.out, HY.out]; exact hc)
        clear hc
        go_wp2_with fail
        go_quiet (fail)
        go_wp2_with fail
        go_roundw
        case rel => exact ⟨m + 1 + 1, by omega, by go_num, Or.inr (by omega), fun i h => by
          rcases Nat.lt_succ_iff_lt_or_eq.1 h with h | h
          · exact HK.out i h
          · have : i = m := by omega
            rw [this]; exact HC.out, hB.trans ((below_drewN _ _).mono hB.size)⟩
        case measure => simp [intOf]; omega
      · have HN := Lib.hid (show ascB s = false from Bool.eq_false_iff.2 fun e => hc (by rw [← HX.out, ← HY.out]; exact ascB_iff.1 e m hlt))
        have q1 : s[m + 1].toNat ≤ s[m].toNat := by omega
        have q2 : (s[m + 1].toNat : Int) ≤ s[m].toNat := by omega
        clear hc
        go_wp2_with fail
        go_quiet (fail)
        go_wp2_with fail
        go_ret
        exact ⟨ret_bool HN.out.symm, hB.trans ((below_drewN _ _).mono hB.size)⟩
    · have HN := Lib.hid (show ascB s = true from ascB_iff.2 fun i h => HK.out i (by omega))
      go_wp2_with fail
      go_ret
      exact ⟨ret_bool HN.out.symm, hB⟩

theorem ext_take (s : ByteArray) (k : Nat) : (s.extract 0 k).data.toList = s.data.toList.take k := by
  rw [ByteArray.data_extract]; simp
theorem ext_size0 {s : ByteArray} {k : Nat} (h : k ≤ s.size) : (s.extract 0 k).size = k := by rw [ByteArray.size_extract]; omega
set_option maxRecDepth 100000 in
theorem letters_any (s : ByteArray) (w : World) (hs : s.size ≤ 1048576) :
    Calls Try.prog 45 #[.string s] w fun e w' => e = .returned (.bool (onceB s)) ∧ Below w.heap.size w w' := by
  go_enter Try.func45, Try.ntmps45
  go_wp2_with fail
  go_loopw [6] (fun i wr => ∃ k : Nat, k ≤ s.size ∧ i = .int .i64 k ∧ Hid (∀ i, i < k → letB (byt s i) = true ∧ (s.data.toList.take i).contains (byt s i) = false) ∧ Below w.heap.size w wr) (fun i _ => s.size - (intOf i).toNat)
  case atStart => exact ⟨0, Nat.zero_le _, rfl, fun i h => absurd h (by omega), Below.refl _ _⟩
  case round =>
    obtain ⟨k, hk, rfl, HK, hB⟩ := hrel
    have HB := Lib.hid hB
    clear hB
    by_cases hlt : k < s.size
    · have HY := Lib.hid (byt_at hlt)
      have p3 : (k : Int) < s.size := by omega
      obtain ⟨z, hz⟩ : ∃ z, z = Lib.indexByte (s.extract 0 k).data.toList s[k] := ⟨_, rfl⟩
      have hzm : 0 ≤ z ↔ s[k] ∈ s.data.toList.take k := by rw [hz, idx_mem, ext_take]
      have cL : ∀ d os, Calls Try.prog 70 #[.int .u8 s[k].toNat] (grow (redrawn wr d) os) fun e w'' => e = .returned (.bool (letB s[k])) ∧ ∃ p : Regrown, w'' = grow (redrawn wr p.d) p.os := fun d os => same_grown (letter_any _ _)
      have cF : ∀ d os, Calls Try.prog 71 #[.string (s.extract 0 k), .int .u8 s[k].toNat] (grow (redrawn wr d) os) fun e w'' => e = .returned (.int .i64 z) ∧ ∃ p : Regrown, w'' = grow (redrawn wr p.d) p.os := fun d os => by
        rw [hz]; exact same_grown (find_any _ _ _ (by rw [ext_size0 hk]; omega))
      have t1 : ((k : Int)).toNat = k := by omega
      clear hz
      by_cases hl : letB s[k] = true
      · have HLL := Lib.hid hl
        rw [hl] at cL
        clear hl
        by_cases hin : s[k] ∈ s.data.toList.take k
        · have q1 : 0 ≤ z := hzm.2 hin
          have HN := Lib.hid (show onceB s = false from Bool.eq_false_iff.2 fun e => by
            have := (onceB_iff.1 e k hlt).2
            rw [HY.out, List.contains_eq_mem] at this
            exact absurd hin (by simpa using this))
          clear hzm hin
          go_wp2_with fail
          refine wp_region_quiet_below (by kernel_rfl) (by kernel_rfl) ?_
          repeat (any_goals (first | go_big_quiet_step (first | with_reducible exact cL _ _ | with_reducible exact cF _ _) | quiet_step (first | with_reducible exact cL _ _ | with_reducible exact cF _ _)))
          all_goals (refine wpQuiet_nil ?_; intro _ hw'; obtain ⟨⟨dq, osq⟩, hw''⟩ := hw'; subst hw'')
          have hb2 := below_regrown wr dq osq
          go_wp2_with fail
          go_ret
          exact ⟨ret_bool HN.out.symm, HB.out.trans (hb2.mono HB.out.size)⟩
        · have q1 : ¬ 0 ≤ z := fun h => hin (hzm.1 h)
          have HN := Lib.hid (show letB (byt s k) = true ∧ (s.data.toList.take k).contains (byt s k) = false by
            rw [HY.out, List.contains_eq_mem]; exact ⟨HLL.out, by simpa using hin⟩)
          clear hzm hin
          go_wp2_with fail
          refine wp_region_quiet_below (by kernel_rfl) (by kernel_rfl) ?_
          repeat (any_goals (first | go_big_quiet_step (first | with_reducible exact cL _ _ | with_reducible exact cF _ _) | quiet_step (first | with_reducible exact cL _ _ | with_reducible exact cF _ _)))
          all_goals (refine wpQuiet_nil ?_; intro _ hw'; obtain ⟨⟨dq, osq⟩, hw''⟩ := hw'; subst hw'')
          have hb2 := below_regrown wr dq osq
          go_wp2_with fail
          go_roundw
          case rel => exact ⟨k + 1, by omega, by go_num, fun i h => by
            rcases Nat.lt_succ_iff_lt_or_eq.1 h with h | rfl
            · exact HK.out i h
            · exact HN.out, HB.out.trans (hb2.mono HB.out.size)⟩
          case measure => simp [intOf]; omega
      · have hl' : letB s[k] = false := by simpa using hl
        rw [hl'] at cL
        have HN := Lib.hid (show onceB s = false from Bool.eq_false_iff.2 fun e => hl (by rw [← HY.out]; exact (onceB_iff.1 e k hlt).1))
        clear hl hl' hzm
        go_wp2_with fail
        refine wp_region_quiet_below (by kernel_rfl) (by kernel_rfl) ?_
        repeat (any_goals (first | go_big_quiet_step (first | with_reducible exact cL _ _ | with_reducible exact cF _ _) | quiet_step (first | with_reducible exact cL _ _ | with_reducible exact cF _ _)))
        all_goals (refine wpQuiet_nil ?_; intro _ hw'; obtain ⟨⟨dq, osq⟩, hw''⟩ := hw'; subst hw'')
        have hb2 := below_regrown wr dq osq
        go_wp2_with fail
        go_ret
        exact ⟨ret_bool HN.out.symm, HB.out.trans (hb2.mono HB.out.size)⟩
    · have HN := Lib.hid (show onceB s = true from onceB_iff.2 fun i h => HK.out i (by omega))
      go_wp2_with fail
      go_ret
      exact ⟨ret_bool HN.out.symm, HB.out⟩

/-- The graph of the doors. -/
def doorG (L : List Bl) : List Bl := L.map fun b => (b.1.extract 0 1, b.2)
theorem doorG_length (L : List Bl) : (doorG L).length = L.length := List.length_map _
theorem doorG_get {L : List Bl} {i : Nat} (h : i < L.length) : (doorG L)[i]'(by rw [doorG_length]; exact h) = (L[i].1.extract 0 1, L[i].2) := by unfold doorG; rw [List.getElem_map]
def doorI (L : List Bl) (s : ByteArray) : Int := match posOf (doorG L) s with | some i => (i : Int) | none => -1

set_option maxRecDepth 100000 in
theorem doorS_any (A : Option Addr) (cap : Nat) (L : List Bl) (d : ByteArray) (w : World) (hg : Gr w A L) (hn : L.length + tot L ≤ 1048576) (h1 : ∀ b ∈ L, 1 ≤ b.1.size) :
    Calls Try.prog 44 #[.slice A L.length cap, .string d] w fun e w' => e = .returned (.int .i64 (doorI L d)) ∧ Below w.heap.size w w' := by
  go_enter Try.func44, Try.ntmps44
  go_wp2_with fail
  go_loopw [9] (fun i wr => ∃ k : Nat, k ≤ L.length ∧ i = .int .i64 k ∧ Hid (∀ j (h : j < L.length), j < k → L[j].1.extract 0 1 ≠ d) ∧ Below w.heap.size w wr) (fun i _ => L.length - (intOf i).toNat)
  case atStart => exact ⟨0, Nat.zero_le _, rfl, fun j _ h => absurd h (by omega), Below.refl _ _⟩
  case round =>
    obtain ⟨k, hk, rfl, HK, hB⟩ := hrel
    by_cases hlt : k < L.length
    · obtain ⟨b, off, s, t, rfl, hb, hc0, hc1, he, he2⟩ := gr_at (hg.below hB) hlt
      have h1k : 1 ≤ s.size := he ▸ h1 _ (List.getElem_mem hlt)
      have HE := Lib.hid he
      have HB := Lib.hid hB
      clear he he2 hB
      by_cases hc : s.extract 0 1 = d
      · have q1 : ((s.extract 0 1).toList == d.toList) = true := by rw [hc]; simp
        have HN := Lib.hid (show doorI L d = (k : Int) by
          unfold doorI
          rw [posOf_some (k := k) (by rw [doorG_length]; exact hlt) (by rw [doorG_get hlt, HE.out]; exact hc) (fun j h' hj => by rw [doorG_get (by rw [doorG_length] at h'; exact h')]; exact HK.out j _ hj)])
        clear hc
        go_wp2_with fail
        go_ret
        exact ⟨ret_int HN.out.symm, HB.out.alloc HB.out.size _⟩
      · have q1 : ((s.extract 0 1).toList == d.toList) = false := by simpa using fun e => hc (beq_toList.1 (by simpa using e))
        have HC := Lib.hid hc
        clear hc
        go_wp2_with fail
        go_roundw
        case rel => exact ⟨k + 1, by omega, by go_num, fun j h hj => by
          rcases Nat.lt_succ_iff_lt_or_eq.1 hj with hj | rfl
          · exact HK.out j h hj
          · rw [HE.out]; exact HC.out, HB.out.alloc HB.out.size _⟩
        case measure => simp [intOf]; omega
    · have HN := Lib.hid (show doorI L d = -1 by
        unfold doorI
        rw [posOf_none fun j h' => by
          have h : j < L.length := by rw [doorG_length] at h'; exact h'
          rw [doorG_get h]; exact HK.out j h (by omega)])
      go_wp2_with fail
      go_ret
      exact ⟨ret_int HN.out.symm, hB⟩
end Go.Proofs.Ytibjldngdhcpaaa
