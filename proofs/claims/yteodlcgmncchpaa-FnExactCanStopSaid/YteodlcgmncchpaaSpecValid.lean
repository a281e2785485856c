/-
  Contract of spec's GraphValid.
-/
import Derived.Test.YteodlcgmncchpaaSl
import Derived.Test.YteodlcgmncchpaaValid
namespace Go.Proofs.Yteodlcgmncchpaa
open Go.RowKit Go.Sort

/-- A contract that leaves the world alone, in the class of worlds that have grown. -/
theorem same_grown {f : FuncId} {args : Array Value} {w : World} {d : Nat} {os : Array Obj} {v : Value}
    (h : Calls Try.prog f args (grow (redrawn w d) os) fun e w' => e = .returned v ∧ grow (redrawn w d) os = w') : Calls Try.prog f args (grow (redrawn w d) os) fun e w'' => e = .returned v ∧ ∃ p : Regrown, w'' = grow (redrawn w p.d) p.os :=
  Calls.regrown_of (h.mono fun _ _ ⟨he, hw⟩ => ⟨he, hw ▸ Below.refl _ _⟩)

theorem gr_grown {w : World} {A : Option Addr} {g : List Bl} (h : Gr w A g) (d : Nat) (os : Array Obj) : Gr (grow (redrawn w d) os) A g :=
  h.below (below_regrown w d os)

/-- What the model's round asks of a block. -/
def roundB (pre nm : ByteArray) (s t : ByteArray) : Bool := newB pre s && nextB t nm

theorem valid_rounds {g : List Bl} : (newsB g = true ∧ nextsB g = true) ↔ ∀ k (h : k < g.length), roundB (names (g.take k)) (names g) g[k].1 g[k].2 = true := by
  rw [newsB_iff, nextsB_iff]
  unfold roundB
  simp only [Bool.and_eq_true]
  exact ⟨fun h k hk => ⟨h.1 k hk, h.2 k hk⟩, fun h => ⟨fun k hk => (h k hk).1, fun k hk => (h k hk).2⟩⟩

theorem valid_no_round {g : List Bl} {k : Nat} (hk : k < g.length) (h : roundB (names (g.take k)) (names g) g[k].1 g[k].2 = false) : validB g = false :=
  valid_no fun e => by have := valid_rounds.1 ⟨e.2.2.1, e.2.2.2⟩ k hk; rw [h] at this; cases this

theorem name_size {s : ByteArray} (h : ¬ s.size = 1) : nameB s = false := by unfold nameB; simp [h]

theorem len_take' (g : List Bl) (k : Nat) (h : k ≤ g.length) : (g.take k).length = k := by simp; omega

set_option maxHeartbeats 1600000 in
theorem specValid_any (A : Option Addr) (cap : Nat) (g : List Bl) (w : World) (hg : Gr w A g) (hn : g.length + tot g ≤ 1048576) (hcap : g.length ≤ cap) :
    Calls Try.prog 45 #[.slice A g.length cap] w fun e w' => e = .returned (.bool (validB g)) ∧ Below w.heap.size w w' := by
  go_enter Try.func45, Try.ntmps45
  go_wp2_with (go_at_call 66; refine (names_any A cap g _ hg (by omega) (by omega)).mono ?_; rintro e w0 ⟨rfl, hB0⟩)
  have hs := names_size_le g
  obtain ⟨m, hm⟩ : ∃ m, m = names g := ⟨_, rfl⟩
  have HM := Lib.hid hm
  rw [← hm] at hs ⊢
  clear hm
  go_loopw [11] (fun i wr => ∃ k : Nat, k ≤ g.length ∧ i = .int .i64 k ∧ Hid (∀ j (h : j < g.length), j < k → roundB (names (g.take j)) m g[j].1 g[j].2 = true) ∧ Below w.heap.size w wr) (fun i _ => g.length - (intOf i).toNat)
  case atStart => exact ⟨0, Nat.zero_le _, rfl, fun j _ h => absurd h (by omega), hB0⟩
  case round =>
    obtain ⟨k, hk, rfl, HK, hB⟩ := hrel
    by_cases hlt : k < g.length
    · have hgr := hg.below hB
      obtain ⟨b, off, s, t, rfl, hb, hc0, hc1, he, he2⟩ := gr_at hgr hlt
      have hs3 := tot_get g k hlt
      rw [he, he2] at hs3
      have HE := Lib.hid he
      have HE2 := Lib.hid he2
      clear he he2
      have HGR := Lib.hid hgr
      clear hgr
      by_cases h1 : s.size = 1
      · have g1 : ((s.size : Int) != 1) = false := by rw [h1]; rfl
        have l0 : 0 < s.size := by omega
        obtain ⟨c, hc⟩ : ∃ c, c = s[0]'l0 := ⟨_, rfl⟩
        have HS : Hid (s = ⟨#[c]⟩) := ba_ext (by
          have hl : s.data.toList.length = 1 := by simpa using h1
          obtain ⟨c', hc'⟩ := List.length_eq_one_iff.1 hl
          have := byte_at s 0 l0
          rw [hc'] at this
          rw [hc', hc]
          simpa using this)
        clear h1
        obtain ⟨p, hp⟩ : ∃ p, p = names (g.take k) := ⟨_, rfl⟩
        have HP := Lib.hid hp
        obtain ⟨q, hq⟩ : ∃ q, q = Lib.indexByte p.data.toList c := ⟨_, rfl⟩
        have HQ := Lib.hid hq
        have hps : p.size ≤ tot g := by rw [hp]; exact Nat.le_trans (names_size_le _) (tot_take_le g k)
        have HC := Lib.hid hc
        clear hp
        go_wp2_with fail
        have hBa := hB.alloc hB.size (.cells #[.string s, .string t] 49)
        have ca := Blk.new wr 49 #[.string s, .string t]
        have hga := (HGR.out).below ((Below.refl _ _).alloc (Nat.le_refl _) (.cells #[.string s, .string t] 49))
        obtain ⟨wa, hwa⟩ : ∃ wa, wa = wr.alloc (.cells #[.string s, .string t] 49) := ⟨_, rfl⟩
        rw [← hwa] at hBa ca hga ⊢
        have k0 := cell_regrown (ca.cell 0)
        have k1 := cell_regrown (ca.cell 1)
        have cL : ∀ d os, Calls Try.prog 78 #[.int .u8 (s[0]'l0).toNat] (grow (redrawn wa d) os) fun e w'' => e = .returned (.bool (letB c)) ∧ ∃ p : Regrown, w'' = grow (redrawn wa p.d) p.os := fun d os => by
          rw [hc]; exact same_grown (letter_any _ _)
        have cN : ∀ d os, Calls Try.prog 66 #[.slice (some ⟨b, off, none⟩) k cap] (grow (redrawn wa d) os) fun e w'' => e = .returned (.string p) ∧ ∃ p : Regrown, w'' = grow (redrawn wa p.d) p.os := fun d os => by
          have := names_any (some ⟨b, off, none⟩) cap (g.take k) (grow (redrawn wa d) os) ((gr_grown hga d os).take k) (by rw [len_take' g k hk]; omega) (Nat.le_trans (tot_take_le g k) (by omega))
          rw [len_take' g k hk, ← HP.out] at this
          exact Calls.regrown_of this
        have cF : ∀ d os, Calls Try.prog 64 #[.string p, .int .u8 (s[0]'l0).toNat] (grow (redrawn wa d) os) fun e w'' => e = .returned (.int .i64 q) ∧ ∃ p : Regrown, w'' = grow (redrawn wa p.d) p.os := fun d os => by
          have := same_grown (find_any p c (grow (redrawn wa d) os) (by omega))
          rw [← hq, hc] at this
          exact this
        clear hq hc hwa
        have hk63 : (k : Int) ≤ cap := by omega
        by_cases hlet : letB c = true
        · rw [hlet] at cL
          have HL := Lib.hid hlet
          clear hlet
          by_cases hin : 0 ≤ q
          · have hin' : decide (0 ≤ q) = true := by simpa using hin
            have HN := Lib.hid (show validB g = false from valid_no_round hlt (by
              rw [HE.out, HS.out, ← HP.out]; unfold roundB; rw [newB_one HL.out, ← contains_idx, ← HQ.out, hin']; rfl))
            clear hin
            refine wp_region_quiet_below (by kernel_rfl) (by kernel_rfl) ?_
            repeat (any_goals (first | go_big_quiet_step (first | with_reducible exact cL _ _ | with_reducible exact cN _ _ | with_reducible exact cF _ _) | quiet_step (first | with_reducible exact cL _ _ | with_reducible exact cN _ _ | with_reducible exact cF _ _)))
            all_goals (refine wpQuiet_nil ?_; intro _ hw'; obtain ⟨⟨dq, osq⟩, hw''⟩ := hw'; subst hw'')
            have hb2 := below_regrown wa dq osq
            generalize grow (redrawn wa dq) osq = w2 at hb2 ⊢
            clear cL cN cF k0 k1
            go_wp2_with fail
            go_ret
            exact ⟨ret_bool HN.out.symm, below_trans_self hBa hb2⟩
          · have hin' : decide (0 ≤ q) = false := by simpa using hin
            have HNB := Lib.hid (show newB p s = true by rw [HS.out, newB_one HL.out, ← contains_idx, ← HQ.out, hin']; rfl)
            clear hin
            by_cases ht2 : t.size ≤ 2
            · have g3 : decide (2 < (t.size : Int)) = false := by simp; omega
              refine wp_region_quiet_below (by kernel_rfl) (by kernel_rfl) ?_
              repeat (any_goals (first | go_big_quiet_step (first | with_reducible exact cL _ _ | with_reducible exact cN _ _ | with_reducible exact cF _ _) | quiet_step (first | with_reducible exact cL _ _ | with_reducible exact cN _ _ | with_reducible exact cF _ _)))
              all_goals (refine wpQuiet_nil ?_; intro _ hw'; obtain ⟨⟨dq, osq⟩, hw''⟩ := hw'; subst hw'')
              have hb2 := below_regrown wa dq osq
              have c2 := ca.below hb2 ca.lt
              generalize grow (redrawn wa dq) osq = w2 at hb2 c2 ⊢
              have hB2 := below_trans_self hBa hb2
              have hlt2 := c2.lt
              have hwlt : w.heap.size ≤ wr.heap.size := hB.size
              have x1 := c2.cell 1
              have HC2 := Lib.hid c2
              clear cL cN cF k0 k1 ca c2 hb2 hBa hga
              go_wp2_with fail
              obtain ⟨B, hBB⟩ : ∃ B, B = wr.heap.size := ⟨_, rfl⟩
              have HC3 : Hid (Blk w2 B 49 #[.string s, .string t]) := hBB ▸ HC2.out
              rw [← hBB] at hlt2 hwlt ⊢
              clear hBB x1 HC2 hB HGR hc0 hc1 hb
              obtain ⟨wo, hwo⟩ : ∃ wo : World, wo = wr := ⟨_, rfl⟩
              clear hwo
              go_loopw [47] (fun i wr => ∃ j : Nat, j ≤ t.size ∧ i = .int .i64 j ∧ Hid (∀ l (h : l < t.size), l < j → placeB t m l h = true) ∧ Blk wr B 49 #[.string s, .string t] ∧ Below w.heap.size w wr) (fun i _ => t.size - (intOf i).toNat)
              case atStart => exact ⟨0, Nat.zero_le _, rfl, fun j _ h => absurd h (by omega), HC3.out, hB2⟩
              case round =>
                obtain ⟨j, hj, rfl, HJ, hblk, hBi⟩ := hrel
                by_cases hjt : j < t.size
                · have x1 := hblk.cell 1
                  have HBK := Lib.hid hblk
                  obtain ⟨d, hd⟩ : ∃ d, d = t[j]'hjt := ⟨_, rfl⟩
                  obtain ⟨q1, hq1⟩ : ∃ q1, q1 = Lib.indexByte m.data.toList d := ⟨_, rfl⟩
                  obtain ⟨q2, hq2⟩ : ∃ q2, q2 = Lib.indexByte (t.extract 0 j).data.toList d := ⟨_, rfl⟩
                  have HPL := Lib.hid (show placeB t m j hjt = (decide (0 ≤ q1) && decide (q2 < 0)) by unfold placeB; rw [hq1, hq2, hd])
                  have cA : ∀ dd os, Calls Try.prog 64 #[.string m, .int .u8 (t[j]'hjt).toNat] (grow (redrawn wr dd) os) fun e w'' => e = .returned (.int .i64 q1) ∧ ∃ p : Regrown, w'' = grow (redrawn wr p.d) p.os := fun dd os => by
                    have := same_grown (find_any m d (grow (redrawn wr dd) os) (by omega))
                    rwa [← hq1, hd] at this
                  have cB : ∀ dd os, Calls Try.prog 64 #[.string (t.extract 0 j), .int .u8 (t[j]'hjt).toNat] (grow (redrawn wr dd) os) fun e w'' => e = .returned (.int .i64 q2) ∧ ∃ p : Regrown, w'' = grow (redrawn wr p.d) p.os := fun dd os => by
                    have := same_grown (find_any (t.extract 0 j) d (grow (redrawn wr dd) os) (by rw [ByteArray.size_extract]; omega))
                    rwa [← hq2, hd] at this
                  clear hd hq1 hq2 hblk
                  have k1 := cell_regrown x1
                  have hjt2 : (j : Int) < t.size := by omega
                  go_wp2_with fail
                  by_cases hA : q1 < 0
                  · have hA' : decide (q1 < 0) = true := by simpa using hA
                    have HN := Lib.hid (show validB g = false from valid_no_round hlt (by
                      rw [HE.out, HE2.out, ← HM.out]; unfold roundB; rw [nextB_no_place ht2 hjt (by rw [HPL.out]; simp; omega)]; simp))
                    clear hA
                    refine wp_region_quiet_below (by kernel_rfl) (by kernel_rfl) ?_
                    repeat (any_goals (first | go_big_quiet_step (first | with_reducible exact cA _ _ | with_reducible exact cB _ _) | quiet_step (first | with_reducible exact cA _ _ | with_reducible exact cB _ _)))
                    all_goals (refine wpQuiet_nil ?_; intro _ hw'; obtain ⟨⟨dq, osq⟩, hw''⟩ := hw'; subst hw'')
                    have hb3 := below_regrown wr dq osq
                    generalize grow (redrawn wr dq) osq = w3 at hb3 ⊢
                    clear cA cB k1 x1
                    go_wp2_with fail
                    go_ret
                    exact ⟨ret_bool HN.out.symm, below_trans_self hBi hb3⟩
                  · have hA' : decide (q1 < 0) = false := by simpa using hA
                    by_cases hBq : 0 ≤ q2
                    · have hB' : decide (0 ≤ q2) = true := by simpa using hBq
                      have HN := Lib.hid (show validB g = false from valid_no_round hlt (by
                        rw [HE.out, HE2.out, ← HM.out]; unfold roundB; rw [nextB_no_place ht2 hjt (by rw [HPL.out]; simp; omega)]; simp))
                      clear hA hBq
                      refine wp_region_quiet_below (by kernel_rfl) (by kernel_rfl) ?_
                      repeat (any_goals (first | go_big_quiet_step (first | with_reducible exact cA _ _ | with_reducible exact cB _ _) | quiet_step (first | with_reducible exact cA _ _ | with_reducible exact cB _ _)))
                      all_goals (refine wpQuiet_nil ?_; intro _ hw'; obtain ⟨⟨dq, osq⟩, hw''⟩ := hw'; subst hw'')
                      have hb3 := below_regrown wr dq osq
                      generalize grow (redrawn wr dq) osq = w3 at hb3 ⊢
                      clear cA cB k1 x1
                      go_wp2_with fail
                      go_ret
                      exact ⟨ret_bool HN.out.symm, below_trans_self hBi hb3⟩
                    · have hB' : decide (0 ≤ q2) = false := by simpa using hBq
                      have HPT := Lib.hid (show placeB t m j hjt = true by rw [HPL.out]; simp; omega)
                      clear hA hBq
                      refine wp_region_quiet_below (by kernel_rfl) (by kernel_rfl) ?_
                      repeat (any_goals (first | go_big_quiet_step (first | with_reducible exact cA _ _ | with_reducible exact cB _ _) | quiet_step (first | with_reducible exact cA _ _ | with_reducible exact cB _ _)))
                      all_goals (refine wpQuiet_nil ?_; intro _ hw'; obtain ⟨⟨dq, osq⟩, hw''⟩ := hw'; subst hw'')
                      have hb3 := below_regrown wr dq osq
                      generalize grow (redrawn wr dq) osq = w3 at hb3 ⊢
                      clear cA cB k1 x1
                      go_wp2_with fail
                      go_roundw
                      case rel =>
                        refine ⟨j + 1, by omega, by go_num, fun l h hl => ?_, HBK.out.below hb3 HBK.out.lt, below_trans_self hBi hb3⟩
                        rcases Nat.lt_succ_iff_lt_or_eq.1 hl with hl | rfl
                        · exact HJ.out l h hl
                        · exact HPT.out
                      case measure => simp [intOf]; omega
                · have HNX := Lib.hid (show nextB t m = true from (nextB_places ht2).2 fun l h => HJ.out l h (by omega))
                  clear hblk
                  go_wp2_with fail
                  go_roundw
                  case rel =>
                    refine ⟨k + 1, by omega, by go_num, fun l h hl => ?_, hBi⟩
                    rcases Nat.lt_succ_iff_lt_or_eq.1 hl with hl | rfl
                    · exact HK.out l h hl
                    · rw [HE.out, HE2.out, ← HP.out]; unfold roundB; rw [HNB.out, HNX.out]; rfl
                  case measure => simp [intOf]; omega
            · have g3 : decide (2 < (t.size : Int)) = true := by simp; omega
              have HN := Lib.hid (show validB g = false from valid_no_round hlt (by
                rw [HE.out, HE2.out]; unfold roundB; rw [nextB_long ht2]; simp))
              refine wp_region_quiet_below (by kernel_rfl) (by kernel_rfl) ?_
              repeat (any_goals (first | go_big_quiet_step (first | with_reducible exact cL _ _ | with_reducible exact cN _ _ | with_reducible exact cF _ _) | quiet_step (first | with_reducible exact cL _ _ | with_reducible exact cN _ _ | with_reducible exact cF _ _)))
              all_goals (refine wpQuiet_nil ?_; intro _ hw'; obtain ⟨⟨dq, osq⟩, hw''⟩ := hw'; subst hw'')
              have hb2 := below_regrown wa dq osq
              generalize grow (redrawn wa dq) osq = w2 at hb2 ⊢
              clear cL cN cF k0 k1
              go_wp2_with fail
              go_ret
              exact ⟨ret_bool HN.out.symm, below_trans_self hBa hb2⟩
        · have hlet' : letB c = false := by simpa using hlet
          rw [hlet'] at cL
          have HN := Lib.hid (show validB g = false from valid_no_round hlt (by
              rw [HE.out, HS.out]; unfold roundB newB nameB
              have e2 : (⟨#[c]⟩ : ByteArray).data.toList.getD 0 0 = c := rfl
              rw [e2, hlet']; simp))
          clear hlet hlet'
          refine wp_region_quiet_below (by kernel_rfl) (by kernel_rfl) ?_
          repeat (any_goals (first | go_big_quiet_step (exact cL _ _) | quiet_step (exact cL _ _)))
          all_goals (refine wpQuiet_nil ?_; intro _ hw'; obtain ⟨⟨dq, osq⟩, hw''⟩ := hw'; subst hw'')
          have hb2 := below_regrown wa dq osq
          generalize grow (redrawn wa dq) osq = w2 at hb2 ⊢
          clear cL cN cF k0 k1
          go_wp2_with fail
          go_ret
          exact ⟨ret_bool HN.out.symm, below_trans_self hBa hb2⟩
      · have g1 : ((s.size : Int) != 1) = true := by simp; omega
        have HN := Lib.hid (show validB g = false from valid_no_round hlt (by
          rw [HE.out]; unfold roundB newB; rw [name_size h1]; rfl))
        clear h1
        go_wp2_with fail
        have hBa := hB.alloc hB.size (.cells #[.string s, .string t] 49)
        have ca := Blk.new wr 49 #[.string s, .string t]
        obtain ⟨wa, hwa⟩ : ∃ wa, wa = wr.alloc (.cells #[.string s, .string t] 49) := ⟨_, rfl⟩
        rw [← hwa] at hBa ca ⊢
        have k0 := cell_regrown (ca.cell 0)
        clear hwa
        refine wp_region_quiet_below (by kernel_rfl) (by kernel_rfl) ?_
        repeat (any_goals (first | go_big_quiet_step (fail) | quiet_step (fail)))
        all_goals (refine wpQuiet_nil ?_; intro _ hw'; obtain ⟨⟨dq, osq⟩, hw''⟩ := hw'; subst hw'')
        have hb2 := below_regrown wa dq osq
        generalize grow (redrawn wa dq) osq = w2 at hb2 ⊢
        clear k0
        go_wp2_with fail
        go_ret
        exact ⟨ret_bool HN.out.symm, below_trans_self hBa hb2⟩
    · have HV := Lib.hid (show inB g.length 1 26 = validB g by
        have hr := valid_rounds.2 (fun j h => by have := HK.out j h (by omega); rwa [HM.out] at this)
        rw [Bool.eq_iff_iff, valid_iff]
        unfold inB
        simp only [Bool.and_eq_true, decide_eq_true_iff]
        constructor
        · intro ⟨h1, h2⟩; exact ⟨by omega, by omega, hr.1, hr.2⟩
        · intro ⟨h1, h2, _⟩; exact ⟨by omega, by omega⟩)
      go_wp2_with (go_at_call 79; refine (in_any _ _ _ _).mono ?_; rintro e w' ⟨rfl, rfl⟩)
      go_ret
      exact ⟨ret_bool HV.out, hB⟩
end Go.Proofs.Yteodlcgmncchpaa
