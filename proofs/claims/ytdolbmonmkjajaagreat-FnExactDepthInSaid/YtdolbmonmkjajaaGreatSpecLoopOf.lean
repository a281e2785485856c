/-
  Contracts of the model's LoopOf and DepthIn.
-/
import Derived.Test.YtdolbmonmkjajaaGreatSpecLoop
import Derived.Test.YtdolbmonmkjajaaGreatLoopVals
namespace Go.Proofs.YtdolbmonmkjajaaGreat
open Go.RowKit Go.Sort

set_option maxRecDepth 100000 in
set_option maxHeartbeats 2000000 in
theorem specLoopOf_any (A : Option Addr) (cap : Nat) (g : List Bl) (s : ByteArray) (w : World) (hg : Gr w A g) (hn : g.length + tot g ≤ 1048576) (hcap : g.length ≤ cap) :
    Calls Tryz.prog 14 #[.slice A g.length cap, .string s] w fun e w' => e = .returned (.tuple #[.string (loopV g s), .bool (loopB g s)]) ∧ Below w.heap.size w w' := by
  have cG : ∀ d os, Calls Tryz.prog 51 #[.slice A g.length cap] (grow (redrawn w d) os) fun e w'' => e = .returned (.bool (validB g)) ∧ ∃ p : Regrown, w'' = grow (redrawn w p.d) p.os := fun d os =>
    Calls.regrown_of (specValid_any A cap g _ (gr_grown hg d os) hn hcap)
  have cI : ∀ d os, Calls Tryz.prog 52 #[.slice A g.length cap, .string s] (grow (redrawn w d) os) fun e w'' => e = .returned (.int .i64 (idxInt (posOf g s))) ∧ ∃ p : Regrown, w'' = grow (redrawn w p.d) p.os := fun d os =>
    Calls.regrown_of (index_any A cap g s _ (gr_grown hg d os) (by omega))
  have HG := Lib.hid hg
  cases hv : validB g with
  | false =>
    rw [hv] at cG
    have HR := Lib.hid (headOf_no (s := s) hv)
    clear hv hg
    go_enter Tryz.func14, Tryz.ntmps14
    go_wp2_with fail
    refine wp_region_quiet_below (by kernel_rfl) (by kernel_rfl) ?_
    repeat (any_goals (first | go_big_quiet_step (with_reducible exact cG _ _) | quiet_step (with_reducible exact cG _ _)))
    all_goals (refine wpQuiet_nil ?_; intro _ hw'; obtain ⟨⟨dq, osq⟩, hw''⟩ := hw'; subst hw'')
    have hb3 := below_regrown w dq osq
    generalize grow (redrawn w dq) osq = w3 at hb3 ⊢
    clear cG cI
    go_wp2_with fail
    go_ret2
    exact ⟨ret_tsb (loopV_none HR.out).symm (loopB_none HR.out).symm, hb3⟩
  | true =>
    rw [hv] at cG
    cases hp : posOf g s with
    | none =>
      rw [hp] at cI
      have cI2 : ∀ d os, Calls Tryz.prog 52 #[.slice A g.length cap, .string s] (grow (redrawn w d) os) fun e w'' => e = .returned (.int .i64 (-1)) ∧ ∃ p : Regrown, w'' = grow (redrawn w p.d) p.os := cI
      have HR := Lib.hid (headOf_none hp)
      clear hv hg hp cI
      go_enter Tryz.func14, Tryz.ntmps14
      go_wp2_with fail
      refine wp_region_quiet_below (by kernel_rfl) (by kernel_rfl) ?_
      repeat (any_goals (first | go_big_quiet_step (first | with_reducible exact cG _ _ | with_reducible exact cI2 _ _) | quiet_step (first | with_reducible exact cG _ _ | with_reducible exact cI2 _ _)))
      all_goals (refine wpQuiet_nil ?_; intro _ hw'; obtain ⟨⟨dq, osq⟩, hw''⟩ := hw'; subst hw'')
      have hb3 := below_regrown w dq osq
      generalize grow (redrawn w dq) osq = w3 at hb3 ⊢
      clear cG cI2
      go_wp2_with fail
      go_ret2
      exact ⟨ret_tsb (loopV_none HR.out).symm (loopB_none HR.out).symm, hb3⟩
    | some i =>
      obtain ⟨hi, hnm⟩ := posOf_is hp
      obtain ⟨c, hc, _⟩ := valid_one hv (List.getElem_mem hi)
      have hsc : s = ⟨#[c]⟩ := by rw [← hnm, hc]
      have hs1 : s.size = 1 := by rw [hsc]; rfl
      have l0 : 0 < s.size := by omega
      rw [hp] at cI
      have cI2 : ∀ d os, Calls Tryz.prog 52 #[.slice A g.length cap, .string s] (grow (redrawn w d) os) fun e w'' => e = .returned (.int .i64 (i : Int)) ∧ ∃ p : Regrown, w'' = grow (redrawn w p.d) p.os := cI
      obtain ⟨rs, hrs⟩ : ∃ rs, rs = namesAt g (headL g) := ⟨_, rfl⟩
      have hrz : rs.size ≤ 26 := by rw [hrs, namesAt_size hv _ head_lt]; exact head_small hv
      have cR : ∀ d os, Calls Tryz.prog 54 #[.slice A g.length cap] (grow (redrawn w d) os) fun e w'' => e = .returned (.string rs) ∧ ∃ p : Regrown, w'' = grow (redrawn w p.d) p.os := fun d os => by
        have := l4Headers_any A cap g _ (gr_grown hg d os) hn hv
        rw [← hrs] at this
        exact Calls.regrown_of this
      obtain ⟨z, hz⟩ : ∃ z, z = Lib.indexByte rs.data.toList c := ⟨_, rfl⟩
      have cF : ∀ d os, Calls Tryz.prog 53 #[.string rs, .int .u8 (s[0]'l0).toNat] (grow (redrawn w d) os) fun e w'' => e = .returned (.int .i64 z) ∧ ∃ p : Regrown, w'' = grow (redrawn w p.d) p.os := fun d os => by
        have := same_grown (find_any rs c (grow (redrawn w d) os) (by omega))
        rw [← hz] at this
        rw [one_get' hsc l0]
        exact this
      have hzi : 0 ≤ z ↔ i ∈ headL g := by rw [hz, hrs]; exact idx_namesAt hv head_lt hi hc
      have qi : decide ((i : Int) < 0) = false := decide_eq_false (by omega)
      by_cases hr : i ∈ headL g
      · have q0 : decide (z < 0) = false := by have := hzi.2 hr; simp; omega
        have HR := Lib.hid (headOf_some hv hp hr)
        have HL := Lib.hid (fun w' (h : Gr w' A g) => l4Loop_any A cap g s i w' h hn hv (head_live hv hr) (by rw [nthName_at hi, hnm]))
        clear hv hg hp cI hnm hc hsc hrs hz hzi hr
        go_enter Tryz.func14, Tryz.ntmps14
        go_wp2_with fail
        refine wp_region_quiet_below (by kernel_rfl) (by kernel_rfl) ?_
        repeat (any_goals (first | go_big_quiet_step (first | with_reducible exact cG _ _ | with_reducible exact cI2 _ _ | with_reducible exact cR _ _ | with_reducible exact cF _ _) | quiet_step (first | with_reducible exact cG _ _ | with_reducible exact cI2 _ _ | with_reducible exact cR _ _ | with_reducible exact cF _ _)))
        all_goals (refine wpQuiet_nil ?_; intro _ hw'; obtain ⟨⟨dq, osq⟩, hw''⟩ := hw'; subst hw'')
        have hb3 := below_regrown w dq osq
        generalize grow (redrawn w dq) osq = w3 at hb3 ⊢
        clear cG cI2 cR cF
        go_wp2_with fail
        refine (HL.out w3 (HG.out.below hb3)).mono ?_
        rintro e w4 ⟨rfl, b4⟩
        go_wp2_with fail
        go_ret2
        exact ⟨ret_tsb (loopV_some HR.out).symm (loopB_some HR.out).symm, below_trans_self hb3 b4⟩
      · have q0 : decide (z < 0) = true := by
          have h : ¬ 0 ≤ z := fun h => hr (hzi.1 h)
          simp; omega
        have HR := Lib.hid (headOf_out hp hr)
        clear hv hg hp cI hnm hc hsc hrs hz hzi hr
        go_enter Tryz.func14, Tryz.ntmps14
        go_wp2_with fail
        refine wp_region_quiet_below (by kernel_rfl) (by kernel_rfl) ?_
        repeat (any_goals (first | go_big_quiet_step (first | with_reducible exact cG _ _ | with_reducible exact cI2 _ _ | with_reducible exact cR _ _ | with_reducible exact cF _ _) | quiet_step (first | with_reducible exact cG _ _ | with_reducible exact cI2 _ _ | with_reducible exact cR _ _ | with_reducible exact cF _ _)))
        all_goals (refine wpQuiet_nil ?_; intro _ hw'; obtain ⟨⟨dq, osq⟩, hw''⟩ := hw'; subst hw'')
        have hb3 := below_regrown w dq osq
        generalize grow (redrawn w dq) osq = w3 at hb3 ⊢
        clear cG cI2 cR cF
        go_wp2_with fail
        go_ret2
        exact ⟨ret_tsb (loopV_none HR.out).symm (loopB_none HR.out).symm, hb3⟩

set_option maxRecDepth 100000 in
set_option maxHeartbeats 2000000 in
theorem specDepth_any (A : Option Addr) (cap : Nat) (g : List Bl) (s : ByteArray) (w : World) (hg : Gr w A g) (hn : g.length + tot g ≤ 1048576) (hcap : g.length ≤ cap) :
    Calls Tryz.prog 18 #[.slice A g.length cap, .string s] w fun e w' => e = .returned (.int .i64 (depthV g s)) ∧ Below w.heap.size w w' := by
  have HC := Lib.hid (l3Live_any A cap g s w hg hn hcap)
  cases hl : liveOf g s with
  | none =>
    rw [hl] at HC
    have HC2 : Hid (Calls Tryz.prog 63 #[.slice A g.length cap, .string s] w fun e w' => e = .returned (.int .i64 (-1)) ∧ Below w.heap.size w w') := HC
    have HR := Lib.hid (depthV_none hl)
    clear hg hl HC
    go_enter Tryz.func18, Tryz.ntmps18
    go_wp2_with fail
    refine HC2.out.mono ?_
    rintro e w1 ⟨rfl, b1⟩
    have HB1 := Lib.hid b1
    clear b1
    go_wp2_with fail
    go_ret
    exact ⟨ret_int HR.out.symm, HB1.out⟩
  | some n =>
    rw [hl] at HC
    have HC2 : Hid (Calls Tryz.prog 63 #[.slice A g.length cap, .string s] w fun e w' => e = .returned (.int .i64 (n : Int)) ∧ Below w.heap.size w w') := HC
    have HR := Lib.hid (depthV_some hl)
    obtain ⟨hv, hp, _⟩ := liveOf_is hl
    obtain ⟨hi, hnm⟩ := posOf_is hp
    obtain ⟨c, hc, _⟩ := valid_one hv (List.getElem_mem hi)
    have hsc : s = ⟨#[c]⟩ := by rw [← hnm, hc]
    have hs1 : s.size = 1 := by rw [hsc]; rfl
    have l0 : 0 < s.size := by omega
    have l0' : (0 : Int) < s.size := by omega
    have l00 := one_get' hsc l0
    have q9 : decide ((n : Int) < 0) = false := decide_eq_false (by omega)
    have HH := Lib.hid (fun w' (h : Gr w' A g) => l4Headers_any A cap g w' h hn hv)
    obtain ⟨o, ho⟩ : ∃ o, o = namesAt g (headL g) := ⟨_, rfl⟩
    rw [← ho] at HH
    have hoz : o.size = (headL g).length := by rw [ho, namesAt_size hv _ head_lt]
    have hos : o.size ≤ 26 := by rw [hoz]; exact head_small hv
    have HOO := Lib.hid ho
    have HOZ := Lib.hid hoz
    have HG := Lib.hid hg
    have HV := Lib.hid hv
    have HCC := Lib.hid hc
    have L00 := Lib.hid l00
    clear hg hl HC hv hp hnm hc hsc ho hoz l00
    go_enter Tryz.func18, Tryz.ntmps18
    go_wp2_with fail
    refine HC2.out.mono ?_
    rintro e w1 ⟨rfl, b1⟩
    have HB1 := Lib.hid b1
    have HH1 := Lib.hid (HH.out w1 (HG.out.below b1))
    clear b1
    go_wp2_with fail
    refine HH1.out.mono ?_
    rintro e w2 ⟨rfl, b2⟩
    have HB2 := Lib.hid (below_trans_self HB1.out b2)
    clear b2
    go_wp2_with fail
    go_loopw [5, 16] (fun dv iv wr => ∃ (k d : Nat), k ≤ o.size ∧ iv = .int .i64 k ∧ dv = .int .i64 d ∧ d ≤ k ∧ Hid (d = ((headL g).take k).countP fun h => decide (n ∈ loopL g h)) ∧ Hid (Below w.heap.size w wr)) (fun _ iv _ => o.size - (intOf iv).toNat)
    case atStart => exact ⟨0, 0, Nat.zero_le _, rfl, rfl, Nat.le_refl _, (show 0 = ((headL g).take 0).countP fun h => decide (n ∈ loopL g h) by simp), HB2.out⟩
    case round =>
      obtain ⟨k, d, hk, rfl, rfl, hdk, HD, HB⟩ := hrel
      by_cases hlt : k < o.size
      · have hlt' : k < (headL g).length := by rw [← HOZ.out]; exact hlt
        obtain ⟨h, hh⟩ : ∃ h, h = (headL g)[k] := ⟨_, rfl⟩
        have hhm : h ∈ headL g := hh ▸ List.getElem_mem hlt'
        have hhl : h < g.length := head_lt h hhm
        obtain ⟨_, hcut⟩ := namesAt_cut HV.out head_lt hlt'
        have hex : o.extract k (k + 1) = nthName g h := by rw [HOO.out, hcut, nthName_at hhl]; congr 2; exact hh.symm
        have hk1 : k + 1 ≤ o.size := by omega
        have hga := HG.out.below HB.out
        obtain ⟨lp, hlp⟩ : ∃ lp, lp = namesAt g (loopL g h) := ⟨_, rfl⟩
        have hlz : lp.size ≤ 26 := by rw [hlp, namesAt_size HV.out _ (loopL_lt h)]; exact loop_small HV.out h
        have cL : ∀ d os, Calls Tryz.prog 55 #[.slice A g.length cap, .string (o.extract k (k + 1))] (grow (redrawn wr d) os) fun e w'' => e = .returned (.string lp) ∧ ∃ p : Regrown, w'' = grow (redrawn wr p.d) p.os := fun d os => by
          have := l4Loop_any A cap g (o.extract k (k + 1)) h (grow (redrawn wr d) os) (gr_grown hga d os) hn HV.out (head_live HV.out hhm) hex
          rw [← hlp] at this
          exact Calls.regrown_of this
        obtain ⟨z, hz⟩ : ∃ z, z = Lib.indexByte lp.data.toList c := ⟨_, rfl⟩
        have cF : ∀ d os, Calls Tryz.prog 53 #[.string lp, .int .u8 (s[0]'l0).toNat] (grow (redrawn wr d) os) fun e w'' => e = .returned (.int .i64 z) ∧ ∃ p : Regrown, w'' = grow (redrawn wr p.d) p.os := fun d os => by
          have := same_grown (find_any lp c (grow (redrawn wr d) os) (by omega))
          rw [← hz] at this
          rw [L00.out]
          exact this
        have hzi : 0 ≤ z ↔ n ∈ loopL g h := by rw [hz, hlp]; exact idx_namesAt HV.out (loopL_lt h) hi HCC.out
        have HFT := Lib.hid (countP_take (p := fun h => decide (n ∈ loopL g h)) hlt')
        rw [← hh] at HFT
        clear hh hcut hex hlp hz hga
        by_cases hin : n ∈ loopL g h
        · have q1 : decide (0 ≤ z) = true := by simpa using hzi.2 hin
          have HD2 := Lib.hid (show d + 1 = ((headL g).take (k + 1)).countP fun h => decide (n ∈ loopL g h) by rw [HFT.out, if_pos (by simpa using hin), ← HD.out])
          clear hzi hin
          go_wp2_with fail
          refine wp_region_quiet_below (by kernel_rfl) (by kernel_rfl) ?_
          repeat (any_goals (first | go_big_quiet_step (first | with_reducible exact cL _ _ | with_reducible exact cF _ _) | quiet_step (first | with_reducible exact cL _ _ | with_reducible exact cF _ _)))
          all_goals (refine wpQuiet_nil ?_; intro _ hw'; obtain ⟨⟨dq, osq⟩, hw''⟩ := hw'; subst hw'')
          have hb2 := below_regrown wr dq osq
          generalize grow (redrawn wr dq) osq = w2 at hb2 ⊢
          have HB2 := Lib.hid (below_trans_self HB.out hb2)
          clear cL cF hb2
          go_wp2_with fail
          go_roundw
          case rel => exact ⟨k + 1, d + 1, by omega, by go_num, by go_num, by omega, HD2.out, HB2.out⟩
          case measure => simp [intOf]; omega
        · have q1 : decide (0 ≤ z) = false := by
            have : ¬ 0 ≤ z := fun h => hin (hzi.1 h)
            simpa using this
          have HD2 := Lib.hid (show d = ((headL g).take (k + 1)).countP fun h => decide (n ∈ loopL g h) by rw [HFT.out, if_neg (by simpa using hin), ← HD.out]; rfl)
          clear hzi hin
          go_wp2_with fail
          refine wp_region_quiet_below (by kernel_rfl) (by kernel_rfl) ?_
          repeat (any_goals (first | go_big_quiet_step (first | with_reducible exact cL _ _ | with_reducible exact cF _ _) | quiet_step (first | with_reducible exact cL _ _ | with_reducible exact cF _ _)))
          all_goals (refine wpQuiet_nil ?_; intro _ hw'; obtain ⟨⟨dq, osq⟩, hw''⟩ := hw'; subst hw'')
          have hb2 := below_regrown wr dq osq
          generalize grow (redrawn wr dq) osq = w2 at hb2 ⊢
          have HB2 := Lib.hid (below_trans_self HB.out hb2)
          clear cL cF hb2
          go_wp2_with fail
          go_roundw
          case rel => exact ⟨k + 1, d, by omega, by go_num, rfl, by omega, HD2.out, HB2.out⟩
          case measure => simp [intOf]; omega
      · have HE := Lib.hid (show (d : Int) = depthV g s by
          rw [HR.out, HD.out, List.take_of_length_le (by rw [← HOZ.out]; omega)]; rfl)
        go_wp2_with fail
        go_ret
        exact ⟨ret_int HE.out, HB.out⟩
end Go.Proofs.YtdolbmonmkjajaaGreat
