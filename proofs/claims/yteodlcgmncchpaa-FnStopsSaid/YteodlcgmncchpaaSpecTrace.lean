/-
  Contract of the model's IsTrace.
-/
import Derived.Test.YteodlcgmncchpaaTrace
namespace Go.Proofs.Yteodlcgmncchpaa
open Go.RowKit Go.Sort

theorem find_next {g : List Bl} (hv : validB g = true) {i : Nat} (hi : i < g.length) (c : UInt8) : 0 ≤ Lib.indexByte g[i].2.data.toList c ↔ ∃ x, named g (nxt g i) ⟨#[c]⟩ = some x := by
  rw [idx_mem]
  constructor
  · intro h
    obtain ⟨k, hk, e⟩ := List.getElem_of_mem h
    have hk' : k < g[i].2.size := by simpa using hk
    obtain ⟨t, ht, hget, _, hn⟩ := nxt_get hv hi hk'
    have hb : g[i].2[k]'hk' = c := by
      have h1 := byte_at g[i].2 k hk'
      rw [List.getElem?_eq_getElem hk, e] at h1
      exact (Option.some.inj h1).symm
    rw [hb] at hn
    cases hf : named g (nxt g i) ⟨#[c]⟩ with
    | some x => exact ⟨x, rfl⟩
    | none =>
      unfold named at hf
      have := List.find?_eq_none.1 hf t (List.mem_of_getElem? hget)
      rw [nthName_at ht, hn] at this
      simp at this
  · rintro ⟨x, hx⟩
    obtain ⟨hm, hn⟩ := named_is hx
    have hxl := nxt_lt hv hi hm
    rw [nthName_at hxl] at hn
    exact (nxt_mem hv hi hxl hn).1 hm

/-- What the model knows when it comes to the k-th name: the block before. -/
def AtName (g : List Bl) (t : ByteArray) (k : Nat) : Prop :=
  k = 0 ∨ ∃ x, x < g.length ∧ 0 < k ∧ t.extract (k - 1) k = nthName g x ∧ traceGo g [0] t.data.toList = traceGo g (nxt g x) (t.data.toList.drop k)

theorem at_none {g : List Bl} {cs : List Nat} {t : ByteArray} {k : Nat} (hk : k < t.size) (h : traceGo g [0] t.data.toList = traceGo g cs (t.data.toList.drop k)) (hf : named g cs ⟨#[t[k]]⟩ = none) : traceB g t = false := by
  unfold traceB
  rw [h, traceGo_cons hk, hf, Bool.and_false]

theorem at_some {g : List Bl} {cs : List Nat} {t : ByteArray} {k x : Nat} (hcs : ∀ c ∈ cs, c < g.length) (hk : k < t.size) (h : traceGo g [0] t.data.toList = traceGo g cs (t.data.toList.drop k)) (hf : named g cs ⟨#[t[k]]⟩ = some x) : AtName g t (k + 1) := by
  have hx := named_is hf
  refine .inr ⟨x, hcs x hx.1, by omega, ?_, by rw [h, traceGo_cons hk, hf]⟩
  rw [hx.2]
  exact ex_byte t (a := k) (b := k + 1) (by omega) (by omega) (by omega)

theorem at_end {g : List Bl} {t : ByteArray} (hv : validB g = true) (h : AtName g t t.size) : traceB g t = decide (t.size ≤ 60) := by
  have : traceGo g [0] t.data.toList = true := by
    rcases h with h0 | ⟨x, _, _, _, e⟩
    · have := traceGo_end (g := g) (cs := [0]) (t := t) (k := 0) (by omega)
      simpa using this
    · rw [e, traceGo_end (Nat.le_refl _)]
  unfold traceB
  rw [hv, this, Bool.true_and, Bool.and_true]

theorem drop_zero_go {g : List Bl} {t : ByteArray} : traceGo g [0] t.data.toList = traceGo g [0] (t.data.toList.drop 0) := rfl

set_option maxRecDepth 100000 in
set_option maxHeartbeats 3200000 in
theorem specTrace_any (A : Option Addr) (cap : Nat) (g : List Bl) (t : ByteArray) (w : World) (hg : Gr w A g) (hn : g.length + tot g ≤ 1048576) (hcap : g.length ≤ cap) (hts : t.size ≤ 1048576) :
    Calls Try.prog 41 #[.slice A g.length cap, .string t] w fun e w' => e = .returned (.bool (traceB g t)) ∧ Below w.heap.size w w' := by
  by_cases hv : validB g = true
  · have hpos := (valid_iff.1 hv).1
    have HT := Lib.hid hv
    have HG := Lib.hid hg
    have HVC := Lib.hid (fun w (h : Gr w A g) => (hv ▸ specValid_any A cap g w h hn hcap : Calls Try.prog 45 #[.slice A g.length cap] w fun e w' => e = .returned (.bool true) ∧ Below w.heap.size w w'))
    clear hv hg
    go_enter Try.func41, Try.ntmps41
    go_wp2_with fail
    go_loopw [8] (fun i wr => ∃ k : Nat, k ≤ t.size ∧ i = .int .i64 k ∧ Hid (AtName g t k) ∧ Below w.heap.size w wr) (fun i _ => t.size - (intOf i).toNat)
    case atStart => exact ⟨0, Nat.zero_le _, rfl, .inl rfl, Below.refl _ _⟩
    case round =>
      obtain ⟨k, hk, rfl, HAT, hB⟩ := hrel
      by_cases hlt : k < t.size
      · have hgr := HG.out.below hB
        obtain ⟨b, off, u, u2, hA, hb, hc0, hc1, he, he2⟩ := gr_at hgr hpos
        have HGR := Lib.hid hgr
        have HE := Lib.hid he
        have hu0 : wr.cell? ⟨b, off, none⟩ = some (.string u) := by simpa using hc0
        have k0 := cell_regrown hu0
        have cV : ∀ d os, Calls Try.prog 45 #[.slice A g.length cap] (grow (redrawn wr d) os) fun e w'' => e = .returned (.bool true) ∧ ∃ p : Regrown, w'' = grow (redrawn wr p.d) p.os := fun d os =>
          Calls.regrown_of (HVC.out _ (gr_grown HGR.out d os))
        clear hgr hc0 hc1 he he2 hu0
        have HB := Lib.hid hB
        clear hB
        rcases HAT.out with hk0 | ⟨x, hxl, hkp, hxn, hgo⟩
        · subst hk0
          subst hA
          have hl1 : 1 ≤ t.size := by omega
          have HEX : Hid (t.extract 0 1 = ⟨#[t[0]]⟩) := ex_byte t (a := 0) (b := 1) (by omega) (by omega) (by omega)
          have HN0 := Lib.hid (show nthName g 0 = u by rw [nthName_at hpos, HE.out])
          by_cases hq : ((t.extract 0 1).toList == u.toList) = true
          · have HNX : Hid (AtName g t 1) := at_some (cs := [0]) (x := 0) (fun c hc => by simp at hc; omega) hlt drop_zero_go (by
              have : nthName g 0 = ⟨#[t[0]]⟩ := by rw [HN0.out, ← HEX.out]; exact (beq_toList.1 hq).symm
              exact named_some (cs := [0]) (k := 0) (by simp) this (fun j _ hj => absurd hj (by omega)))
            have qn : (!((t.extract 0 1).toList == u.toList)) = false := by rw [hq]; rfl
            go_wp2_with fail
            refine wp_region_quiet_below (by kernel_rfl) (by kernel_rfl) ?_
            repeat (any_goals (first | go_big_quiet_step (first | with_reducible exact cV _ _) | quiet_step (first | with_reducible exact cV _ _)))
            all_goals (refine wpQuiet_nil ?_; intro _ hw'; obtain ⟨⟨dq, osq⟩, hw''⟩ := hw'; subst hw'')
            have hb2 := below_regrown wr dq osq
            generalize grow (redrawn wr dq) osq = w2 at hb2 ⊢
            have HB2 := Lib.hid (below_trans_self HB.out hb2)
            clear cV k0 hb2
            go_wp2_with fail
            have cV : True := trivial
            refine wp_region_quiet_below (by kernel_rfl) (by kernel_rfl) ?_
            repeat (any_goals (first | go_big_quiet_step (fail) | quiet_step (fail)))
            all_goals (refine wpQuiet_nil ?_; intro _ hw'; obtain ⟨⟨dr, osr⟩, hw''⟩ := hw'; subst hw'')
            have hb3 := below_regrown w2 dr osr
            generalize grow (redrawn w2 dr) osr = w3 at hb3 ⊢
            have HB3 := Lib.hid (below_trans_self HB2.out hb3)
            clear hb3
            go_wp2_with fail
            go_roundw
            case rel => exact ⟨0 + 1, hl1, by go_num, HNX.out, HB3.out⟩
            case measure => simp [intOf]; omega
          · have HF := Lib.hid (show traceB g t = false from at_none (cs := [0]) hlt drop_zero_go (by
              refine traced_none fun j hj => ?_
              have hj0 : j = 0 := by simpa using hj
              subst hj0
              show nthName g 0 ≠ _
              rw [HN0.out, ← HEX.out]
              exact fun e => hq (beq_toList.2 e.symm)))
            have hq0 : ((t.extract 0 1).toList == u.toList) = false := by simpa using hq
            have qn : (!((t.extract 0 1).toList == u.toList)) = true := by rw [hq0]; rfl
            clear hq hq0
            go_wp2_with fail
            refine wp_region_quiet_below (by kernel_rfl) (by kernel_rfl) ?_
            repeat (any_goals (first | go_big_quiet_step (first | with_reducible exact cV _ _) | quiet_step (first | with_reducible exact cV _ _)))
            all_goals (refine wpQuiet_nil ?_; intro _ hw'; obtain ⟨⟨dq, osq⟩, hw''⟩ := hw'; subst hw'')
            have hb2 := below_regrown wr dq osq
            generalize grow (redrawn wr dq) osq = w2 at hb2 ⊢
            have HB2 := Lib.hid (below_trans_self HB.out hb2)
            clear cV k0 hb2
            go_wp2_with fail
            go_ret
            exact ⟨ret_bool HF.out.symm, HB2.out⟩
        · obtain ⟨m, rfl⟩ : ∃ m, k = m + 1 := ⟨k - 1, by omega⟩
          subst hA
          have hpo : posOf g g[x].1 = some x := posOf_name HT.out hxl
          have hxn' : t.extract m (m + 1) = g[x].1 := by rw [← nthName_at hxl]; exact hxn
          have g0 : (((m + 1 : Nat) : Int) == 0) = false := by simp <;> omega
          have g1 : decide ((0 : Int) < ((m + 1 : Nat) : Int)) = true := by simp <;> omega
          have g4 : (m : Int) + 1 < t.size := by omega
          have g5 : (0 : Int) ≤ (m : Int) + 1 := by omega
          have g2 : (((m : Int) + 1) == 0) = false := by simp <;> omega
          have g3 : decide ((0 : Int) < (m : Int) + 1) = true := by simp <;> omega
          have HGO := Lib.hid hgo
          have HPO := Lib.hid hpo
          have HXN := Lib.hid hxn'
          have HFN := Lib.hid (find_next HT.out hxl (t[m + 1]))
          have hs2 := tot_get g x hxl
          obtain ⟨n, hnn⟩ : ∃ n, n = g[x].2 := ⟨_, rfl⟩
          rw [← hnn] at HFN hs2
          have HNN := Lib.hid hnn
          clear hgo hpo hxn hxn' hnn
          go_wp2_with fail
          refine wp_region_quiet_below (by kernel_rfl) (by kernel_rfl) ?_
          repeat (any_goals (first | go_big_quiet_step (first | with_reducible exact cV _ _) | quiet_step (first | with_reducible exact cV _ _)))
          all_goals (refine wpQuiet_nil ?_; intro _ hw'; obtain ⟨⟨dq, osq⟩, hw''⟩ := hw'; subst hw'')
          have hb2 := below_regrown wr dq osq
          generalize grow (redrawn wr dq) osq = w2 at hb2 ⊢
          have HB2 := Lib.hid (below_trans_self HB.out hb2)
          have cN : ∀ d os, Calls Try.prog 77 #[.slice (some ⟨b, off, none⟩) g.length cap, .string (t.extract m (m + 1))] (grow (redrawn w2 d) os) fun e w'' => e = .returned (.string n) ∧ ∃ p : Regrown, w'' = grow (redrawn w2 p.d) p.os := fun d os => by
            have := l1Next_any _ cap g (t.extract m (m + 1)) x (grow (redrawn w2 d) os) (gr_grown (HG.out.below HB2.out) d os) (by omega) (by rw [HXN.out]; exact HPO.out) hxl
            rw [← HNN.out] at this
            exact Calls.regrown_of this
          obtain ⟨q, hq⟩ : ∃ q, q = Lib.indexByte n.data.toList t[m + 1] := ⟨_, rfl⟩
          have cF : ∀ d os, Calls Try.prog 64 #[.string n, .int .u8 (t[m + 1]).toNat] (grow (redrawn w2 d) os) fun e w'' => e = .returned (.int .i64 q) ∧ ∃ p : Regrown, w'' = grow (redrawn w2 p.d) p.os := fun d os => by
            have := same_grown (find_any n t[m + 1] (grow (redrawn w2 d) os) (by omega))
            rwa [← hq] at this
          rw [← hq] at HFN
          clear cV k0 hb2 hq
          by_cases hq0 : 0 ≤ q
          · have hq1 : decide (0 ≤ q) = true := by simpa using hq0
            have hq2 : decide (q < 0) = false := by simpa using hq0
            go_wp2_with fail
            refine wp_region_quiet_below (by kernel_rfl) (by kernel_rfl) ?_
            repeat (any_goals (first | go_big_quiet_step (first | with_reducible exact cN _ _ | with_reducible exact cF _ _) | quiet_step (first | with_reducible exact cN _ _ | with_reducible exact cF _ _)))
            all_goals (refine wpQuiet_nil ?_; intro _ hw'; obtain ⟨⟨dr, osr⟩, hw''⟩ := hw'; subst hw'')
            have hb3 := below_regrown w2 dr osr
            generalize grow (redrawn w2 dr) osr = w3 at hb3 ⊢
            have HB3 := Lib.hid (below_trans_self HB2.out hb3)
            clear hb3 cN cF
            go_wp2_with fail
            go_roundw
            case rel =>
              obtain ⟨y, hy⟩ := HFN.out.1 hq0
              exact ⟨m + 1 + 1, by omega, by go_num, at_some (fun c hc => nxt_lt HT.out hxl hc) hlt HGO.out hy, HB3.out⟩
            case measure => simp [intOf]; omega
          · have hq1 : decide (0 ≤ q) = false := by simpa using hq0
            have hq2 : decide (q < 0) = true := by simpa using hq0
            have HF := Lib.hid (show traceB g t = false from at_none hlt HGO.out (by
              cases hf : named g (nxt g x) ⟨#[t[m + 1]]⟩ with
              | none => rfl
              | some y => exact absurd (HFN.out.2 ⟨y, hf⟩) hq0))
            go_wp2_with fail
            refine wp_region_quiet_below (by kernel_rfl) (by kernel_rfl) ?_
            repeat (any_goals (first | go_big_quiet_step (first | with_reducible exact cN _ _ | with_reducible exact cF _ _) | quiet_step (first | with_reducible exact cN _ _ | with_reducible exact cF _ _)))
            all_goals (refine wpQuiet_nil ?_; intro _ hw'; obtain ⟨⟨dr, osr⟩, hw''⟩ := hw'; subst hw'')
            have hb3 := below_regrown w2 dr osr
            generalize grow (redrawn w2 dr) osr = w3 at hb3 ⊢
            have HB3 := Lib.hid (below_trans_self HB2.out hb3)
            clear hb3 cN cF
            go_wp2_with fail
            go_ret
            exact ⟨ret_bool HF.out.symm, HB3.out⟩
      · have hkt : k = t.size := by omega
        subst hkt
        have HF := Lib.hid (at_end HT.out HAT.out)
        have HC := Lib.hid (HVC.out _ (HG.out.below hB))
        have HB := Lib.hid hB
        clear hB
        by_cases h60 : t.size ≤ 60
        · have q : (t.size : Int) ≤ 60 := by omega
          go_wp2_with fail
          refine HC.out.mono ?_
          rintro e w1 ⟨rfl, b1⟩
          go_wp2_with fail
          go_ret
          exact ⟨ret_bool (by rw [HF.out]; simp <;> omega), HB.out.trans (b1.mono HB.out.size)⟩
        · have q : 60 < (t.size : Int) := by omega
          go_wp2_with fail
          refine HC.out.mono ?_
          rintro e w1 ⟨rfl, b1⟩
          go_wp2_with fail
          go_ret
          exact ⟨ret_bool (by rw [HF.out]; simp <;> omega), HB.out.trans (b1.mono HB.out.size)⟩
  · have hv' : validB g = false := by simpa using hv
    have HL := Lib.hid (traceB_no (t := t) hv')
    have HG := Lib.hid hg
    have HVC := Lib.hid (fun w (h : Gr w A g) => (hv' ▸ specValid_any A cap g w h hn hcap : Calls Try.prog 45 #[.slice A g.length cap] w fun e w' => e = .returned (.bool false) ∧ Below w.heap.size w w'))
    clear hv hv' hg
    go_enter Try.func41, Try.ntmps41
    go_wp2_with fail
    go_loopw [8] (fun i wr => i = .int .i64 ((0 : Nat) : Int) ∧ wr = w) (fun _ _ => 0)
    case atStart => exact ⟨rfl, rfl⟩
    case round =>
      obtain ⟨rfl, rfl⟩ := hrel
      have cV : ∀ d os, Calls Try.prog 45 #[.slice A g.length cap] (grow (redrawn wr d) os) fun e w'' => e = .returned (.bool false) ∧ ∃ p : Regrown, w'' = grow (redrawn wr p.d) p.os := fun d os =>
        Calls.regrown_of (HVC.out _ (gr_grown HG.out d os))
      by_cases hlt : 0 < t.size
      · have hl1 : 1 ≤ t.size := hlt
        go_wp2_with fail
        refine wp_region_quiet_below (by kernel_rfl) (by kernel_rfl) ?_
        repeat (any_goals (first | go_big_quiet_step (first | with_reducible exact cV _ _) | quiet_step (first | with_reducible exact cV _ _)))
        all_goals (refine wpQuiet_nil ?_; intro _ hw'; obtain ⟨⟨dq, osq⟩, hw''⟩ := hw'; subst hw'')
        have hb2 := below_regrown wr dq osq
        generalize grow (redrawn wr dq) osq = w2 at hb2 ⊢
        clear cV
        go_wp2_with fail
        go_ret
        exact ⟨ret_bool HL.out.symm, hb2⟩
      · have h0 : t.size = 0 := by omega
        have HC := Lib.hid (HVC.out _ HG.out)
        clear cV
        go_wp2_with fail
        refine HC.out.mono ?_
        rintro e w1 ⟨rfl, b1⟩
        go_wp2_with fail
        go_ret
        exact ⟨ret_bool HL.out.symm, b1⟩
end Go.Proofs.Yteodlcgmncchpaa
