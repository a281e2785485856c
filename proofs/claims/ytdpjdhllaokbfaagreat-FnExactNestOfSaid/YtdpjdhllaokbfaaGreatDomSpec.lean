/-
  Contracts of the model: what can be come to without one block; blocks that are reached; does one block dominate another one.
-/
import Derived.Test.YtdpjdhllaokbfaaGreatSpecReached
import Derived.Test.YtdpjdhllaokbfaaGreatWays
namespace Go.Proofs.YtdpjdhllaokbfaaGreat
open Go.RowKit Go.Sort

theorem one_get' {c : UInt8} {s : ByteArray} (h : s = ⟨#[c]⟩) (h0 : 0 < s.size) : s[0]'h0 = c := by subst h; rfl

theorem stepW_lt {g : List Bl} {A : List Nat} (hv : validB g = true) (h0 : 0 ∉ A) {i k : Nat} (hi : i < g.length) {ts : List Nat} (h : ts ⊆ nxt g i) : ∀ x ∈ stepW A (bfsW g A k) ts, x < g.length := by
  intro x hx
  rcases (stepW_mem _ _ _ _).1 hx with h1 | h1
  · exact bfsW_lt hv h0 k x h1
  · exact nxt_lt hv hi (h h1.1)

theorem stepW_le {g : List Bl} {A : List Nat} (hv : validB g = true) (h0 : 0 ∉ A) {i k : Nat} (hi : i < g.length) {ts : List Nat} (h : ts ⊆ nxt g i) : (stepW A (bfsW g A k) ts).length ≤ g.length :=
  nodup_lt_len _ _ (stepW_nodup _ _ _ (bfsW_nodup k)) (stepW_lt hv h0 hi h)

set_option maxRecDepth 100000 in
set_option maxHeartbeats 2000000 in
theorem l1FromW_any (A : Option Addr) (cap : Nat) (g : List Bl) (s wo : ByteArray) (a : Nat) (w : World) (hg : Gr w A g) (hn : g.length ≤ 1048576) (hv : validB g = true) (hs : s = nthName g 0) (ha : a < g.length) (hwo : wo = nthName g a) :
    Calls Tryz.prog 63 #[.slice A g.length cap, .string s, .string wo] w fun e w' => e = .returned (.string (namesAt g (reachW g [a]))) ∧ Below w.heap.size w w' := by
  have hpos := (valid_iff.1 hv).1
  have h26 := (valid_iff.1 hv).2.1
  have hs1 : s.size = 1 := by obtain ⟨c, hc, _⟩ := valid_one hv (List.getElem_mem hpos); rw [hs, nthName_at hpos, hc]; rfl
  have h0s : 0 < s.size := by omega
  have hwo1 : wo.size = 1 := by obtain ⟨c, hc, _⟩ := valid_one hv (List.getElem_mem ha); rw [hwo, nthName_at ha, hc]; rfl
  obtain ⟨c0, hc0, _⟩ := valid_one hv (List.getElem_mem hpos)
  have hs0 : s[0]'h0s = c0 := one_get' (by rw [hs, nthName_at hpos, hc0]) h0s
  have hidx0 := idx_namesAt hv (l := [a]) (fun i hi => by simp at hi; omega) hpos hc0
  rw [namesAt_one, ← hwo] at hidx0
  obtain ⟨z0, hz0⟩ : ∃ z0, z0 = Lib.indexByte wo.data.toList c0 := ⟨_, rfl⟩
  rw [← hz0] at hidx0
  have HF : Hid (∀ w, Calls Tryz.prog 60 #[.string wo, .int .u8 (s[0]'h0s).toNat] w fun e w' => e = .returned (.int .i64 z0) ∧ w = w') := fun w => by
    rw [hs0, hz0]; exact find_any wo c0 w (by omega)
  have HV := Lib.hid hv
  have HG := Lib.hid hg
  have HS := Lib.hid hs
  have HWO := Lib.hid hwo
  by_cases h0a : 0 ∈ [a]
  · have q0 : 0 ≤ z0 := hidx0.2 h0a
    have HR := Lib.hid (show (⟨#[]⟩ : ByteArray) = namesAt g (reachW g [a]) by rw [reachW_no h0a]; rfl)
    clear hv hg hs hwo hidx0 hz0 hs0 hc0
    go_enter Tryz.func63, Tryz.ntmps63
    go_wp2_with fail
    refine (HF.out w).mono ?_
    rintro e w1 ⟨rfl, rfl⟩
    go_wp2_with fail
    go_ret
    exact ⟨ret_string HR.out, Below.refl _ _⟩
  have q0 : ¬ 0 ≤ z0 := fun h => h0a (hidx0.1 h)
  have H0A := Lib.hid h0a
  clear hv hg hs hwo hidx0 hz0 hs0 hc0 h0a
  go_enter Tryz.func63, Tryz.ntmps63
  go_wp2_with fail
  refine (HF.out w).mono ?_
  rintro e w1 ⟨rfl, rfl⟩
  go_wp2_with fail
  go_loopg [7, 8] g.length (fun gk s i wr => ∃ k, gk = g.length - k ∧ k ≤ (bfsW g [a] k).length ∧ s = .string (namesAt g (bfsW g [a] k)) ∧ i = .int .i64 k ∧ Below w.heap.size w wr)
  case atStart => exact ⟨0, rfl, by simp, by rw [HS.out]; show _ = Value.string (namesAt g [0]); rw [namesAt_one], rfl, Below.refl _ _⟩
  case round =>
    obtain ⟨k, rfl, hkl, rfl, rfl, hB⟩ := hrel
    have hlen := bfsW_len HV.out H0A.out k
    obtain ⟨o, ho⟩ : ∃ o, o = namesAt g (bfsW g [a] k) := ⟨_, rfl⟩
    have hos : o.size = (bfsW g [a] k).length := by rw [ho, namesAt_size HV.out _ (bfsW_lt HV.out H0A.out k)]
    rw [← ho]
    by_cases hlt : k < (bfsW g [a] k).length
    · obtain ⟨x, hx⟩ : ∃ x, x = (bfsW g [a] k)[k] := ⟨_, rfl⟩
      have hxl : x < g.length := hx ▸ bfsW_lt HV.out H0A.out k _ (List.getElem_mem hlt)
      obtain ⟨_, hcut⟩ := namesAt_cut HV.out (bfsW_lt HV.out H0A.out k) hlt
      have hcut' : o.extract k (k + 1) = g[x].1 := by rw [ho, hcut]; congr 2; exact hx.symm
      have HN := Lib.hid (l1Next_any A cap g (o.extract k (k + 1)) x wr (HG.out.keep hB.size (fun b o hlt => hB.cell (p := ⟨b, o, none⟩) hlt)) hn (by rw [hcut']; exact posOf_name HV.out hxl) hxl)
      have q1 : ((k : Int) < o.size) := by omega
      have hko : k + 1 ≤ o.size := by omega
      obtain ⟨nx, hnx⟩ : ∃ nx, nx = g[x].2 := ⟨_, rfl⟩
      have hnl : nx.size ≤ 2 := hnx ▸ nxt_two' HV.out hxl
      rw [← hnx] at HN
      have HO := Lib.hid ho
      have HX := Lib.hid hx
      have HNX := Lib.hid hnx
      have HB := Lib.hid hB
      have HLT := Lib.hid hlt
      have HLEN := Lib.hid hlen
      clear ho hx hcut hcut' hnx hB
      go_wp2_with fail
      refine HN.out.mono ?_
      rintro e w2 ⟨rfl, b2⟩
      have HB2 := Lib.hid (HB.out.trans (b2.mono HB.out.size))
      clear b2
      go_wp2_with fail
      go_loopw [7, 32] (fun s i wr => ∃ j out, j ≤ nx.size ∧ Hid (out = stepW [a] (bfsW g [a] k) ((nxt g x).take j)) ∧ s = .string (namesAt g out) ∧ i = .int .i64 j ∧ Below w.heap.size w wr) (fun _ i _ => nx.size - (intOf i).toNat)
      case atStart => exact ⟨0, bfsW g [a] k, Nat.zero_le _, rfl, by rw [HO.out], rfl, HB2.out⟩
      case round =>
        obtain ⟨j, out, hj, HOUT, rfl, rfl, hB3⟩ := hrel
        have hol : ∀ y ∈ out, y < g.length := by rw [HOUT.out]; exact stepW_lt HV.out H0A.out hxl (List.take_prefix _ _).subset
        have hole : out.length ≤ g.length := by rw [HOUT.out]; exact stepW_le HV.out H0A.out hxl (List.take_prefix _ _).subset
        obtain ⟨p, hp⟩ : ∃ p, p = namesAt g out := ⟨_, rfl⟩
        have hps : p.size = out.length := by rw [hp, namesAt_size HV.out _ hol]
        rw [← hp]
        by_cases hjd : j < nx.size
        · obtain ⟨t, htl, hget, _, hnm⟩ := nxt_get HV.out hxl (k := j) (by rw [← HNX.out]; exact hjd)
          have hbyte : g[x].2[j]'(by rw [← HNX.out]; exact hjd) = nx[j] := by congr 1; exact HNX.out.symm
          rw [hbyte] at hnm
          have hidx := idx_namesAt HV.out (l := out ++ [a]) (fun i hi => (List.mem_append.1 hi).elim (hol i) fun h => by simp at h; omega) htl hnm
          rw [namesAt_append, namesAt_one, ← hp, ← HWO.out] at hidx
          have HT := Lib.hid (show stepW [a] (bfsW g [a] k) ((nxt g x).take (j + 1)) = if t ∈ out ∨ t ∈ [a] then out else out ++ [t] by
            have hjl : j < (nxt g x).length := (List.getElem?_eq_some_iff.1 hget).1
            have e : (nxt g x)[j] = t := (List.getElem?_eq_some_iff.1 hget).2
            rw [List.take_succ_eq_append_getElem hjl, e, stepW_snoc, ← HOUT.out])
          have HPP := Lib.hid hp
          have HB3 := Lib.hid hB3
          have hz1 : p.size + wo.size ≤ 1048576 := by omega
          have hj1 : j + 1 ≤ nx.size := by omega
          have HEX := Lib.hid (show nx.extract j (j + 1) = nthName g t by rw [ex_byte nx (a := j) (b := j + 1) (by omega) (by omega) (by omega), nthName_at htl, hnm])
          obtain ⟨z, hz⟩ : ∃ z, z = Lib.indexByte (p ++ wo).data.toList nx[j] := ⟨_, rfl⟩
          have HFC : Hid (∀ w, Calls Tryz.prog 60 #[.string (p ++ wo), .int .u8 nx[j].toNat] w fun e w' => e = .returned (.int .i64 z) ∧ w = w') := fun w => by
            rw [hz]; exact find_any (p ++ wo) nx[j] w (by rw [ByteArray.size_append]; omega)
          rw [← hz] at hidx
          clear hp hbyte hnm hget hB3 hz
          by_cases hin : t ∈ out ∨ t ∈ [a]
          · have q2 : ¬ z < 0 := by have := hidx.2 (List.mem_append.2 hin); omega
            rw [if_pos hin] at HT
            clear hidx hin
            go_wp2_with fail
            refine (HFC.out _).mono ?_
            rintro e w4 ⟨rfl, rfl⟩
            go_wp2_with fail
            go_roundw
            case rel => exact ⟨j + 1, out, by omega, HT.out.symm, by rw [HPP.out], by go_num, HB3.out⟩
            case measure => simp [intOf]; omega
          · have q2 : z < 0 := by
              rcases Int.lt_or_le z 0 with h | h
              · exact h
              · exact absurd (List.mem_append.1 (hidx.1 h)) hin
            rw [if_neg hin] at HT
            have hz2 : p.size + (nx.extract j (j + 1)).size ≤ 1048576 := by rw [HEX.out, nthName_at htl]; obtain ⟨c, hc, _⟩ := valid_one HV.out (List.getElem_mem htl); rw [hc]; show p.size + 1 ≤ _; omega
            have HNX2 := Lib.hid (show namesAt g (out ++ [t]) = p ++ nx.extract j (j + 1) by rw [namesAt_append, namesAt_one, HPP.out, HEX.out])
            clear hidx hin
            go_wp2_with fail
            refine (HFC.out _).mono ?_
            rintro e w4 ⟨rfl, rfl⟩
            go_wp2_with fail
            go_roundw
            case rel => exact ⟨j + 1, out ++ [t], by omega, HT.out.symm, by rw [HNX2.out], by go_num, HB3.out⟩
            case measure => simp [intOf]; omega
        · have hjn : j = nx.size := by omega
          have HBF := Lib.hid (show out = bfsW g [a] (k + 1) by rw [HOUT.out, bfsW_step HLT.out, ← HX.out, List.take_of_length_le (by rw [nxt_length hxl, ← HNX.out]; omega)])
          have HPP := Lib.hid hp
          have HB3 := Lib.hid hB3
          have hkl2 : k + 1 ≤ out.length := by
            have h1 := (stepW_prefix [a] ((nxt g x).take j) (bfsW g [a] k)).length_le
            rw [← HOUT.out] at h1; have := HLT.out; omega
          clear hp hB3
          go_wp2_with fail
          go_roundg (g.length - (k + 1))
          case measure => have := HLEN.out; have := HLT.out; omega
          case rel => exact ⟨k + 1, rfl, by rw [← HBF.out]; exact hkl2, by rw [HPP.out, HBF.out], by go_num, HB3.out⟩
    · have hke : k = (bfsW g [a] k).length := by omega
      have HR := Lib.hid (show o = namesAt g (reachW g [a]) by rw [ho, reachW_done H0A.out (k := k) (by omega) (by omega)])
      have q1 : ¬ ((k : Int) < o.size) := by omega
      have HB := Lib.hid hB
      clear ho hke hB
      go_wp2_with fail
      go_ret
      exact ⟨ret_string HR.out, HB.out⟩

/-- The reached block with a name. -/
def liveOf (g : List Bl) (s : ByteArray) : Option Nat := if validB g then (match posOf g s with | some i => if i ∈ reach g then some i else none | none => none) else none

theorem liveOf_no {g : List Bl} {s : ByteArray} (h : validB g = false) : liveOf g s = none := by unfold liveOf; rw [h]; rfl
theorem liveOf_none {g : List Bl} {s : ByteArray} (hp : posOf g s = none) : liveOf g s = none := by unfold liveOf; rw [hp]; split <;> rfl
theorem liveOf_out {g : List Bl} {s : ByteArray} {i : Nat} (hp : posOf g s = some i) (hr : i ∉ reach g) : liveOf g s = none := by unfold liveOf; rw [hp]; simp [hr]
theorem liveOf_some {g : List Bl} {s : ByteArray} {i : Nat} (h : validB g = true) (hp : posOf g s = some i) (hr : i ∈ reach g) : liveOf g s = some i := by unfold liveOf; rw [h, hp]; simp [hr]
theorem liveOf_is {g : List Bl} {s : ByteArray} {i : Nat} (h : liveOf g s = some i) : validB g = true ∧ posOf g s = some i ∧ i ∈ reach g := by
  cases hv : validB g with
  | false => rw [liveOf_no hv] at h; cases h
  | true =>
    cases hp : posOf g s with
    | none => rw [liveOf_none hp] at h; cases h
    | some j =>
      by_cases hr : j ∈ reach g
      · rw [liveOf_some hv hp hr] at h
        obtain rfl := Option.some.inj h
        exact ⟨rfl, rfl, hr⟩
      · rw [liveOf_out hp hr] at h; cases h

set_option maxRecDepth 100000 in
set_option maxHeartbeats 1000000 in
theorem l3Live_any (A : Option Addr) (cap : Nat) (g : List Bl) (s : ByteArray) (w : World) (hg : Gr w A g) (hn : g.length + tot g ≤ 1048576) (hcap : g.length ≤ cap) :
    Calls Tryz.prog 44 #[.slice A g.length cap, .string s] w fun e w' => e = .returned (.int .i64 (idxInt (liveOf g s))) ∧ Below w.heap.size w w' := by
  have cG : ∀ d os, Calls Tryz.prog 35 #[.slice A g.length cap] (grow (redrawn w d) os) fun e w'' => e = .returned (.bool (validB g)) ∧ ∃ p : Regrown, w'' = grow (redrawn w p.d) p.os := fun d os =>
    Calls.regrown_of (specValid_any A cap g _ (gr_grown hg d os) hn hcap)
  have cI : ∀ d os, Calls Tryz.prog 66 #[.slice A g.length cap, .string s] (grow (redrawn w d) os) fun e w'' => e = .returned (.int .i64 (idxInt (posOf g s))) ∧ ∃ p : Regrown, w'' = grow (redrawn w p.d) p.os := fun d os =>
    Calls.regrown_of (index_any A cap g s _ (gr_grown hg d os) (by omega))
  have HIX := Lib.hid (fun w (h : Gr w A g) => index_any A cap g s w h (by omega))
  have HG := Lib.hid hg
  cases hv : validB g with
  | false =>
    rw [hv] at cG
    have HR := Lib.hid (show (-1 : Int) = idxInt (liveOf g s) by rw [liveOf_no hv]; rfl)
    clear hv hg
    go_enter Tryz.func44, Tryz.ntmps44
    go_wp2_with fail
    refine wp_region_quiet_below (by kernel_rfl) (by kernel_rfl) ?_
    repeat (any_goals (first | go_big_quiet_step (with_reducible exact cG _ _) | quiet_step (with_reducible exact cG _ _)))
    all_goals (refine wpQuiet_nil ?_; intro _ hw'; obtain ⟨⟨dq, osq⟩, hw''⟩ := hw'; subst hw'')
    have hb3 := below_regrown w dq osq
    generalize grow (redrawn w dq) osq = w3 at hb3 ⊢
    clear cG cI
    go_wp2_with fail
    go_ret
    exact ⟨ret_int HR.out, hb3⟩
  | true =>
    rw [hv] at cG
    cases hp : posOf g s with
    | none =>
      rw [hp] at cI
      have cI2 : ∀ d os, Calls Tryz.prog 66 #[.slice A g.length cap, .string s] (grow (redrawn w d) os) fun e w'' => e = .returned (.int .i64 (-1)) ∧ ∃ p : Regrown, w'' = grow (redrawn w p.d) p.os := cI
      have HR := Lib.hid (show (-1 : Int) = idxInt (liveOf g s) by rw [liveOf_none hp]; rfl)
      clear hv hg hp cI
      go_enter Tryz.func44, Tryz.ntmps44
      go_wp2_with fail
      refine wp_region_quiet_below (by kernel_rfl) (by kernel_rfl) ?_
      repeat (any_goals (first | go_big_quiet_step (first | with_reducible exact cG _ _ | with_reducible exact cI2 _ _) | quiet_step (first | with_reducible exact cG _ _ | with_reducible exact cI2 _ _)))
      all_goals (refine wpQuiet_nil ?_; intro _ hw'; obtain ⟨⟨dq, osq⟩, hw''⟩ := hw'; subst hw'')
      have hb3 := below_regrown w dq osq
      generalize grow (redrawn w dq) osq = w3 at hb3 ⊢
      clear cG cI2
      go_wp2_with fail
      go_ret
      exact ⟨ret_int HR.out, hb3⟩
    | some i =>
      obtain ⟨hi, hnm⟩ := posOf_is hp
      obtain ⟨c, hc, _⟩ := valid_one hv (List.getElem_mem hi)
      have hsc : s = ⟨#[c]⟩ := by rw [← hnm, hc]
      have hs1 : s.size = 1 := by rw [hsc]; rfl
      have l0 : 0 < s.size := by omega
      rw [hp] at cI
      have cI2 : ∀ d os, Calls Tryz.prog 66 #[.slice A g.length cap, .string s] (grow (redrawn w d) os) fun e w'' => e = .returned (.int .i64 (i : Int)) ∧ ∃ p : Regrown, w'' = grow (redrawn w p.d) p.os := cI
      obtain ⟨rs, hrs⟩ : ∃ rs, rs = namesAt g (reachS g) := ⟨_, rfl⟩
      have hrl : ∀ j ∈ reachS g, j < g.length := fun j hj => by have := (List.mem_filter.1 hj).1; exact List.mem_range.1 this
      have hrz : rs.size ≤ 26 := by rw [hrs, namesAt_size hv _ hrl]; have := srt_len g (reach g) g.length; rw [← reachS_srt] at this; have := (valid_iff.1 hv).2.1; omega
      have cR : ∀ d os, Calls Tryz.prog 37 #[.slice A g.length cap] (grow (redrawn w d) os) fun e w'' => e = .returned (.string rs) ∧ ∃ p : Regrown, w'' = grow (redrawn w p.d) p.os := fun d os => by
        have := l1Reached_any A cap g _ (gr_grown hg d os) hn hv
        rw [← hrs] at this
        exact Calls.regrown_of this
      obtain ⟨z, hz⟩ : ∃ z, z = Lib.indexByte rs.data.toList c := ⟨_, rfl⟩
      have cF : ∀ d os, Calls Tryz.prog 60 #[.string rs, .int .u8 (s[0]'l0).toNat] (grow (redrawn w d) os) fun e w'' => e = .returned (.int .i64 z) ∧ ∃ p : Regrown, w'' = grow (redrawn w p.d) p.os := fun d os => by
        have := same_grown (find_any rs c (grow (redrawn w d) os) (by omega))
        rw [← hz] at this
        rw [one_get' hsc l0]
        exact this
      have hzi : 0 ≤ z ↔ i ∈ reachS g := by rw [hz, hrs]; exact idx_namesAt hv hrl hi hc
      have hri : i ∈ reachS g ↔ i ∈ reach g := by unfold reachS; rw [List.mem_filter, List.mem_range]; exact ⟨fun h => by simpa using h.2, fun h => ⟨hi, by simpa using h⟩⟩
      have qi : decide ((i : Int) < 0) = false := decide_eq_false (by omega)
      have HP := Lib.hid hp
      by_cases hr : i ∈ reach g
      · have q0 : decide (z < 0) = false := by have := hzi.2 (hri.2 hr); simp; omega
        have HR := Lib.hid (show (idxInt (posOf g s)) = idxInt (liveOf g s) by rw [liveOf_some hv hp hr, hp])
        clear hv hg hp cI hnm hc hsc hrs hz hzi hri hr
        go_enter Tryz.func44, Tryz.ntmps44
        go_wp2_with fail
        refine wp_region_quiet_below (by kernel_rfl) (by kernel_rfl) ?_
        repeat (any_goals (first | go_big_quiet_step (first | with_reducible exact cG _ _ | with_reducible exact cI2 _ _ | with_reducible exact cR _ _ | with_reducible exact cF _ _) | quiet_step (first | with_reducible exact cG _ _ | with_reducible exact cI2 _ _ | with_reducible exact cR _ _ | with_reducible exact cF _ _)))
        all_goals (refine wpQuiet_nil ?_; intro _ hw'; obtain ⟨⟨dq, osq⟩, hw''⟩ := hw'; subst hw'')
        have hb3 := below_regrown w dq osq
        generalize grow (redrawn w dq) osq = w3 at hb3 ⊢
        clear cG cI2 cR cF
        go_wp2_with fail
        refine (HIX.out w3 (HG.out.below hb3)).mono ?_
        rintro e w4 ⟨rfl, b4⟩
        go_wp2_with fail
        go_ret
        exact ⟨ret_int HR.out, below_trans_self hb3 b4⟩
      · have q0 : decide (z < 0) = true := by
          have h : ¬ 0 ≤ z := fun h => hr (hri.1 (hzi.1 h))
          simp; omega
        have HR := Lib.hid (show (-1 : Int) = idxInt (liveOf g s) by rw [liveOf_out hp hr]; rfl)
        clear hv hg hp cI hnm hc hsc hrs hz hzi hri hr
        go_enter Tryz.func44, Tryz.ntmps44
        go_wp2_with fail
        refine wp_region_quiet_below (by kernel_rfl) (by kernel_rfl) ?_
        repeat (any_goals (first | go_big_quiet_step (first | with_reducible exact cG _ _ | with_reducible exact cI2 _ _ | with_reducible exact cR _ _ | with_reducible exact cF _ _) | quiet_step (first | with_reducible exact cG _ _ | with_reducible exact cI2 _ _ | with_reducible exact cR _ _ | with_reducible exact cF _ _)))
        all_goals (refine wpQuiet_nil ?_; intro _ hw'; obtain ⟨⟨dq, osq⟩, hw''⟩ := hw'; subst hw'')
        have hb3 := below_regrown w dq osq
        generalize grow (redrawn w dq) osq = w3 at hb3 ⊢
        clear cG cI2 cR cF
        go_wp2_with fail
        go_ret
        exact ⟨ret_int HR.out, hb3⟩

/-- Every way to b comes by a. -/
def dmB (g : List Bl) (a b : Nat) : Bool := decide (a = b) || decide (b ∉ reachW g [a])

end Go.Proofs.YtdpjdhllaokbfaaGreat
