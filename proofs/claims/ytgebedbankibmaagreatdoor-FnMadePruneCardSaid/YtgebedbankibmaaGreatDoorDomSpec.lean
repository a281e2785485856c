/-
  Contracts of the model: what can be come to without one block; blocks that are reached; does one block dominate another one.
-/
import Derived.Test.YtgebedbankibmaaGreatDoorSpecReached
import Derived.Test.YtgebedbankibmaaGreatDoorWays
namespace Go.Proofs.YtgebedbankibmaaGreatDoor
open Go.RowKit Go.Sort

theorem one_get' {c : UInt8} {s : ByteArray} (h : s = ⟨#[c]⟩) (h0 : 0 < s.size) : s[0]'h0 = c := by subst h; rfl

theorem stepW_lt {g : List Bl} {A : List Nat} (hv : validB g = true) (h0 : 0 ∉ A) {i k : Nat} (hi : i < g.length) {ts : List Nat} (h : ts ⊆ nxt g i) : ∀ x ∈ stepW A (bfsW g A k) ts, x < g.length := by
  intro x hx
  rcases (stepW_mem _ _ _ _).1 hx with h1 | h1
  · exact bfsW_lt hv h0 k x h1
  · exact nxt_lt hv hi (h h1.1)

theorem stepW_le {g : List Bl} {A : List Nat} (hv : validB g = true) (h0 : 0 ∉ A) {i k : Nat} (hi : i < g.length) {ts : List Nat} (h : ts ⊆ nxt g i) : (stepW A (bfsW g A k) ts).length ≤ g.length :=
  nodup_lt_len _ _ (stepW_nodup _ _ _ (bfsW_nodup k)) (stepW_lt hv h0 hi h)

set_option maxRecDepth 100000 in
set_option maxHeartbeats 2000000 in
theorem l1FromW_any (A : Option Addr) (cap : Nat) (g : List Bl) (s wo : ByteArray) (a : Nat) (w : World) (hg : Gr w A g) (hn : g.length ≤ 1048576) (hv : validB g = true) (hs : s = nthName g 0) (ha : a < g.length) (hwo : wo = nthName g a) :
    Calls Tryz.prog 120 #[.slice A g.length cap, .string s, .string wo] w fun e w' => e = .returned (.string (namesAt g (reachW g [a]))) ∧ Below w.heap.size w w' := by
  have hpos := (valid_iff.1 hv).1
  have h26 := (valid_iff.1 hv).2.1
  have hs1 : s.size = 1 := by obtain ⟨c, hc, _⟩ := valid_one hv (List.getElem_mem hpos); rw [hs, nthName_at hpos, hc]; rfl
  have h0s : 0 < s.size := by omega
  have hwo1 : wo.size = 1 := by obtain ⟨c, hc, _⟩ := valid_one hv (List.getElem_mem ha); rw [hwo, nthName_at ha, hc]; rfl
  obtain ⟨c0, hc0, _⟩ := valid_one hv (List.getElem_mem hpos)
  have hs0 : s[0]'h0s = c0 := one_get' (by rw [hs, nthName_at hpos, hc0]) h0s
  have hidx0 := idx_namesAt hv (l := [a]) (fun i hi => by simp at hi; omega) hpos hc0
  rw [namesAt_one, ← hwo] at hidx0
  obtain ⟨z0, hz0⟩ : ∃ z0, z0 = Lib.indexByte wo.data.toList c0 := ⟨_, rfl⟩
  rw [← hz0] at hidx0
  have HF : Hid (∀ w, Calls Tryz.prog 71 #[.string wo, .int .u8 (s[0]'h0s).toNat] w fun e w' => e = .returned (.int .i64 z0) ∧ w = w') := fun w => by
    rw [hs0, hz0]; exact find_any wo c0 w (by omega)
  have HV := Lib.hid hv
  have HG := Lib.hid hg
  have HS := Lib.hid hs
  have HWO := Lib.hid hwo
  by_cases h0a : 0 ∈ [a]
  · have q0 : 0 ≤ z0 := hidx0.2 h0a
    have HR := Lib.hid (show (⟨#[]⟩ : ByteArray) = namesAt g (reachW g [a]) by rw [reachW_no h0a]; rfl)
    clear hv hg hs hwo hidx0 hz0 hs0 hc0
    go_enter Tryz.func120, Tryz.ntmps120
    go_wp2_with fail
    refine (HF.out w).mono ?_
    rintro e w1 ⟨rfl, rfl⟩
    go_wp2_with fail
    go_ret
    exact ⟨ret_string HR.out, Below.refl _ _⟩
  have q0 : ¬ 0 ≤ z0 := fun h => h0a (hidx0.1 h)
  have H0A := Lib.hid h0a
  clear hv hg hs hwo hidx0 hz0 hs0 hc0 h0a
  go_enter Tryz.func120, Tryz.ntmps120
  go_wp2_with fail
  refine (HF.out w).mono ?_
  rintro e w1 ⟨rfl, rfl⟩
  go_wp2_with fail
  go_loopg [7, 8] g.length (fun gk s i wr => ∃ k, gk = g.length - k ∧ k ≤ (bfsW g [a] k).length ∧ s = .string (namesAt g (bfsW g [a] k)) ∧ i = .int .i64 k ∧ Below w.heap.size w wr)
  case atStart => exact ⟨0, rfl, by simp, by rw [HS.out]; show _ = Value.string (namesAt g [0]); rw [namesAt_one], rfl, Below.refl _ _⟩
  case round =>
    obtain ⟨k, rfl, hkl, rfl, rfl, hB⟩ := hrel
    have hlen := bfsW_len HV.out H0A.out k
    obtain ⟨o, ho⟩ : ∃ o, o = namesAt g (bfsW g [a] k) := ⟨_, rfl⟩
    have hos : o.size = (bfsW g [a] k).length := by rw [ho, namesAt_size HV.out _ (bfsW_lt HV.out H0A.out k)]
    rw [← ho]
    by_cases hlt : k < (bfsW g [a] k).length
    · obtain ⟨x, hx⟩ : ∃ x, x = (bfsW g [a] k)[k] := ⟨_, rfl⟩
      have hxl : x < g.length := hx ▸ bfsW_lt HV.out H0A.out k _ (List.getElem_mem hlt)
      obtain ⟨_, hcut⟩ := namesAt_cut HV.out (bfsW_lt HV.out H0A.out k) hlt
      have hcut' : o.extract k (k + 1) = g[x].1 := by rw [ho, hcut]; congr 2; exact hx.symm
      have HN := Lib.hid (l1Next_any A cap g (o.extract k (k + 1)) x wr (HG.out.keep hB.size (fun b o hlt => hB.cell (p := ⟨b, o, none⟩) hlt)) hn (by rw [hcut']; exact posOf_name HV.out hxl) hxl)
      have q1 : ((k : Int) < o.size) := by omega
      have hko : k + 1 ≤ o.size := by omega
      obtain ⟨nx, hnx⟩ : ∃ nx, nx = g[x].2 := ⟨_, rfl⟩
      have hnl : nx.size ≤ 2 := hnx ▸ nxt_two' HV.out hxl
      rw [← hnx] at HN
      have HO := Lib.hid ho
      have HX := Lib.hid hx
      have HNX := Lib.hid hnx
      have HB := Lib.hid hB
      have HLT := Lib.hid hlt
      have HLEN := Lib.hid hlen
      clear ho hx hcut hcut' hnx hB
      go_wp2_with fail
      refine HN.out.mono ?_
      rintro e w2 ⟨rfl, b2⟩
      have HB2 := Lib.hid (HB.out.trans (b2.mono HB.out.size))
      clear b2
      go_wp2_with fail
      go_loopw [7, 32] (fun s i wr => ∃ j out, j ≤ nx.size ∧ Hid (out = stepW [a] (bfsW g [a] k) ((nxt g x).take j)) ∧ s = .string (namesAt g out) ∧ i = .int .i64 j ∧ Below w.heap.size w wr) (fun _ i _ => nx.size - (intOf i).toNat)
      case atStart => exact ⟨0, bfsW g [a] k, Nat.zero_le _, rfl, by rw [HO.out], rfl, HB2.out⟩
      case round =>
        obtain ⟨j, out, hj, HOUT, rfl, rfl, hB3⟩ := hrel
        have hol : ∀ y ∈ out, y < g.length := by rw [HOUT.out]; exact stepW_lt HV.out H0A.out hxl (List.take_prefix _ _).subset
        have hole : out.length ≤ g.length := by rw [HOUT.out]; exact stepW_le HV.out H0A.out hxl (List.take_prefix _ _).subset
        obtain ⟨p, hp⟩ : ∃ p, p = namesAt g out := ⟨_, rfl⟩
        have hps : p.size = out.length := by rw [hp, namesAt_size HV.out _ hol]
        rw [← hp]
        by_cases hjd : j < nx.size
        · obtain ⟨t, htl, hget, _, hnm⟩ := nxt_get HV.out hxl (k := j) (by rw [← HNX.out]; exact hjd)
          have hbyte : g[x].2[j]'(by rw [← HNX.out]; exact hjd) = nx[j] := by congr 1; exact HNX.out.symm
          rw [hbyte] at hnm
          have hidx := idx_namesAt HV.out (l := out ++ [a]) (fun i hi => (List.mem_append.1 hi).elim (hol i) fun h => by simp at h; omega) htl hnm
          rw [namesAt_append, namesAt_one, ← hp, ← HWO.out] at hidx
          have HT := Lib.hid (show stepW [a] (bfsW g [a] k) ((nxt g x).take (j + 1)) = if t ∈ out ∨ t ∈ [a] then out else out ++ [t] by
            have hjl : j < (nxt g x).length := (List.getElem?_eq_some_iff.1 hget).1
            have e : (nxt g x)[j] = t := (List.getElem?_eq_some_iff.1 hget).2
            rw [List.take_succ_eq_append_getElem hjl, e, stepW_snoc, ← HOUT.out])
          have HPP := Lib.hid hp
          have HB3 := Lib.hid hB3
          have hz1 : p.size + wo.size ≤ 1048576 := by omega
          have hj1 : j + 1 ≤ nx.size := by omega
          have HEX := Lib.hid (show nx.extract j (j + 1) = nthName g t by rw [ex_byte nx (a := j) (b := j + 1) (by omega) (by omega) (by omega), nthName_at htl, hnm])
          obtain ⟨z, hz⟩ : ∃ z, z = Lib.indexByte (p ++ wo).data.toList nx[j] := ⟨_, rfl⟩
          have HFC : Hid (∀ w, Calls Tryz.prog 71 #[.string (p ++ wo), .int .u8 nx[j].toNat] w fun e w' => e = .returned (.int .i64 z) ∧ w = w') := fun w => by
            rw [hz]; exact find_any (p ++ wo) nx[j] w (by rw [ByteArray.size_append]; omega)
          rw [← hz] at hidx
          clear hp hbyte hnm hget hB3 hz
          by_cases hin : t ∈ out ∨ t ∈ [a]
          · have q2 : ¬ z < 0 := by have := hidx.2 (List.mem_append.2 hin); omega
            rw [if_pos hin] at HT
            clear hidx hin
            go_wp2_with fail
            refine (HFC.out _).mono ?_
            rintro e w4 ⟨rfl, rfl⟩
            go_wp2_with fail
            go_roundw
            case rel => exact ⟨j + 1, out, by omega, HT.out.symm, by rw [HPP.out], by go_num, HB3.out⟩
            case measure => simp [intOf]; omega
          · have q2 : z < 0 := by
              rcases Int.lt_or_le z 0 with h | h
              · exact h
              · exact absurd (List.mem_append.1 (hidx.1 h)) hin
            rw [if_neg hin] at HT
            have hz2 : p.size + (nx.extract j (j + 1)).size ≤ 1048576 := by rw [HEX.out, nthName_at htl]; obtain ⟨c, hc, _⟩ := valid_one HV.out (List.getElem_mem htl); rw [hc]; show p.size + 1 ≤ _; omega
            have HNX2 := Lib.hid (show namesAt g (out ++ [t]) = p ++ nx.extract j (j + 1) by rw [namesAt_append, namesAt_one, HPP.out, HEX.out])
            clear hidx hin
            go_wp2_with fail
            refine (HFC.out _).mono ?_
            rintro e w4 ⟨rfl, rfl⟩
            go_wp2_with fail
            go_roundw
            case rel => exact ⟨j + 1, out ++ [t], by omega, HT.out.symm, by rw [HNX2.out], by go_num, HB3.out⟩
            case measure => simp [intOf]; omega
        · have hjn : j = nx.size := by omega
          have HBF := Lib.hid (show out = bfsW g [a] (k + 1) by rw [HOUT.out, bfsW_step HLT.out, ← HX.out, List.take_of_length_le (by rw [nxt_length hxl, ← HNX.out]; omega)])
          have HPP := Lib.hid hp
          have HB3 := Lib.hid hB3
          have hkl2 : k + 1 ≤ out.length := by
            have h1 := (stepW_prefix [a] ((nxt g x).take j) (bfsW g [a] k)).length_le
            rw [← HOUT.out] at h1; have := HLT.out; omega
          clear hp hB3
          go_wp2_with fail
          go_roundg (g.length - (k + 1))
          case measure => have := HLEN.out; have := HLT.out; omega
          case rel => exact ⟨k + 1, rfl, by rw [← HBF.out]; exact hkl2, by rw [HPP.out, HBF.out], by go_num, HB3.out⟩
    · have hke : k = (bfsW g [a] k).length := by omega
      have HR := Lib.hid (show o = namesAt g (reachW g [a]) by rw [ho, reachW_done H0A.out (k := k) (by omega) (by omega)])
      have q1 : ¬ ((k : Int) < o.size) := by omega
      have HB := Lib.hid hB
      clear ho hke hB
      go_wp2_with fail
      go_ret
      exact ⟨ret_string HR.out, HB.out⟩

/-- Every way to b comes by a. -/
def dmB (g : List Bl) (a b : Nat) : Bool := decide (a = b) || decide (b ∉ reachW g [a])

set_option maxRecDepth 100000 in
set_option maxHeartbeats 1000000 in
theorem l3Dominates_any (A : Option Addr) (cap : Nat) (g : List Bl) (s t : ByteArray) (a b : Nat) (w : World) (hg : Gr w A g) (hn : g.length ≤ 1048576) (hv : validB g = true) (ha : a < g.length) (hb : b < g.length) (hs : s = nthName g a) (ht : t = nthName g b) :
    Calls Tryz.prog 122 #[.slice A g.length cap, .string s, .string t] w fun e w' => e = .returned (.bool (dmB g a b)) ∧ Below w.heap.size w w' := by
  by_cases hab : a = b
  · have q0 : (s.toList == t.toList) = true := by rw [hs, ht, hab]; simp
    have HR := Lib.hid (show true = dmB g a b by unfold dmB; rw [decide_eq_true hab]; rfl)
    clear hab hs ht hv hg
    go_enter Tryz.func122, Tryz.ntmps122
    go_wp2_with fail
    refine wp_region_quiet_below (by kernel_rfl) (by kernel_rfl) ?_
    repeat (any_goals (first | go_big_quiet_step (fail) | quiet_step (fail)))
    all_goals (refine wpQuiet_nil ?_; intro _ hw'; obtain ⟨⟨dq, osq⟩, hw''⟩ := hw'; subst hw'')
    have hb3 := below_regrown w dq osq
    generalize grow (redrawn w dq) osq = w3 at hb3 ⊢
    go_wp2_with fail
    go_ret
    exact ⟨ret_bool HR.out, hb3⟩
  · have q0 : (s.toList == t.toList) = false := by
      rw [hs, ht]
      cases hq : ((nthName g a).toList == (nthName g b).toList) with
      | false => rfl
      | true =>
        have := beq_toList.1 hq
        rw [nthName_at ha, nthName_at hb] at this
        exact absurd (name_inj hv ha hb this) hab
    have hpos := (valid_iff.1 hv).1
    have h26 := (valid_iff.1 hv).2.1
    obtain ⟨bl, off, e, e2, rfl, hbl, hc0, hc1, he, he2⟩ := gr_at hg hpos
    have hc0' : w.cell? ⟨bl, off, none⟩ = some (.string e) := by simpa using hc0
    have k0 := cell_regrown hc0'
    obtain ⟨c, hc, _⟩ := valid_one hv (List.getElem_mem hb)
    have htc : t = ⟨#[c]⟩ := by rw [ht, nthName_at hb, hc]
    have ht1 : t.size = 1 := by rw [htc]; rfl
    have l0 : 0 < t.size := by omega
    obtain ⟨rs, hrs⟩ : ∃ rs, rs = namesAt g (reachW g [a]) := ⟨_, rfl⟩
    have hrl : ∀ j ∈ reachW g [a], j < g.length := reachW_lt hv
    have hrz : rs.size ≤ 26 := by rw [hrs, namesAt_size hv _ hrl]; have := reachW_len hv [a]; omega
    have cA : ∀ d os, Calls Tryz.prog 120 #[.slice (some ⟨bl, off, none⟩) g.length cap, .string e, .string s] (grow (redrawn w d) os) fun e w'' => e = .returned (.string rs) ∧ ∃ p : Regrown, w'' = grow (redrawn w p.d) p.os := fun d os => by
      have := l1FromW_any (some ⟨bl, off, none⟩) cap g e s a _ (gr_grown hg d os) hn hv (by rw [nthName_at hpos, he]) ha hs
      rw [← hrs] at this
      exact Calls.regrown_of this
    obtain ⟨z, hz⟩ : ∃ z, z = Lib.indexByte rs.data.toList c := ⟨_, rfl⟩
    have cF : ∀ d os, Calls Tryz.prog 71 #[.string rs, .int .u8 (t[0]'l0).toNat] (grow (redrawn w d) os) fun e w'' => e = .returned (.int .i64 z) ∧ ∃ p : Regrown, w'' = grow (redrawn w p.d) p.os := fun d os => by
      have := same_grown (find_any rs c (grow (redrawn w d) os) (by omega))
      rw [← hz] at this
      rw [one_get' htc l0]
      exact this
    have hzi : 0 ≤ z ↔ b ∈ reachW g [a] := by rw [hz, hrs]; exact idx_namesAt hv hrl hb hc
    have HR := Lib.hid (show decide (z < 0) = dmB g a b by
      unfold dmB; rw [decide_eq_false hab, Bool.false_or]; apply decide_eq_decide.2
      exact ⟨fun h h2 => by have := hzi.2 h2; omega, fun h => by have : ¬ 0 ≤ z := fun h2 => h (hzi.1 h2); omega⟩)
    clear hab hs ht hv hg hc0 hc1 he he2 hc0' hc htc hrs hrl hz hzi
    go_enter Tryz.func122, Tryz.ntmps122
    go_wp2_with fail
    refine wp_region_quiet_below (by kernel_rfl) (by kernel_rfl) ?_
    repeat (any_goals (first | go_big_quiet_step (first | with_reducible exact cA _ _ | with_reducible exact cF _ _) | quiet_step (first | with_reducible exact cA _ _ | with_reducible exact cF _ _)))
    all_goals (refine wpQuiet_nil ?_; intro _ hw'; obtain ⟨⟨dq, osq⟩, hw''⟩ := hw'; subst hw'')
    have hb3 := below_regrown w dq osq
    generalize grow (redrawn w dq) osq = w3 at hb3 ⊢
    clear cA cF k0
    go_wp2_with fail
    go_ret
    exact ⟨ret_bool HR.out, hb3⟩

end Go.Proofs.YtgebedbankibmaaGreatDoor
