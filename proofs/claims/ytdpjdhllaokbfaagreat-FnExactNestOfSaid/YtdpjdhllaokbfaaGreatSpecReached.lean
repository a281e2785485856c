/-
  Contracts of the model's search: what can be come to, and the same in the order of the graph.
-/
import Derived.Test.YtdpjdhllaokbfaaGreatRuns
import Derived.Test.YtdpjdhllaokbfaaGreatNextOf
namespace Go.Proofs.YtdpjdhllaokbfaaGreat
open Go.RowKit Go.Sort

theorem ba_empty_empty : (⟨#[]⟩ : ByteArray) ++ ⟨#[]⟩ = ⟨#[]⟩ := rfl

theorem idx_empty (c : UInt8) : Lib.indexByte (⟨#[]⟩ : ByteArray).data.toList c = -1 := by
  have : ¬ 0 ≤ Lib.indexByte (⟨#[]⟩ : ByteArray).data.toList c := by rw [idx_mem]; simp
  exact idx_none fun j hj => by simp at hj

theorem nxt_two' {g : List Bl} (hv : validB g = true) {i : Nat} (hi : i < g.length) : g[i].2.size ≤ 2 := (nextB_iff.1 (nextsB_iff.1 (valid_iff.1 hv).2.2.2 i hi)).1

theorem step_lt {g : List Bl} (hv : validB g = true) {i k : Nat} (hi : i < g.length) {ts : List Nat} (h : ts ⊆ nxt g i) : ∀ x ∈ stepL (bfs g k) ts, x < g.length := by
  intro x hx
  rcases (stepL_mem _ _ _).1 hx with h1 | h1
  · exact bfs_lt hv k x h1
  · exact nxt_lt hv hi (h h1)

theorem step_le {g : List Bl} (hv : validB g = true) {i k : Nat} (hi : i < g.length) {ts : List Nat} (h : ts ⊆ nxt g i) : (stepL (bfs g k) ts).length ≤ g.length :=
  nodup_lt_len _ _ (stepL_nodup _ _ (bfs_nodup g k)) (step_lt hv hi h)

set_option maxRecDepth 100000 in
set_option maxHeartbeats 2000000 in
theorem l1From_any (A : Option Addr) (cap : Nat) (g : List Bl) (s : ByteArray) (w : World) (hg : Gr w A g) (hn : g.length ≤ 1048576) (hv : validB g = true) (hs : s = nthName g 0) :
    Calls Tryz.prog 63 #[.slice A g.length cap, .string s, .string ⟨#[]⟩] w fun e w' => e = .returned (.string (namesAt g (reach g))) ∧ Below w.heap.size w w' := by
  have hpos := (valid_iff.1 hv).1
  have h26 := (valid_iff.1 hv).2.1
  have hs1 : s.size = 1 := by obtain ⟨c, hc, _⟩ := valid_one hv (List.getElem_mem hpos); rw [hs, nthName_at hpos, hc]; rfl
  have h0s : 0 < s.size := by omega
  have HF : Hid (∀ w, Calls Tryz.prog 60 #[.string ⟨#[]⟩, .int .u8 (s[0]'h0s).toNat] w fun e w' => e = .returned (.int .i64 (-1)) ∧ w = w') := fun w => by
    have := find_any (⟨#[]⟩ : ByteArray) (s[0]'h0s) w (by have : (⟨#[]⟩ : ByteArray).size = 0 := rfl; omega)
    rw [idx_empty] at this; exact this
  have HV := Lib.hid hv
  have HG := Lib.hid hg
  have HS := Lib.hid hs
  clear hv hg hs
  go_enter Tryz.func63, Tryz.ntmps63
  go_wp2_with fail
  refine (HF.out w).mono ?_
  rintro e w1 ⟨rfl, rfl⟩
  go_wp2_with fail
  go_loopg [7, 8] g.length (fun gk s i wr => ∃ k, gk = g.length - k ∧ k ≤ (bfs g k).length ∧ s = .string (namesAt g (bfs g k)) ∧ i = .int .i64 k ∧ Below w.heap.size w wr)
  case atStart => exact ⟨0, rfl, by simp, by rw [HS.out]; show _ = Value.string (namesAt g [0]); rw [namesAt_one], rfl, Below.refl _ _⟩
  case round =>
    obtain ⟨k, rfl, hkl, rfl, rfl, hB⟩ := hrel
    have hlen := bfs_len HV.out k
    obtain ⟨o, ho⟩ : ∃ o, o = namesAt g (bfs g k) := ⟨_, rfl⟩
    have hos : o.size = (bfs g k).length := by rw [ho, namesAt_size HV.out _ (bfs_lt HV.out k)]
    rw [← ho]
    by_cases hlt : k < (bfs g k).length
    · obtain ⟨x, hx⟩ : ∃ x, x = (bfs g k)[k] := ⟨_, rfl⟩
      have hxl : x < g.length := hx ▸ bfs_lt HV.out k _ (List.getElem_mem hlt)
      obtain ⟨_, hcut⟩ := namesAt_cut HV.out (bfs_lt HV.out k) hlt
      have hcut' : o.extract k (k + 1) = g[x].1 := by rw [ho, hcut]; congr 2; exact hx.symm
      have HN := Lib.hid (l1Next_any A cap g (o.extract k (k + 1)) x wr (HG.out.keep hB.size (fun b o hlt => hB.cell (p := ⟨b, o, none⟩) hlt)) hn (by rw [hcut']; exact posOf_name HV.out hxl) hxl)
      have q1 : ((k : Int) < o.size) := by omega
      have hko : k + 1 ≤ o.size := by omega
      obtain ⟨nx, hnx⟩ : ∃ nx, nx = g[x].2 := ⟨_, rfl⟩
      have hnl : nx.size ≤ 2 := hnx ▸ nxt_two' HV.out hxl
      rw [← hnx] at HN
      have HO := Lib.hid ho
      have HX := Lib.hid hx
      have HNX := Lib.hid hnx
      have HB := Lib.hid hB
      have HLT := Lib.hid hlt
      have HLEN := Lib.hid hlen
      clear ho hx hcut hcut' hnx hB
      go_wp2_with fail
      refine HN.out.mono ?_
      rintro e w2 ⟨rfl, b2⟩
      have HB2 := Lib.hid (HB.out.trans (b2.mono HB.out.size))
      clear b2
      go_wp2_with fail
      go_loopw [7, 32] (fun s i wr => ∃ j out, j ≤ nx.size ∧ Hid (out = stepL (bfs g k) ((nxt g x).take j)) ∧ s = .string (namesAt g out) ∧ i = .int .i64 j ∧ Below w.heap.size w wr) (fun _ i _ => nx.size - (intOf i).toNat)
      case atStart => exact ⟨0, bfs g k, Nat.zero_le _, rfl, by rw [HO.out], rfl, HB2.out⟩
      case round =>
        obtain ⟨j, out, hj, HOUT, rfl, rfl, hB3⟩ := hrel
        have hol : ∀ y ∈ out, y < g.length := by rw [HOUT.out]; exact step_lt HV.out hxl (List.take_prefix _ _).subset
        have hole : out.length ≤ g.length := by rw [HOUT.out]; exact step_le HV.out hxl (List.take_prefix _ _).subset
        obtain ⟨p, hp⟩ : ∃ p, p = namesAt g out := ⟨_, rfl⟩
        have hps : p.size = out.length := by rw [hp, namesAt_size HV.out _ hol]
        rw [← hp]
        by_cases hjd : j < nx.size
        · obtain ⟨t, htl, hget, _, hnm⟩ := nxt_get HV.out hxl (k := j) (by rw [← HNX.out]; exact hjd)
          have hbyte : g[x].2[j]'(by rw [← HNX.out]; exact hjd) = nx[j] := by congr 1; exact HNX.out.symm
          rw [hbyte] at hnm
          have hidx := idx_namesAt HV.out hol htl hnm
          rw [← hp] at hidx
          have HT := Lib.hid (show stepL (bfs g k) ((nxt g x).take (j + 1)) = if t ∈ out then out else out ++ [t] by
            have hjl : j < (nxt g x).length := (List.getElem?_eq_some_iff.1 hget).1
            have e : (nxt g x)[j] = t := (List.getElem?_eq_some_iff.1 hget).2
            rw [List.take_succ_eq_append_getElem hjl, e, stepL_snoc, ← HOUT.out])
          have HPP := Lib.hid hp
          have HB3 := Lib.hid hB3
          have hz1 : p.size + (⟨#[]⟩ : ByteArray).size ≤ 1048576 := by have : (⟨#[]⟩ : ByteArray).size = 0 := rfl; omega
          have hj1 : j + 1 ≤ nx.size := by omega
          have HEX := Lib.hid (show nx.extract j (j + 1) = nthName g t by rw [ex_byte nx (a := j) (b := j + 1) (by omega) (by omega) (by omega), nthName_at htl, hnm])
          obtain ⟨z, hz⟩ : ∃ z, z = Lib.indexByte p.data.toList nx[j] := ⟨_, rfl⟩
          have HFC : Hid (∀ w, Calls Tryz.prog 60 #[.string (p ++ ⟨#[]⟩), .int .u8 nx[j].toNat] w fun e w' => e = .returned (.int .i64 z) ∧ w = w') := fun w => by
            rw [ba_append_empty, hz]; exact find_any p nx[j] w (by omega)
          rw [← hz] at hidx
          clear hp hbyte hnm hget hB3 hz
          by_cases hin : t ∈ out
          · have q2 : ¬ z < 0 := by have := hidx.2 hin; omega
            rw [if_pos hin] at HT
            clear hidx hin
            go_wp2_with fail
            refine (HFC.out _).mono ?_
            rintro e w4 ⟨rfl, rfl⟩
            go_wp2_with fail
            go_roundw
            case rel => exact ⟨j + 1, out, by omega, HT.out.symm, by rw [HPP.out], by go_num, HB3.out⟩
            case measure => simp [intOf]; omega
          · have q2 : z < 0 := by
              rcases Int.lt_or_le z 0 with h | h
              · exact h
              · exact absurd (hidx.1 h) hin
            rw [if_neg hin] at HT
            have hz2 : p.size + (nx.extract j (j + 1)).size ≤ 1048576 := by rw [HEX.out, nthName_at htl]; obtain ⟨c, hc, _⟩ := valid_one HV.out (List.getElem_mem htl); rw [hc]; show p.size + 1 ≤ _; omega
            have HNX2 := Lib.hid (show namesAt g (out ++ [t]) = p ++ nx.extract j (j + 1) by rw [namesAt_append, namesAt_one, HPP.out, HEX.out])
            clear hidx hin
            go_wp2_with fail
            refine (HFC.out _).mono ?_
            rintro e w4 ⟨rfl, rfl⟩
            go_wp2_with fail
            go_roundw
            case rel => exact ⟨j + 1, out ++ [t], by omega, HT.out.symm, by rw [HNX2.out], by go_num, HB3.out⟩
            case measure => simp [intOf]; omega
        · have hjn : j = nx.size := by omega
          have HBF := Lib.hid (show out = bfs g (k + 1) by rw [HOUT.out, bfs_step HLT.out, ← HX.out, List.take_of_length_le (by rw [nxt_length hxl, ← HNX.out]; omega)])
          have HPP := Lib.hid hp
          have HB3 := Lib.hid hB3
          have hkl2 : k + 1 ≤ out.length := by
            have h1 := (stepL_prefix ((nxt g x).take j) (bfs g k)).length_le
            rw [← HOUT.out] at h1; have := HLT.out; omega
          clear hp hB3
          go_wp2_with fail
          go_roundg (g.length - (k + 1))
          case measure => have := HLEN.out; have := HLT.out; omega
          case rel => exact ⟨k + 1, rfl, by rw [← HBF.out]; exact hkl2, by rw [HPP.out, HBF.out], by go_num, HB3.out⟩
    · have hke : k = (bfs g k).length := by omega
      have HR := Lib.hid (show o = namesAt g (reach g) by rw [ho, reach_done (g := g) (k := k) (by omega) (by omega)])
      have q1 : ¬ ((k : Int) < o.size) := by omega
      have HB := Lib.hid hB
      clear ho hke hB
      go_wp2_with fail
      go_ret
      exact ⟨ret_string HR.out, HB.out⟩
/-- Of some blocks, those that there are, in the order of the graph. -/
def srt (_g : List Bl) (l : List Nat) (k : Nat) : List Nat := (List.range k).filter fun i => decide (i ∈ l)

theorem srt_yes {g : List Bl} {l : List Nat} {k : Nat} (h : k ∈ l) : srt g l (k + 1) = srt g l k ++ [k] := by
  unfold srt; rw [List.range_succ, List.filter_append, List.filter_cons, if_pos (by simpa using h)]; rfl
theorem srt_no {g : List Bl} {l : List Nat} {k : Nat} (h : k ∉ l) : srt g l (k + 1) = srt g l k := by
  unfold srt; rw [List.range_succ, List.filter_append, List.filter_cons, if_neg (by simpa using h), List.filter_nil, List.append_nil]
theorem srt_lt {g : List Bl} {l : List Nat} {k : Nat} (hk : k ≤ g.length) : ∀ i ∈ srt g l k, i < g.length := by
  intro i hi
  have := List.mem_range.1 (List.mem_filter.1 hi).1
  omega
theorem srt_len (g : List Bl) (l : List Nat) (k : Nat) : (srt g l k).length ≤ k := by
  have := List.length_filter_le (fun i => decide (i ∈ l)) (List.range k)
  simpa [srt] using this

theorem one_get {c : UInt8} {s : ByteArray} (h : s = ⟨#[c]⟩) (h0 : 0 < s.size) : s[0]'h0 = c := by subst h; rfl

set_option maxRecDepth 100000 in
theorem l1Sorted_any (A : Option Addr) (cap : Nat) (g : List Bl) (l : List Nat) (s : ByteArray) (w : World) (hg : Gr w A g) (hn : g.length + tot g ≤ 1048576) (hv : validB g = true) (hl : ∀ i ∈ l, i < g.length) (hs : s = namesAt g l) (hsz : s.size ≤ 4611686018427387904) :
    Calls Tryz.prog 62 #[.slice A g.length cap, .string s] w fun e w' => e = .returned (.string (namesAt g (srt g l g.length))) ∧ Below w.heap.size w w' := by
  have HV := Lib.hid hv
  have HS := Lib.hid hs
  have HL := Lib.hid hl
  clear hv hs hl
  go_enter Tryz.func62, Tryz.ntmps62
  go_wp2_with fail
  go_loopw [5, 10] (fun o i wr => ∃ k : Nat, k ≤ g.length ∧ i = .int .i64 k ∧ o = .string (namesAt g (srt g l k)) ∧ Below w.heap.size w wr) (fun _ i _ => g.length - (intOf i).toNat)
  case atStart => exact ⟨0, Nat.zero_le _, rfl, rfl, Below.refl _ _⟩
  case round =>
    obtain ⟨k, hk, rfl, rfl, hB⟩ := hrel
    obtain ⟨o, ho⟩ : ∃ o, o = namesAt g (srt g l k) := ⟨_, rfl⟩
    have hos : o.size ≤ k := by rw [ho, namesAt_size HV.out _ (srt_lt hk)]; exact srt_len g l k
    rw [← ho]
    have HO := Lib.hid ho
    by_cases hlt : k < g.length
    · obtain ⟨b, off, t, t2, rfl, hb, hc0, hc1, he, he2⟩ := gr_at (hg.below hB) hlt
      obtain ⟨c, hc, _⟩ := valid_one HV.out (List.getElem_mem hlt)
      have htc : t = ⟨#[c]⟩ := he.symm.trans hc
      have ht1 : t.size = 1 := by rw [htc]; rfl
      have h0t : 0 < t.size := by omega
      have hidx := idx_namesAt HV.out HL.out hlt hc
      rw [← HS.out] at hidx
      obtain ⟨z, hz⟩ : ∃ z, z = Lib.indexByte s.data.toList c := ⟨_, rfl⟩
      rw [← hz] at hidx
      have HFC : Hid (∀ w, Calls Tryz.prog 60 #[.string s, .int .u8 (t[0]'h0t).toNat] w fun e w' => e = .returned (.int .i64 z) ∧ w = w') := fun w => by
        rw [hz, one_get htc h0t]; exact find_any s c w hsz
      have hB2 := hB.alloc hB.size (.cells #[.string t, .string t2] 46)
      have HB2 := Lib.hid hB2
      have HE := Lib.hid he
      have hst : o.size + t.size ≤ 1048576 := by omega
      clear he he2 hc htc hz ho hB2
      by_cases hin : k ∈ l
      · have q2 : 0 ≤ z := hidx.2 hin
        have HSR := Lib.hid (show namesAt g (srt g l (k + 1)) = o ++ t by rw [srt_yes hin, namesAt_append, namesAt_one, HO.out, nthName_at hlt, HE.out])
        clear hidx hin
        go_wp2_with fail
        refine (HFC.out _).mono ?_
        rintro e w4 ⟨rfl, rfl⟩
        go_wp2_with fail
        go_roundw
        case rel => exact ⟨k + 1, by omega, by go_num, by rw [HSR.out], HB2.out⟩
        case measure => simp [intOf]; omega
      · have q2 : ¬ 0 ≤ z := fun h => hin (hidx.1 h)
        have HSR := Lib.hid (show namesAt g (srt g l (k + 1)) = o by rw [srt_no hin, HO.out])
        clear hidx hin
        go_wp2_with fail
        refine (HFC.out _).mono ?_
        rintro e w4 ⟨rfl, rfl⟩
        go_wp2_with fail
        go_roundw
        case rel => exact ⟨k + 1, by omega, by go_num, by rw [HSR.out], HB2.out⟩
        case measure => simp [intOf]; omega
    · have HSR := Lib.hid (show o = namesAt g (srt g l g.length) by rw [HO.out]; congr 2; omega)
      have HB := Lib.hid hB
      clear ho hB
      go_wp2_with fail
      go_ret
      exact ⟨ret_string HSR.out, HB.out⟩

theorem reachS_srt (g : List Bl) : reachS g = srt g (reach g) g.length := rfl

set_option maxRecDepth 100000 in
theorem l1Reached_any (A : Option Addr) (cap : Nat) (g : List Bl) (w : World) (hg : Gr w A g) (hn : g.length + tot g ≤ 1048576) (hv : validB g = true) :
    Calls Tryz.prog 37 #[.slice A g.length cap] w fun e w' => e = .returned (.string (namesAt g (reachS g))) ∧ Below w.heap.size w w' := by
  have hpos := (valid_iff.1 hv).1
  obtain ⟨b, off, t, t2, hA, hb, hc0, hc1, he, he2⟩ := gr_at hg hpos
  have hc0' : w.cell? ⟨b, off, none⟩ = some (.string t) := by simpa using hc0
  have H1 := Lib.hid (l1From_any A cap g t w hg (by omega) hv (by rw [nthName_at hpos, he]))
  have H2 := Lib.hid (fun w h => l1Sorted_any A cap g (reach g) (namesAt g (reach g)) w h hn hv (fun i hi => reach_lt hv hi) rfl (by rw [namesAt_size hv _ (fun i hi => reach_lt hv hi)]; have := reach_len hv; omega))
  have HG := Lib.hid hg
  clear hc0 hc1 he he2 hg hv
  subst hA
  go_enter Tryz.func37, Tryz.ntmps37
  go_wp2_with fail
  refine H1.out.mono ?_
  rintro e w1 ⟨rfl, b1⟩
  go_wp2_with fail
  refine (H2.out w1 (HG.out.below b1)).mono ?_
  rintro e w2 ⟨rfl, b2⟩
  go_wp2_with fail
  go_ret
  exact ⟨ret_string (by rw [reachS_srt]), below_trans_self b1 b2⟩

/-- What ReachedOf returns. -/
def reachV (g : List Bl) : ByteArray := if validB g then namesAt g (reachS g) else ⟨#[]⟩
theorem reachV_yes {g : List Bl} (h : validB g = true) : reachV g = namesAt g (reachS g) := by unfold reachV; rw [h]; rfl
theorem reachV_no {g : List Bl} (h : validB g = false) : reachV g = ⟨#[]⟩ := by unfold reachV; rw [h]; rfl


end Go.Proofs.YtdpjdhllaokbfaaGreat
