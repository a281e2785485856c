/-
  The law FnLeastReached, walked.
-/
import Derived.Test.YtimgkjlhahapnabLaw
import Derived.Test.YtimgkjlhahapnabReachedOf
namespace Go.Proofs.Ytimgkjlhahapnab
open Go.RowKit Go.Sort

theorem hasB_names_iff {g : List Bl} (hv : validB g = true) {l : List Nat} (hl : ∀ i ∈ l, i < g.length) {s : ByteArray} : hasB (namesAt g l) s = true ↔ ∃ y ∈ l, nthName g y = s := by
  rw [hasB_iff]
  constructor
  · rintro ⟨k, hk, e⟩
    rw [namesAt_size hv l hl] at hk
    obtain ⟨h, e2⟩ := namesAt_cut hv hl hk
    exact ⟨l[k], List.getElem_mem hk, by rw [nthName_at h, ← e2, e]⟩
  · rintro ⟨y, hy, e⟩
    obtain ⟨k, hk, e2⟩ := List.getElem_of_mem hy
    obtain ⟨h, e3⟩ := namesAt_cut hv hl hk
    refine ⟨k, by rw [namesAt_size hv l hl]; exact hk, ?_⟩
    rw [e3, ← e, ← e2, nthName_at h]

theorem hasB_in {g : List Bl} (hv : validB g = true) {l : List Nat} (hl : ∀ i ∈ l, i < g.length) {t : Nat} (ht : t < g.length) : hasB (namesAt g l) (nthName g t) = decide (t ∈ l) := by
  rw [Bool.eq_iff_iff, hasB_names_iff hv hl, decide_eq_true_iff]
  constructor
  · rintro ⟨y, hy, e⟩
    have hyl := hl y hy
    rw [nthName_at hyl, nthName_at ht] at e
    rw [← name_inj hv hyl ht e]; exact hy
  · intro h; exact ⟨t, h, rfl⟩

theorem reachS_mem {g : List Bl} (hv : validB g = true) (i : Nat) : i ∈ reachS g ↔ i ∈ reach g := by
  rw [reachS_srt]; unfold srt
  rw [List.mem_filter, List.mem_range]
  constructor
  · rintro ⟨_, h⟩; simpa using h
  · intro h; exact ⟨reach_lt hv h, by simpa using h⟩

theorem reachS_nodup (g : List Bl) : (reachS g).Nodup := by
  rw [reachS_srt]; unfold srt
  exact List.Pairwise.filter _ List.nodup_range

theorem reachS_len {g : List Bl} (hv : validB g = true) : (reachS g).length = (reach g).length := by
  have h1 := List.Nodup.length_le_of_subset (reachS_nodup g) (fun i h => (reachS_mem hv i).1 h)
  have h2 := List.Nodup.length_le_of_subset (reach_nodup g) (fun i h => (reachS_mem hv i).2 h)
  omega

theorem reach_has {g : List Bl} (hv : validB g = true) (s : ByteArray) : hasB (namesAt g (reachS g)) s = hasB (namesAt g (reach g)) s := by
  rw [Bool.eq_iff_iff, hasB_names_iff hv (reachS_lt g), hasB_names_iff hv (fun i hi => reach_lt hv hi)]
  constructor
  · rintro ⟨y, hy, e⟩; exact ⟨y, (reachS_mem hv y).1 hy, e⟩
  · rintro ⟨y, hy, e⟩; exact ⟨y, (reachS_mem hv y).2 hy, e⟩

set_option maxRecDepth 100000 in
set_option maxHeartbeats 3200000 in
theorem leastReached_walk (A B : Option Addr) (la ca lb cb : Nat) (w : World) (hA : Bytes w A la) (hB : Bytes w B lb) (h1 : la ≤ ca) (h2 : lb ≤ cb) (h3 : ca ≤ 9223372036854775807) (h4 : cb ≤ 9223372036854775807) :
    Calls Try.prog 5 #[.slice A la ca, .slice B lb cb] w fun e w' => e = .returned (.bool true) ∧ Below w.heap.size w w' := by
  by_cases g1 : (1048576 : Int) < la
  · clear hA hB
    go_enter Try.func5, Try.ntmps5
    go_wp2_with fail
    go_ret
    exact ⟨rfl, Below.refl _ _⟩
  by_cases g2 : (1048576 : Int) < lb
  · clear hA hB
    go_enter Try.func5, Try.ntmps5
    go_wp2_with fail
    go_ret
    exact ⟨rfl, Below.refl _ _⟩
  have HA := Lib.hid (drawReachedOf_any A la ca w hA h1 h3)
  have HBY := Lib.hid hB
  have HD := Lib.hid (fun w h => drawNextOf_any B lb cb w h h2 h4)
  clear hA hB
  go_enter Try.func5, Try.ntmps5
  go_wp2_with fail
  refine HA.out.mono ?_
  intro e w1 hd1
  obtain ⟨A1, c1, g, rfl, hc1, gg, hn1, b1⟩ := drawn_of hd1
  have HBY1 := Lib.hid (HBY.out.below b1)
  have HB1 := Lib.hid b1
  have HNI := Lib.hid (fun w (h : Gr w A1 g) s => implNext_any A1 c1 g s w h (by omega))
  have hRI := fun w (h : Gr w A1 g) => implReached_any A1 c1 g w h (by omega)
  have hRS := fun w (h : Gr w A1 g) => specReached_any A1 c1 g w h (by omega) hc1
  clear hd1 b1
  by_cases hv : validB g = true
  · obtain ⟨r, hr⟩ : ∃ r, r = namesAt g (reachS g) := ⟨_, rfl⟩
    rw [hv, reachV_yes hv, ← hr] at hRI hRS
    have hpos := (valid_iff.1 hv).1
    have h26 := (valid_iff.1 hv).2.1
    have HR := Lib.hid hr
    have HV := Lib.hid hv
    have HRI := Lib.hid hRI
    have HRS := Lib.hid hRS
    clear hRI hRS hr hv
    go_wp2_with fail
    refine (HRI.out w1 gg).mono ?_
    rintro e w2 ⟨rfl, b2⟩
    have gg2 := gg.below b2
    have HB2 := Lib.hid (below_trans_self HB1.out b2)
    have HBY2 := Lib.hid (HBY1.out.below b2)
    clear b2
    go_wp2_with fail
    refine (HRS.out w2 gg2).mono ?_
    rintro e w3 ⟨rfl, b3⟩
    have gg3 := gg2.below b3
    have HB3 := Lib.hid (below_trans_self HB2.out b3)
    have HBY3 := Lib.hid (HBY2.out.below b3)
    clear b3
    go_wp2_with fail
    refine (HD.out w3 HBY3.out).mono ?_
    intro e w4 hd4
    obtain ⟨A2, c2, g', oth, rfl, _, _, _, ho2, b4⟩ := drawnPlace_of hd4
    have gg4 := gg3.below b4
    have HB4 := Lib.hid (below_trans_self HB3.out b4)
    obtain ⟨b, off, u, u2, hA1, hb, hc0, hc1', he, he2⟩ := gr_at gg4 hpos
    have HG := Lib.hid gg4
    have hu0 : w4.cell? ⟨b, off, none⟩ = some (.string u) := by simpa using hc0
    have HU := Lib.hid (show u = nthName g 0 by rw [nthName_at hpos, he])
    clear hd4 b4 hc0 hc1' he he2 gg4 gg gg2 gg3
    subst hA1
    go_wp2_with fail
    go_loopg [12, 13] g.length (fun gk s i wr => ∃ k, gk = g.length - k ∧ k ≤ (bfs g k).length ∧ s = .string (namesAt g (bfs g k)) ∧ i = .int .i64 k ∧ Below w4.heap.size w4 wr)
    case atStart => exact ⟨0, rfl, by simp, by rw [HU.out]; show _ = Value.string (namesAt g [0]); rw [namesAt_one], rfl, Below.refl _ _⟩
    case round =>
      obtain ⟨k, rfl, hkl, rfl, rfl, hB⟩ := hrel
      have hlen := bfs_len HV.out k
      obtain ⟨o, ho⟩ : ∃ o, o = namesAt g (bfs g k) := ⟨_, rfl⟩
      have hos : o.size = (bfs g k).length := by rw [ho, namesAt_size HV.out _ (bfs_lt HV.out k)]
      rw [← ho]
      by_cases hlt : k < (bfs g k).length
      · obtain ⟨x, hx⟩ : ∃ x, x = (bfs g k)[k] := ⟨_, rfl⟩
        have hxl : x < g.length := hx ▸ bfs_lt HV.out k _ (List.getElem_mem hlt)
        obtain ⟨_, hcut⟩ := namesAt_cut HV.out (bfs_lt HV.out k) hlt
        have hcut' : o.extract k (k + 1) = g[x].1 := by rw [ho, hcut]; congr 2; exact hx.symm
        have hN := HNI.out wr (HG.out.below hB) (o.extract k (k + 1))
        have hpk := posOf_name HV.out hxl
        have e1 : nextVal g (o.extract k (k + 1)) = g[x].2 := by rw [hcut']; exact nextVal_some HV.out hpk hxl
        have e2 : nextHas g (o.extract k (k + 1)) = true := by rw [hcut']; exact nextHas_some HV.out hpk
        obtain ⟨nx, hnx⟩ : ∃ nx, nx = g[x].2 := ⟨_, rfl⟩
        have hnl : nx.size ≤ 2 := hnx ▸ nxt_two' HV.out hxl
        rw [e1, e2, ← hnx] at hN
        have HN := Lib.hid hN
        have q1 : ((k : Int) < o.size) := by omega
        have hko : k + 1 ≤ o.size := by omega
        have HO := Lib.hid ho
        have HX := Lib.hid hx
        have HNX := Lib.hid hnx
        have HB := Lib.hid hB
        have HLT := Lib.hid hlt
        have HLEN := Lib.hid hlen
        clear ho hx hcut hcut' hnx hB hN e1 e2 hpk
        go_wp2_with fail
        refine HN.out.mono ?_
        rintro e v2 ⟨rfl, b2⟩
        have HB2' := Lib.hid (HB.out.trans (b2.mono HB.out.size))
        clear b2
        go_wp2_with fail
        go_loopw [12, 71] (fun s i wr => ∃ j out, j ≤ nx.size ∧ Hid (out = stepL (bfs g k) ((nxt g x).take j)) ∧ s = .string (namesAt g out) ∧ i = .int .i64 j ∧ Below w4.heap.size w4 wr) (fun _ i _ => nx.size - (intOf i).toNat)
        case atStart => exact ⟨0, bfs g k, Nat.zero_le _, rfl, by rw [HO.out], rfl, HB2'.out⟩
        case round =>
          obtain ⟨j, out, hj, HOUT, rfl, rfl, hB3⟩ := hrel
          have hol : ∀ y ∈ out, y < g.length := by rw [HOUT.out]; exact step_lt HV.out hxl (List.take_prefix _ _).subset
          have hole : out.length ≤ g.length := by rw [HOUT.out]; exact step_le HV.out hxl (List.take_prefix _ _).subset
          obtain ⟨p, hp⟩ : ∃ p, p = namesAt g out := ⟨_, rfl⟩
          have hps : p.size = out.length := by rw [hp, namesAt_size HV.out _ hol]
          rw [← hp]
          by_cases hjd : j < nx.size
          · obtain ⟨t, htl, hget, _, hnm⟩ := nxt_get HV.out hxl (k := j) (by rw [← HNX.out]; exact hjd)
            have hbyte : g[x].2[j]'(by rw [← HNX.out]; exact hjd) = nx[j] := by congr 1; exact HNX.out.symm
            rw [hbyte] at hnm
            have HT := Lib.hid (show stepL (bfs g k) ((nxt g x).take (j + 1)) = if t ∈ out then out else out ++ [t] by
              have hjl : j < (nxt g x).length := (List.getElem?_eq_some_iff.1 hget).1
              have e : (nxt g x)[j] = t := (List.getElem?_eq_some_iff.1 hget).2
              rw [List.take_succ_eq_append_getElem hjl, e, stepL_snoc, ← HOUT.out])
            have HPP := Lib.hid hp
            have HB3 := Lib.hid hB3
            have hj1 : j + 1 ≤ nx.size := by omega
            have HEX := Lib.hid (show nx.extract j (j + 1) = nthName g t by rw [ex_byte nx (a := j) (b := j + 1) (by omega) (by omega) (by omega), nthName_at htl, hnm])
            have hq : hasB p (nx.extract j (j + 1)) = decide (t ∈ out) := by rw [HEX.out, hp]; exact hasB_in HV.out hol htl
            have hSJ := fun w => sjHas_any p (nx.extract j (j + 1)) w (by omega)
            rw [hq] at hSJ
            have hz : (nx.extract j (j + 1)).size = 1 := by rw [ByteArray.size_extract]; omega
            clear hp hbyte hnm hget hB3 hq
            by_cases hin : t ∈ out
            · rw [decide_eq_true hin] at hSJ
              have HSJ := Lib.hid hSJ
              rw [if_pos hin] at HT
              clear hin hSJ
              go_wp2_with fail
              refine (HSJ.out _).mono ?_
              rintro e w4 ⟨rfl, rfl⟩
              go_wp2_with fail
              go_roundw
              case rel => exact ⟨j + 1, out, by omega, HT.out.symm, by rw [HPP.out], by go_num, HB3.out⟩
              case measure => simp [intOf]; omega
            · rw [decide_eq_false hin] at hSJ
              have HSJ := Lib.hid hSJ
              rw [if_neg hin] at HT
              have HNX2 := Lib.hid (show namesAt g (out ++ [t]) = p ++ nx.extract j (j + 1) by rw [namesAt_append, namesAt_one, HPP.out, HEX.out])
              have hz2 : p.size + (nx.extract j (j + 1)).size ≤ 1048576 := by omega
              clear hin hSJ
              go_wp2_with fail
              refine (HSJ.out _).mono ?_
              rintro e w4 ⟨rfl, rfl⟩
              go_wp2_with fail
              go_roundw
              case rel => exact ⟨j + 1, out ++ [t], by omega, HT.out.symm, by rw [HNX2.out], by go_num, HB3.out⟩
              case measure => simp [intOf]; omega
          · have hjn : j = nx.size := by omega
            have HBF := Lib.hid (show out = bfs g (k + 1) by rw [HOUT.out, bfs_step HLT.out, ← HX.out, List.take_of_length_le (by rw [nxt_length hxl, ← HNX.out]; omega)])
            have HPP := Lib.hid hp
            have HB3 := Lib.hid hB3
            have hkl2 : k + 1 ≤ out.length := by
              have h1 := (stepL_prefix ((nxt g x).take j) (bfs g k)).length_le
              rw [← HOUT.out] at h1; have := HLT.out; omega
            clear hp hB3
            go_wp2_with fail
            go_roundg (g.length - (k + 1))
            case measure => have := HLEN.out; have := HLT.out; omega
            case rel => exact ⟨k + 1, rfl, by rw [← HBF.out]; exact hkl2, by rw [HPP.out, HBF.out], by go_num, HB3.out⟩
      · have hke : k = (bfs g k).length := by omega
        have hR : o = namesAt g (reach g) := by rw [ho, reach_done (g := g) (k := k) (by omega) (by omega)]
        have q1 : ¬ ((k : Int) < o.size) := by omega
        have HB := Lib.hid (below_trans_self HB4.out hB)
        have hrs : r.size = (reachS g).length := by rw [HR.out, namesAt_size HV.out _ (reachS_lt g)]
        have hos2 : o.size = (reach g).length := by rw [hR, namesAt_size HV.out _ (fun i hi => reach_lt HV.out hi)]
        have hll := reachS_len HV.out
        have hrl := reach_len HV.out
        have q2 : ((o.size : Int) == r.size) = true := by simp; omega
        have hq : hasB r oth = hasB o oth := by rw [HR.out, hR]; exact reach_has HV.out oth
        have hS1 := fun w => sjHas_any r oth w (by omega)
        have hS2 := fun w => sjHas_any o oth w (by omega)
        rw [hq] at hS1
        obtain ⟨z, hz⟩ : ∃ z, z = hasB o oth := ⟨_, rfl⟩
        rw [← hz] at hS1 hS2
        have HS1 := Lib.hid hS1
        have HS2 := Lib.hid hS2
        have q3 : (z == z) = true := by simp
        clear ho hke hB hS1 hS2 hz hq hR
        go_wp2_with fail
        refine (HS1.out _).mono ?_
        rintro e w5 ⟨rfl, rfl⟩
        go_wp2_with fail
        refine (HS2.out _).mono ?_
        rintro e w6 ⟨rfl, rfl⟩
        go_wp2_with fail
        go_ret
        exact ⟨rfl, HB.out⟩
  · have hv' : validB g = false := by simpa using hv
    rw [hv', reachV_no hv'] at hRI hRS
    have HRI := Lib.hid hRI
    have HRS := Lib.hid hRS
    clear hRI hRS hv hv'
    go_wp2_with fail
    refine (HRI.out w1 gg).mono ?_
    rintro e w2 ⟨rfl, b2⟩
    have gg2 := gg.below b2
    have HB2 := Lib.hid (below_trans_self HB1.out b2)
    clear b2
    go_wp2_with fail
    refine (HRS.out w2 gg2).mono ?_
    rintro e w3 ⟨rfl, b3⟩
    go_wp2_with fail
    go_ret
    exact ⟨rfl, below_trans_self HB2.out b3⟩
end Go.Proofs.Ytimgkjlhahapnab
