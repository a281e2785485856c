/-
  The law FnTree, walked.
-/
import Derived.Test.YtklnhbfpmmdhjabGreatTreeCount
import Derived.Test.YtklnhbfpmmdhjabGreatTreeText
import Derived.Test.YtklnhbfpmmdhjabGreatDominatorsOf
import Derived.Test.YtklnhbfpmmdhjabGreatParentOf
import Derived.Test.YtklnhbfpmmdhjabGreatReachedOf
import Derived.Test.YtklnhbfpmmdhjabGreatLaw
namespace Go.Proofs.YtklnhbfpmmdhjabGreat
open Go.RowKit Go.Sort

/-- What the law says of one block's line, parent and children. -/
structure LineOK (g : List Bl) (nm ls pv ks : ByteArray) (po : Bool) : Prop where
  more : decide ((1 : Int) < ls.size) = po
  pos : 0 < ls.size
  small : ls.size ≤ 26
  last : ls.extract (ls.size - 1) ls.size = nm
  par : po = true → 2 ≤ ls.size ∧ ls.extract (ls.size - 2) ls.size = pv ++ nm ∧ pv.size = 1

theorem line_ok {g : List Bl} {nm : ByteArray} {n : Nat} (hl : liveOf g nm = some n) : LineOK g nm (domV g nm) (parV g nm) (kidsV g nm) (parO g nm) := by
  obtain ⟨hv, hnl, hnme, hnr⟩ := live_name hl
  have hlt : ∀ {n}, Rch g [] n → ∀ x ∈ domL g n, x < g.length := fun hn x hx => (((mem_domL hv hn).1 hx).live hn).lt hv
  have hz : (domV g nm).size = (domL g n).length := by rw [domV_some hl, namesAt_size hv _ (hlt hnr)]
  have h26 := (valid_iff.1 hv).2.1
  have hle := domL_len hv n
  have h1 := one_size hv hnl
  have hpo : parO g nm = (parL g n).isSome := by unfold parO; rw [hl]
  have hpv : parV g nm = parS g n := by unfold parV; rw [hl]
  have step := domL_step hv hnr
  cases hp : parL g n with
  | none =>
    rw [hp] at step
    have step' : domL g n = [n] := step
    have hd : domV g nm = nm := by rw [domV_some hl, step', namesAt_one, hnme]
    rw [hpo, hp, hd]
    have hs : nm.size = 1 := by rw [hnme]; exact h1
    refine ⟨by rw [hs]; rfl, by omega, by omega, ?_, fun h => by cases h⟩
    rw [hs]
    have := tail_of ⟨#[]⟩ nm
    rw [ba_empty_append] at this
    have e : (⟨#[]⟩ : ByteArray).size = 0 := rfl
    rw [e, hs] at this
    exact this
  | some p =>
    rw [hp] at step
    have step' : domL g n = domL g p ++ [n] := step
    have hpar := (parL_iff hv hnr).1 hp
    have hpr := hpar.2.1
    obtain ⟨l, hl'⟩ := domL_pos hv hpr
    have hd : domV g nm = namesAt g l ++ (nthName g p ++ nthName g n) := by
      rw [domV_some hl, step', hl', namesAt_append, namesAt_append, namesAt_one, namesAt_one, ba_append_assoc]
    have hp1 := one_size hv (hpr.lt hv)
    have hs : (domV g nm).size = (namesAt g l).size + 2 := by rw [hd, ByteArray.size_append, ByteArray.size_append, hp1, h1]
    have hpe : parV g nm = nthName g p := by rw [hpv, parS_some hp]
    rw [hpo, hp]
    refine ⟨decide_eq_true (by omega), by omega, by omega, ?_, fun _ => ⟨by omega, ?_, by rw [hpe]; exact hp1⟩⟩
    · have := tail_of (namesAt g l ++ nthName g p) (nthName g n)
      rw [ba_append_assoc, ← hd, ByteArray.size_append, hp1] at this
      rw [show (domV g nm).size - 1 = (namesAt g l).size + 1 by omega, this, hnme]
    · have := tail_of (namesAt g l) (nthName g p ++ nthName g n)
      rw [← hd] at this
      rw [show (domV g nm).size - 2 = (namesAt g l).size by omega, this, hpe, hnme]

/-- The line of a child. -/
theorem kid_line {g : List Bl} {nm : ByteArray} {n : Nat} (hl : liveOf g nm = some n) : ∀ k, k < (kidsV g nm).size →
    (kidsV g nm).size ≤ 26 ∧ domV g ((kidsV g nm).extract k (k + 1)) = domV g nm ++ (kidsV g nm).extract k (k + 1) ∧ ((kidsV g nm).extract k (k + 1)).size = 1 := by
  intro k hk
  obtain ⟨hv, hnl, hnme, hnr⟩ := live_name hl
  have hke : kidsV g nm = namesAt g (kidsL g n) := by unfold kidsV; rw [hl]
  have hz : (kidsV g nm).size = (kidsL g n).length := by rw [hke, namesAt_size hv _ (kids_lt hv)]
  have hkl : k < (kidsL g n).length := by omega
  obtain ⟨h, e⟩ := namesAt_cut hv (kids_lt hv) hkl
  have hc : (kidsL g n)[k] ∈ kidsL g n := List.getElem_mem hkl
  obtain ⟨hcr, hcp⟩ := (mem_kids hv).1 hc
  have hex : (kidsV g nm).extract k (k + 1) = nthName g (kidsL g n)[k] := by rw [hke, e, nthName_at h]
  have hlc : liveOf g (nthName g (kidsL g n)[k]) = some (kidsL g n)[k] := by rw [nthName_at h]; exact liveOf_some hv (posOf_name hv h) ((mem_reach hv).2 hcr)
  have h26 : (kidsL g n).length ≤ (reachS g).length := List.length_filter_le _ _
  have := reachS_small hv
  refine ⟨by omega, ?_, ?_⟩
  · rw [hex, domV_some hlc, domV_some hl, domL_par hv hcr hcp, namesAt_append, namesAt_one]
  · rw [hex]; exact one_size hv h

set_option maxRecDepth 100000 in
set_option maxHeartbeats 6400000 in
theorem tree_walk (A : Option Addr) (la ca : Nat) (w : World) (hA : Bytes w A la) (h1 : la ≤ ca) (h3 : ca ≤ 9223372036854775807) :
    Calls Tryz.prog 5 #[.slice A la ca] w fun e w' => e = .returned (.bool true) ∧ Below w.heap.size w w' := by
  by_cases g1 : (1048576 : Int) < la
  · clear hA
    go_enter Tryz.func5, Tryz.ntmps5
    go_wp2_with fail
    go_ret
    exact ⟨rfl, Below.refl _ _⟩
  have HA := Lib.hid (drawParentOf_any A la ca w hA h1 h3)
  clear hA
  go_enter Tryz.func5, Tryz.ntmps5
  go_wp2_with fail
  refine HA.out.mono ?_
  intro e w1 hd1
  obtain ⟨A1, c1, g, nm, rfl, hc1, gg, hn1, hnm, b1⟩ := drawnPlace_of hd1
  have HB1 := Lib.hid b1
  have HG1 := Lib.hid gg
  clear hd1 b1 gg
  obtain ⟨ls, hls⟩ : ∃ x, x = domV g nm := ⟨_, rfl⟩
  obtain ⟨lo, hlo⟩ : ∃ x, x = liveB g nm := ⟨_, rfl⟩
  obtain ⟨pv, hpv⟩ : ∃ x, x = parV g nm := ⟨_, rfl⟩
  obtain ⟨po, hpo⟩ : ∃ x, x = parO g nm := ⟨_, rfl⟩
  obtain ⟨ks, hks⟩ : ∃ x, x = kidsV g nm := ⟨_, rfl⟩
  obtain ⟨tr, htr⟩ : ∃ x, x = treeV g := ⟨_, rfl⟩
  obtain ⟨vb, hvb⟩ : ∃ x, x = validB g := ⟨_, rfl⟩
  have HDI := Lib.hid (fun W (h : Gr W A1 g) => (hls ▸ hlo ▸ implDominators_any A1 c1 g nm W h (by omega) : Calls Tryz.prog 28 #[.slice A1 g.length c1, .string nm] W fun e w' => e = .returned (.tuple #[.string ls, .bool lo]) ∧ Below W.heap.size W w'))
  have HDS := Lib.hid (fun W (h : Gr W A1 g) => (hls ▸ hlo ▸ specDominators_any A1 c1 g nm W h (by omega) hc1 : Calls Tryz.prog 32 #[.slice A1 g.length c1, .string nm] W fun e w' => e = .returned (.tuple #[.string ls, .bool lo]) ∧ Below W.heap.size W w'))
  have HDA := Lib.hid (fun W (h : Gr W A1 g) s => (implDominators_any A1 c1 g s W h (by omega) : Calls Tryz.prog 28 #[.slice A1 g.length c1, .string s] W fun e w' => e = .returned (.tuple #[.string (domV g s), .bool (liveB g s)]) ∧ Below W.heap.size W w'))
  have HPI := Lib.hid (fun W (h : Gr W A1 g) => (hpv ▸ hpo ▸ implParent_any A1 c1 g nm W h (by omega) : Calls Tryz.prog 33 #[.slice A1 g.length c1, .string nm] W fun e w' => e = .returned (.tuple #[.string pv, .bool po]) ∧ Below W.heap.size W w'))
  have HPS := Lib.hid (fun W (h : Gr W A1 g) => (hpv ▸ hpo ▸ specParent_any A1 c1 g nm W h (by omega) hc1 : Calls Tryz.prog 34 #[.slice A1 g.length c1, .string nm] W fun e w' => e = .returned (.tuple #[.string pv, .bool po]) ∧ Below W.heap.size W w'))
  have HKI := Lib.hid (fun W (h : Gr W A1 g) => (hks ▸ hlo ▸ implChildren_any A1 c1 g nm W h (by omega) : Calls Tryz.prog 35 #[.slice A1 g.length c1, .string nm] W fun e w' => e = .returned (.tuple #[.string ks, .bool lo]) ∧ Below W.heap.size W w'))
  have HKS := Lib.hid (fun W (h : Gr W A1 g) => (hks ▸ hlo ▸ specChildren_any A1 c1 g nm W h (by omega) hc1 : Calls Tryz.prog 36 #[.slice A1 g.length c1, .string nm] W fun e w' => e = .returned (.tuple #[.string ks, .bool lo]) ∧ Below W.heap.size W w'))
  have HTI := Lib.hid (fun W (h : Gr W A1 g) => (htr ▸ hvb ▸ implTree_any A1 c1 g W h (by omega) : Calls Tryz.prog 37 #[.slice A1 g.length c1] W fun e w' => e = .returned (.tuple #[.string tr, .bool vb]) ∧ Below W.heap.size W w'))
  have HTS := Lib.hid (fun W (h : Gr W A1 g) => (htr ▸ hvb ▸ specTree_any A1 c1 g W h (by omega) hc1 : Calls Tryz.prog 38 #[.slice A1 g.length c1] W fun e w' => e = .returned (.tuple #[.string tr, .bool vb]) ∧ Below W.heap.size W w'))
  have HVI := Lib.hid (fun W (h : Gr W A1 g) => (hvb ▸ implValid_any A1 c1 g W h (by omega) : Calls Tryz.prog 39 #[.slice A1 g.length c1] W fun e w' => e = .returned (.bool vb) ∧ Below W.heap.size W w'))
  have HRI := Lib.hid (fun W (h : Gr W A1 g) => implReached_any A1 c1 g W h (by omega))
  have HLS := Lib.hid hls
  have HLO := Lib.hid hlo
  have HPV := Lib.hid hpv
  have HPO := Lib.hid hpo
  have HKV := Lib.hid hks
  have HTV := Lib.hid htr
  have HVB := Lib.hid hvb
  clear hls hlo hpv hpo hks htr hvb
  go_wp2_with fail
  refine (HDI.out w1 HG1.out).mono ?_
  rintro e w2 ⟨rfl, b2⟩
  have HG2 := Lib.hid (HG1.out.below b2)
  have HB2 := Lib.hid (below_trans_self HB1.out b2)
  clear b2
  go_wp2_with fail
  refine (HDS.out w2 HG2.out).mono ?_
  rintro e w3 ⟨rfl, b3⟩
  have HG3 := Lib.hid (HG2.out.below b3)
  have HB3 := Lib.hid (below_trans_self HB2.out b3)
  clear b3
  go_wp2_with fail
  refine (HPI.out w3 HG3.out).mono ?_
  rintro e w4 ⟨rfl, b4⟩
  have HG4 := Lib.hid (HG3.out.below b4)
  have HB4 := Lib.hid (below_trans_self HB3.out b4)
  clear b4
  go_wp2_with fail
  refine (HPS.out w4 HG4.out).mono ?_
  rintro e w5 ⟨rfl, b5⟩
  have HG5 := Lib.hid (HG4.out.below b5)
  have HB5 := Lib.hid (below_trans_self HB4.out b5)
  clear b5
  go_wp2_with fail
  refine (HKI.out w5 HG5.out).mono ?_
  rintro e w6 ⟨rfl, b6⟩
  have HG6 := Lib.hid (HG5.out.below b6)
  have HB6 := Lib.hid (below_trans_self HB5.out b6)
  clear b6
  go_wp2_with fail
  refine (HKS.out w6 HG6.out).mono ?_
  rintro e w7 ⟨rfl, b7⟩
  have HG7 := Lib.hid (HG6.out.below b7)
  have HB7 := Lib.hid (below_trans_self HB6.out b7)
  clear b7
  go_wp2_with fail
  refine (HTI.out w7 HG7.out).mono ?_
  rintro e w8 ⟨rfl, b8⟩
  have HG8 := Lib.hid (HG7.out.below b8)
  have HB8 := Lib.hid (below_trans_self HB7.out b8)
  clear b8
  go_wp2_with fail
  refine (HTS.out w8 HG8.out).mono ?_
  rintro e w9 ⟨rfl, b9⟩
  have HG9 := Lib.hid (HG8.out.below b9)
  have HB9 := Lib.hid (below_trans_self HB8.out b9)
  clear b9
  have t1 : (ls.toList == ls.toList) = true := by simp
  have t2 : (pv.toList == pv.toList) = true := by simp
  have t3 : (ks.toList == ks.toList) = true := by simp
  have t4 : (tr.toList == tr.toList) = true := by simp
  have v1 : (po == po) = true := by simp
  have v2 : (po != po) = false := by simp
  have v3 : (vb == vb) = true := by simp
  have v4 : (vb != vb) = false := by simp
  cases lo with
  | false =>
    go_wp2_with fail
    refine (HVI.out w9 HG9.out).mono ?_
    rintro e w10 ⟨rfl, b10⟩
    have HG10 := Lib.hid (HG9.out.below b10)
    have HB10 := Lib.hid (below_trans_self HB9.out b10)
    clear b10
    go_wp2_with fail
    refine (HVI.out w10 HG10.out).mono ?_
    rintro e w11 ⟨rfl, b11⟩
    go_wp2_with fail
    go_ret
    exact ⟨rfl, below_trans_self HB10.out b11⟩
  | true =>
    obtain ⟨n, hl⟩ : ∃ n, liveOf g nm = some n := by
      have := HLO.out
      unfold liveB at this
      cases h : liveOf g nm with
      | none => rw [h] at this; cases this
      | some n => exact ⟨n, rfl⟩
    obtain ⟨hv, hnl, hnme, hnr⟩ := live_name hl
    have h26 := (valid_iff.1 hv).2.1
    have hok := line_ok hl
    rw [← HLS.out, ← HPV.out, ← HKV.out, ← HPO.out] at hok
    have hkid := kid_line hl
    rw [← HKV.out, ← HLS.out] at hkid
    have hks26 : ks.size ≤ 26 := by
      rcases Nat.eq_zero_or_pos ks.size with h | h
      · omega
      · exact (hkid 0 h).1
    have hnm1 : nm.size = 1 := by rw [hnme]; exact one_size hv hnl
    have hcnt : letN tr = (reachS g).length := by rw [HTV.out]; exact tree_count hv
    have htz : tr.size ≤ 1000 := by
      rw [HTV.out, treeV_yes hv]
      have := treeT_small hv (m := g.length) (n := 0) (.start (by simp)); omega
    obtain ⟨rs, hrs⟩ : ∃ x, x = reachV g := ⟨_, rfl⟩
    have hrz : rs.size = (reachS g).length := by rw [hrs, reachV_yes hv]; exact namesAt_size hv _ (reachS_lt g)
    have hrc := HRI.out
    rw [← hrs, hv] at hrc
    have HRC := Lib.hid hrc
    have HKID := Lib.hid hkid
    have HCNT := Lib.hid (hcnt.trans hrz.symm)
    have hpos := hok.pos
    have hz26 := hok.small
    have p1 : ((ls.extract (ls.size - 1) ls.size).toList == nm.toList) = true := by rw [hok.last]; simp
    have e1 : ((ls.size : Int) - 1).toNat = ls.size - 1 := by omega
    have p1' : ((ls.extract ((ls.size : Int) - 1).toNat ls.size).toList == nm.toList) = true := by rw [e1]; exact p1
    have m1 := hok.more
    have HPAR := Lib.hid hok.par
    have HZ := Lib.hid hrz
    have hr26 : rs.size ≤ 26 := by have := reachS_small hv; omega
    clear hl hv hnme hnr hok hkid hcnt hrs hrz hrc e1
    have hdo : ∀ W, Gr W A1 g → ∀ k, k < ks.size → Calls Tryz.prog 28 #[.slice A1 g.length c1, .string (ks.extract k (k + 1))] W fun e w' => e = .returned (.tuple #[.string (ls ++ ks.extract k (k + 1)), .bool (liveB g (ks.extract k (k + 1)))]) ∧ Below W.heap.size W w' := fun W h k hk => by
      have := HDA.out W h (ks.extract k (k + 1))
      rw [(HKID.out k hk).2.1] at this
      exact this
    have HDK := Lib.hid hdo
    clear hdo
    have hp3 : po = false ∨ (po = true ∧ 2 ≤ ls.size ∧ ls.extract (ls.size - 2) ls.size = pv ++ nm ∧ pv.size = 1) := by
      cases hpo : po with
      | false => exact .inl rfl
      | true => exact .inr ⟨rfl, HPAR.out hpo⟩
    rcases hp3 with rfl | ⟨rfl, z2, z3, z4⟩
    rotate_left
    have p2 : ((ls.extract (ls.size - 2) ls.size).toList == (pv ++ nm).toList) = true := by rw [z3]; simp
    have e2 : ((ls.size : Int) - 2).toNat = ls.size - 2 := by omega
    have p2' : ((ls.extract ((ls.size : Int) - 2).toNat ls.size).toList == (pv ++ nm).toList) = true := by rw [e2]; exact p2
    have hsz : pv.size + nm.size ≤ 1048576 := by omega
    clear z3 e2 z4
    all_goals
      go_wp2_with fail
      refine (HVI.out w9 HG9.out).mono ?_
      rintro e w10 ⟨rfl, b10⟩
      have HG10 := Lib.hid (HG9.out.below b10)
      have HB10 := Lib.hid (below_trans_self HB9.out b10)
      clear b10
      go_wp2_with fail
      go_loopw [204] (fun iv wr => ∃ (k : Nat), k ≤ ks.size ∧ iv = .int .i64 k ∧ Below w10.heap.size w10 wr) (fun iv _ => ks.size - (intOf iv).toNat)
      case atStart => exact ⟨0, Nat.zero_le _, rfl, Below.refl _ _⟩
      case round =>
        obtain ⟨k, hk, rfl, hB⟩ := hrel
        have HGR := Lib.hid (HG10.out.below hB)
        have HBR := Lib.hid hB
        clear hB
        by_cases hlt : k < ks.size
        · have hk1 : k + 1 ≤ ks.size := by omega
          have hk2 := (HKID.out k hlt).2.2
          have HD := Lib.hid (HDK.out wr HGR.out k hlt)
          have q1 : ((ls ++ ks.extract k (k + 1)).toList == (ls ++ ks.extract k (k + 1)).toList) = true := by simp
          have hsz2 : ls.size + (ks.extract k (k + 1)).size ≤ 1048576 := by omega
          clear hk2
          go_wp2_with fail
          refine HD.out.mono ?_
          rintro e w11 ⟨rfl, b11⟩
          have HB11 := Lib.hid (HBR.out.trans (b11.mono HBR.out.size))
          clear b11
          go_wp2_with fail
          go_roundw
          case rel => exact ⟨k + 1, by omega, by go_num, HB11.out⟩
          case measure => simp [intOf]; omega
        · have HR := Lib.hid (HRC.out wr HGR.out)
          go_wp2_with fail
          refine HR.out.mono ?_
          rintro e w11 ⟨rfl, b11⟩
          have HB11 := Lib.hid (below_trans_self HB10.out (HBR.out.trans (b11.mono HBR.out.size)))
          clear b11
          go_wp2_with fail
          go_loop [26, 234] (fun cv iv => ∃ (j : Nat), j ≤ tr.size ∧ iv = .int .i64 j ∧ cv = .int .i64 (letTo tr j)) (fun _ iv => tr.size - (intOf iv).toNat)
          case atStart => exact ⟨0, Nat.zero_le _, rfl, rfl⟩
          case round =>
            obtain ⟨j, hj, rfl, rfl⟩ := hrel
            have hle := letTo_le tr j
            by_cases hjt : j < tr.size
            · have hnx := letTo_next hjt
              by_cases hl1 : 65 ≤ (tr[j].toNat : Int)
              · by_cases hl2 : (tr[j].toNat : Int) ≤ 90
                · have HN := Lib.hid (show letTo tr (j + 1) = letTo tr j + 1 by
                    rw [hnx, if_pos]
                    unfold letB
                    rw [decide_eq_true (by omega : 65 ≤ tr[j].toNat), decide_eq_true (by omega : tr[j].toNat ≤ 90)]; rfl)
                  clear hnx
                  go_wp2_with fail
                  go_round
                  case rel => exact ⟨j + 1, by omega, by go_num, by rw [HN.out]; go_num⟩
                  case measure => simp [intOf]; omega
                · have HN := Lib.hid (show letTo tr (j + 1) = letTo tr j by
                    rw [hnx, if_neg]; · rfl
                    unfold letB
                    rw [decide_eq_false (by omega : ¬ tr[j].toNat ≤ 90), Bool.and_false]; simp)
                  clear hnx
                  go_wp2_with fail
                  go_round
                  case rel => exact ⟨j + 1, by omega, by go_num, by rw [HN.out]⟩
                  case measure => simp [intOf]; omega
              · have HN := Lib.hid (show letTo tr (j + 1) = letTo tr j by
                  rw [hnx, if_neg]; · rfl
                  unfold letB
                  rw [decide_eq_false (by omega : ¬ 65 ≤ tr[j].toNat), Bool.false_and]; simp)
                clear hnx
                go_wp2_with fail
                go_round
                case rel => exact ⟨j + 1, by omega, by go_num, by rw [HN.out]⟩
                case measure => simp [intOf]; omega
            · have HE := Lib.hid (show (letTo tr j : Int) = rs.size by
                have : j = tr.size := by omega
                rw [this, letTo_all, HCNT.out])
              go_wp2_with fail
              go_ret
              exact ⟨ret_bool (by rw [HE.out]; simp), HB11.out⟩
end Go.Proofs.YtklnhbfpmmdhjabGreat
