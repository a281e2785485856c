/-
  Contract of the model's search for the best choices that avoid a block.
-/
import Derived.Test.YtklnhbfpmmdhjabGreatL2Best
import Derived.Test.YtklnhbfpmmdhjabGreatDomSpec
namespace Go.Proofs.YtklnhbfpmmdhjabGreat
open Go.RowKit Go.Sort

set_option maxRecDepth 100000 in
set_option maxHeartbeats 2000000 in
theorem l3Ways_any (A : Option Addr) (cap : Nat) (g : List Bl) (wo : ByteArray) (a : Nat) (w : World) (hg : Gr w A g) (hn : g.length ≤ 1048576) (hv : validB g = true) (ha : a < g.length) (hwo : wo = nthName g a) :
    Calls Tryz.prog 87 #[.slice A g.length cap, .string wo] w (BestPost g [a] w) := by
  have hpos := (valid_iff.1 hv).1
  have h26 := (valid_iff.1 hv).2.1
  have hm1 := run_make_row' (P := Tryz.prog) 40 9 (.string ⟨#[]⟩) 16 Tryz.underlying40 info_str rfl .i64 .i64 g.length (by omega) (by omega)
  have hm2 := run_make_row' (P := Tryz.prog) 83 4 (.bool false) 1 Tryz.underlying83 info_bool rfl .i64 .i64 g.length (by omega) (by omega)
  have HV := Lib.hid hv
  have HWO := Lib.hid hwo
  have HA := Lib.hid ha
  obtain ⟨b0, off0, t0, t02, rfl, hb0, hc00, hc01, he0, _⟩ := gr_at hg hpos
  have HG := Lib.hid hg
  have hx00 : w.cell? ⟨b0, off0, none⟩ = some (.string t0) := by simpa using hc00
  obtain ⟨z, hz⟩ : ∃ z, z = decide (a = 0) := ⟨_, rfl⟩
  have HQ0 : Hid ((t0.toList == wo.toList) = z) := by
    show (t0.toList == wo.toList) = z
    rw [hz, ← he0, HWO.out, nthName_at HA.out]
    by_cases h : a = 0
    · subst h; rw [decide_eq_true rfl]; simp
    · rw [decide_eq_false h]
      cases hq : (g[0].1.toList == g[a].1.toList) with
      | false => rfl
      | true => exact absurd (name_inj hv hpos ha (beq_toList.1 hq)).symm h
  have HZ : Hid (decide (0 ∉ [a]) = !z) := by
    show decide (0 ∉ [a]) = !z
    rw [hz]
    by_cases h : a = 0
    · simp [h]
    · simp [h, Ne.symm h]
  clear hv hg hwo hc00 hc01 he0 hz
  go_enter Tryz.func87, Tryz.ntmps87
  go_upto_region 2 with fail
  go_cut [6, 7] (fun s4 s5 wx => ∃ WB TB : Nat, s4 = .slice (some ⟨WB, 0, none⟩) g.length g.length ∧ s5 = .slice (some ⟨TB, 0, none⟩) g.length g.length ∧ Blk wx WB 9 (waysC (fun _ => none) g.length) ∧ Blk wx TB 4 (thereC (fun _ => none) g.length) ∧ Below w.heap.size w wx ∧ w.heap.size ≤ WB ∧ w.heap.size ≤ TB)
  case first =>
    go_region
    all_goals (go_wp2_with fail; go_meet)
    case rel => exact ⟨_, _, rfl, rfl, by rw [← waysC_zero]; exact ((Blk.new w _ _).alloc _).drew, by rw [← thereC_zero]; have h := Blk.new (w.alloc (.cells (madeCells #[.string ⟨#[]⟩] g.length) 9)) 4 (madeCells #[.bool false] g.length); rw [World.size_alloc] at h; exact h.drew, (((Below.refl _ w).alloc (Nat.le_refl _) _).alloc (by simp) _).drew, Nat.le_refl _, by simp⟩
    case rel => exact ⟨_, _, rfl, rfl, by rw [← waysC_zero]; have h := Blk.new (w.alloc (.cells (madeCells #[.bool false] g.length) 4)) 9 (madeCells #[.string ⟨#[]⟩] g.length); rw [World.size_alloc] at h; exact h.drew, by rw [← thereC_zero]; exact ((Blk.new w _ _).alloc _).drew, (((Below.refl _ w).alloc (Nat.le_refl _) _).alloc (by simp) _).drew, by simp, Nat.le_refl _⟩
  case rest =>
    obtain ⟨WB, TB, rfl, rfl, hW, hT, hB, hWl, hTl⟩ := hcut
    have hne : WB ≠ TB := blk_ne hW hT (by decide)
    have hx0 := hT.cell 0
    rw [thereC_get _ (by omega)] at hx0
    have hf0 := hT.frozen 0
    have HW := Lib.hid hW
    have HT := Lib.hid hT
    have HB := Lib.hid hB
    have q0 := HQ0.out
    have x00 := (hB.cell (p := ⟨b0, off0, none⟩) hb0).trans hx00
    clear hW hT hB hx00
    clear hm1 hm2
    go_wp2_with fail
    have HW1 := Lib.hid (show Blk (wc.setCell ⟨TB, 0, none⟩ (.bool (!z))) WB 9 (waysC (beginS [a]) g.length) by
      rw [waysC_begin]; exact (Below.heap_setCell _ _ _ _ hne).trans HW.out)
    have HT1 := Lib.hid (show Blk (wc.setCell ⟨TB, 0, none⟩ (.bool (!z))) TB 4 (thereC (beginS [a]) g.length) by
      rw [thereC_begin, HZ.out]; exact HT.out.set_ 0 (.bool (!z)))
    have HB1 := Lib.hid (HB.out.setCell (p := ⟨TB, 0, none⟩) hTl (.bool (!z)))
    clear HW HT HB hx0 hf0 q0 x00
    go_loopg [8] (2 * pot (beginS [a]) g.length + 1) (fun gk s6 wr => ∃ σ b, gk = 2 * pot σ g.length + (if b then 1 else 0) ∧ s6 = .bool b ∧ Sound g [a] σ ∧ (b = false → Final g [a] σ) ∧ Blk wr WB 9 (waysC σ g.length) ∧ Blk wr TB 4 (thereC σ g.length) ∧ Below w.heap.size w wr)
    case atStart => exact ⟨_, true, rfl, rfl, Sound.begin HV.out [a], (fun h => absurd h (by decide)), HW1.out, HT1.out, HB1.out⟩
    case round =>
      obtain ⟨σ0, b, rfl, rfl, hS, hF, hW, hT, hB⟩ := hrel
      have HS := Lib.hid hS
      have HF := Lib.hid hF
      have HW := Lib.hid hW
      have HT := Lib.hid hT
      have HB := Lib.hid hB
      clear hS hF hW hT hB HW1 HT1 HB1
      cases b with
      | false =>
        go_wp2_with fail
        go_ret2
        exact ⟨WB, TB, σ0, rfl, HW.out, HT.out, by first | exact HF.out rfl | exact HF.out trivial, HB.out⟩
      | true =>
        go_wp2_with fail
        go_loopg [8, 31] g.length (fun gk s6 i wr => ∃ k σ b, gk = g.length - k ∧ k ≤ g.length ∧ i = .int .i64 (k : Nat) ∧ s6 = .bool b ∧ Pass g [a] σ0 σ b k 0 ∧ Blk wr WB 9 (waysC σ g.length) ∧ Blk wr TB 4 (thereC σ g.length) ∧ Below w.heap.size w wr)
        case atStart => exact ⟨0, σ0, false, rfl, Nat.zero_le _, rfl, rfl, Pass.start HS.out, HW.out, HT.out, HB.out⟩
        case round =>
          obtain ⟨k, σ1, b1, rfl, hk, rfl, rfl, hP, hW, hT, hB⟩ := hrel
          have HP := Lib.hid hP
          have HW1 := Lib.hid hW
          have HT1 := Lib.hid hT
          have HB1 := Lib.hid hB
          clear hP hW hT
          by_cases hlt : k < g.length
          · obtain ⟨b, off, t, nx, hbo, hb, hc0, hc1, he, he2⟩ := gr_at (HG.out.below hB) hlt
            simp only [Option.some.injEq, Addr.mk.injEq, and_true] at hbo
            obtain ⟨rfl, rfl⟩ := hbo
            have HE := Lib.hid he2
            have hnl : nx.size ≤ 2 := by rw [← he2]; exact (nextB_iff.1 (nextsB_iff.1 (valid_iff.1 HV.out).2.2.2 k hlt)).1
            have HGB := Lib.hid hB
            clear he he2 hB
            go_wp2_with fail
            obtain ⟨W2, hW2⟩ : ∃ W2, wr.alloc (.cells #[.string t, .string nx] 56) = W2 := ⟨_, rfl⟩
            have HBB := Lib.hid (show Blk W2 wr.heap.size 56 #[.string t, .string nx] by rw [← hW2]; exact Blk.new _ _ _)
            have HW2 := Lib.hid (show Blk W2 WB 9 (waysC σ1 g.length) by rw [← hW2]; exact HW1.out.alloc _)
            have HT2 := Lib.hid (show Blk W2 TB 4 (thereC σ1 g.length) by rw [← hW2]; exact HT1.out.alloc _)
            have HB2 := Lib.hid (show Below w.heap.size w W2 by rw [← hW2]; exact HGB.out.alloc HGB.out.size _)
            have HBL := Lib.hid (show w.heap.size ≤ wr.heap.size from HGB.out.size)
            obtain ⟨BB, hBB⟩ : ∃ BB, BB = wr.heap.size := ⟨_, rfl⟩
            rw [hW2]
            rw [← hBB] at HBB HBL ⊢
            clear hW2 hBB HW1 HT1 HGB hc0 hc1
            go_loopg [8, 39] nx.size (fun gk s6 j wr => ∃ m σ b, gk = nx.size - m ∧ m ≤ nx.size ∧ j = .int .i64 (m : Nat) ∧ s6 = .bool b ∧ Pass g [a] σ0 σ b k m ∧ Blk wr WB 9 (waysC σ g.length) ∧ Blk wr TB 4 (thereC σ g.length) ∧ Below w.heap.size w wr ∧ Blk wr BB 56 #[.string t, .string nx])
            case atStart => exact ⟨0, σ1, b1, rfl, Nat.zero_le _, rfl, rfl, HP.out, HW2.out, HT2.out, HB2.out, HBB.out⟩
            case round =>
              obtain ⟨m, σ, b2, rfl, hm, rfl, rfl, hP, hW, hT, hB, hBk⟩ := hrel
              have HP2 := Lib.hid hP
              have HW3 := Lib.hid hW
              have HT3 := Lib.hid hT
              have HB3 := Lib.hid hB
              have HK3 := Lib.hid hBk
              by_cases hml : m < nx.size
              · have hxk : m < g[k].2.size := by rw [HE.out]; exact hml
                obtain ⟨d, htl, hget, hpos', hnm⟩ := nxt_get HV.out hlt hxk
                have hnlen : (nxt g k).length = nx.size := by rw [nxt_length hlt, HE.out]
                have hbyte : g[k].2[m]'hxk = nx[m] := by congr 1
                rw [hbyte] at hpos' hnm
                have hex : nx.extract m (m + 1) = ⟨#[nx[m]]⟩ := ex_byte nx (a := m) (b := m + 1) (by omega) (by omega) (by omega)
                have HIX : Hid (∀ w', Below w.heap.size w w' → Calls Tryz.prog 88 #[.slice (some ⟨b0, off0, none⟩) g.length cap, .string (nx.extract m (m + 1))] w' fun e w'' => e = .returned (.int .i64 (d : Nat)) ∧ Below w'.heap.size w' w'') := fun w' hb' => by
                  have := index_any (some ⟨b0, off0, none⟩) cap g (nx.extract m (m + 1)) w' (HG.out.below hb') hn
                  rw [hex, hpos'] at this
                  rw [hex]; exact this
                have x1 := hBk.cell 1
                obtain ⟨x, hx⟩ : ∃ x, x = atS σ k := ⟨_, rfl⟩
                have hxz : x.size ≤ 26 := by
                  rw [hx]
                  cases hs : σ k with
                  | none => rw [atS_none hs]; exact Nat.zero_le _
                  | some s => rw [atS_some hs]; have := (hP.sound.small h26 hs).2; omega
                have cW : wr.cell? ⟨WB, k, none⟩ = some (.string x) := by rw [hx]; exact (hW.cell k).trans (waysC_get _ hlt)
                have hez : ((⟨#[108, 114]⟩ : ByteArray).extract m (m + 1)).size ≤ 2 := by rw [ByteArray.size_extract]; exact Nat.le_trans (Nat.sub_le _ _) (Nat.min_le_right _ _)
                have hcat : x.size + ((⟨#[108, 114]⟩ : ByteArray).extract m (m + 1)).size ≤ 1048576 := by omega
                have m1 : m + 1 ≤ nx.size := by omega
                have m2 : m < 2 := by omega
                have HGET := Lib.hid hget
                have HNL := Lib.hid hnlen
                have HX := Lib.hid hx
                have HAY : Hid (d ∈ [a] → ((nx.extract m (m + 1)).toList == wo.toList) = true) := fun h => by
                  have e : d = a := by simpa using h
                  rw [hex, ← hnm, HWO.out, nthName_at HA.out]; subst e; simp
                have HAN : Hid (d ∉ [a] → ((nx.extract m (m + 1)).toList == wo.toList) = false) := fun h => by
                  cases hq : ((nx.extract m (m + 1)).toList == wo.toList) with
                  | false => rfl
                  | true =>
                    have h2 := beq_toList.1 hq
                    rw [hex, ← hnm, HWO.out, nthName_at HA.out] at h2
                    exact absurd (by rw [name_inj HV.out htl HA.out h2]; simp) h
                clear hget hnlen hx hpos' hnm hbyte hex hP hW hB hBk
                by_cases h2 : nx.size = 2
                · have q0 : ((nx.size : Int) == 2) = true := by rw [h2]; rfl
                  have HY : Hid (∀ s, s = x → wayc (nxt g k).length m s = (x ++ (⟨#[108, 114]⟩ : ByteArray).extract m (m + 1))) := fun s hs => by rw [hs, HNL.out, h2]; exact (way_two m2).symm
                  clear h2
                  cases hsk : σ k with
                  | none =>
                    have HSK := Lib.hid (HP2.out.skip HGET.out (.inl hsk))
                    have HTC : Hid (wr.cell? ⟨TB, k, none⟩ = some (.bool false)) := by rw [(HT3.out.cell k).trans (thereC_get _ hlt), hsk]; rfl
                    clear hT hsk
                    go_wp2_with fail
                    refine (HIX.out _ HB3.out).mono ?_
                    rintro e w1 ⟨rfl, b4⟩
                    have HW4 := Lib.hid (HW3.out.below b4 HW3.out.lt)
                    have HT4 := Lib.hid (HT3.out.below b4 HT3.out.lt)
                    have HK4 := Lib.hid (HK3.out.below b4 HK3.out.lt)
                    have HB4 := Lib.hid (HB3.out.trans (b4.mono HB3.out.size))
                    have x5 := HK4.out.cell 1
                    have t1 := (b4.cell (p := ⟨TB, k, none⟩) HT3.out.lt).trans HTC.out
                    clear b4
                    go_wp2_with fail
                    go_roundg (nx.size - (m + 1))
                    case measure => omega
                    case rel => exact ⟨m + 1, σ, b2, rfl, by omega, by go_num, rfl, HSK.out, HW4.out, HT4.out, HB4.out, HK4.out⟩
                  | some s0 =>
                    have HTC : Hid (wr.cell? ⟨TB, k, none⟩ = some (.bool true)) := by rw [(HT3.out.cell k).trans (thereC_get _ hlt), hsk]; rfl
                    by_cases hav : d ∈ [a]
                    · have HSK := Lib.hid (HP2.out.skip HGET.out (.inr (.inl hav)))
                      have qa := HAY.out hav
                      clear hT hsk hav
                      go_wp2_with fail
                      refine (HIX.out _ HB3.out).mono ?_
                      rintro e w1 ⟨rfl, b4⟩
                      have HW4 := Lib.hid (HW3.out.below b4 HW3.out.lt)
                      have HT4 := Lib.hid (HT3.out.below b4 HT3.out.lt)
                      have HK4 := Lib.hid (HK3.out.below b4 HK3.out.lt)
                      have HB4 := Lib.hid (HB3.out.trans (b4.mono HB3.out.size))
                      have x5 := HK4.out.cell 1
                      have t1 := (b4.cell (p := ⟨TB, k, none⟩) HT3.out.lt).trans HTC.out
                      clear b4
                      go_wp2_with fail
                      go_roundg (nx.size - (m + 1))
                      case measure => omega
                      case rel => exact ⟨m + 1, σ, b2, rfl, by omega, by go_num, rfl, HSK.out, HW4.out, HT4.out, HB4.out, HK4.out⟩
                    · have HAV := Lib.hid hav
                      have qa := HAN.out hav
                      clear hav
                      cases hsd : σ d with
                      | none =>
                        have HTD : Hid (wr.cell? ⟨TB, d, none⟩ = some (.bool false)) := by rw [(HT3.out.cell d).trans (thereC_get _ htl), hsd]; rfl
                        clear hT
                        go_wp2_with fail
                        refine (HIX.out _ HB3.out).mono ?_
                        rintro e w1 ⟨rfl, b4⟩
                        have HW4 := Lib.hid (HW3.out.below b4 HW3.out.lt)
                        have HT4 := Lib.hid (HT3.out.below b4 HT3.out.lt)
                        have HK4 := Lib.hid (HK3.out.below b4 HK3.out.lt)
                        have HB4 := Lib.hid (HB3.out.trans (b4.mono HB3.out.size))
                        have x5 := HK4.out.cell 1
                        have t1 := (b4.cell (p := ⟨TB, k, none⟩) HT3.out.lt).trans HTC.out
                        have t2 := (b4.cell (p := ⟨TB, d, none⟩) HT3.out.lt).trans HTD.out
                        clear b4
                        have HPN := Lib.hid (HP2.out.better HV.out hsk HGET.out HAV.out (.inl hsd))
                        rw [HY.out s0 (HX.out.trans (atS_some hsk)).symm] at HPN
                        have f1 := HW4.out.frozen d
                        have f2 := HT4.out.frozen d
                        obtain ⟨v1, g1⟩ := HW4.out.some_cell (i := d) (by rw [waysC_size]; exact htl)
                        obtain ⟨v2, g2⟩ := HT4.out.some_cell (i := d) (by rw [thereC_size]; exact htl)
                        go_wp2_with fail
                        go_roundg (nx.size - (m + 1))
                        case measure => omega
                        case rel =>
                          refine ⟨m + 1, _, true, rfl, by omega, by go_num, rfl, HPN.out, ?_, ?_, (HB4.out.setCell (p := ⟨WB, d, none⟩) hWl _).setCell (p := ⟨TB, d, none⟩) hTl _, ?_⟩
                          · rw [← waysC_set]; exact (Below.heap_setCell _ _ _ _ hne).trans (HW4.out.set_ d (.string (x ++ (⟨#[108, 114]⟩ : ByteArray).extract m (m + 1))))
                          · rw [← thereC_set]; exact (show Blk _ TB _ _ from (Below.heap_setCell _ _ _ _ hne.symm).trans HT4.out).set_ d (.bool true)
                          · exact (Below.heap_setCell _ _ _ _ (blk_ne HK4.out HT4.out (by decide))).trans ((Below.heap_setCell _ _ _ _ (blk_ne HK4.out HW4.out (by decide))).trans HK4.out)
                      | some s1 =>
                        have HTD : Hid (wr.cell? ⟨TB, d, none⟩ = some (.bool true)) := by rw [(HT3.out.cell d).trans (thereC_get _ htl), hsd]; rfl
                        have HWD : Hid (wr.cell? ⟨WB, d, none⟩ = some (.string s1)) := by rw [(HW3.out.cell d).trans (waysC_get _ htl), atS_some hsd]; rfl
                        have HSH : Hid (∀ w', Calls Tryz.prog 131 #[.string (x ++ (⟨#[108, 114]⟩ : ByteArray).extract m (m + 1)), .string s1] w' fun e w'' => e = .returned (.bool (shorterB (x ++ (⟨#[108, 114]⟩ : ByteArray).extract m (m + 1)) s1)) ∧ w' = w'') := fun w' => shorter_any _ _ (by
                          have := (lab_way HV.out hlt (HP2.out.sound.ok k s0 hsk).1 (HP2.out.sound.ok k s0 hsk).2.1 HGET.out HAV.out).2.1
                          rw [HY.out s0 (HX.out.trans (atS_some hsk)).symm] at this; exact this) (HP2.out.sound.ok d s1 hsd).2.1 w'
                        clear hT
                        by_cases hsh : shorterB (x ++ (⟨#[108, 114]⟩ : ByteArray).extract m (m + 1)) s1 = true
                        · rw [hsh] at HSH
                          have hlt2 : cd (x ++ (⟨#[108, 114]⟩ : ByteArray).extract m (m + 1)) < cd s1 := of_decide_eq_true hsh
                          rw [← HY.out s0 (HX.out.trans (atS_some hsk)).symm] at hlt2
                          have HLT := Lib.hid hlt2
                          clear hsh hlt2
                          go_wp2_with fail
                          refine (HIX.out _ HB3.out).mono ?_
                          rintro e w1 ⟨rfl, b4⟩
                          have HW4 := Lib.hid (HW3.out.below b4 HW3.out.lt)
                          have HT4 := Lib.hid (HT3.out.below b4 HT3.out.lt)
                          have HK4 := Lib.hid (HK3.out.below b4 HK3.out.lt)
                          have HB4 := Lib.hid (HB3.out.trans (b4.mono HB3.out.size))
                          have x5 := HK4.out.cell 1
                          have t1 := (b4.cell (p := ⟨TB, k, none⟩) HT3.out.lt).trans HTC.out
                          have t2 := (b4.cell (p := ⟨TB, d, none⟩) HT3.out.lt).trans HTD.out
                          have t3 := (b4.cell (p := ⟨WB, d, none⟩) HW3.out.lt).trans HWD.out
                          clear b4
                          go_wp2_with fail
                          refine (HSH.out _).mono ?_
                          rintro e w2 ⟨rfl, rfl⟩
                          have HPN := Lib.hid (HP2.out.better HV.out hsk HGET.out HAV.out (.inr ⟨s1, hsd, HLT.out⟩))
                          rw [HY.out s0 (HX.out.trans (atS_some hsk)).symm] at HPN
                          have f1 := HW4.out.frozen d
                          have f2 := HT4.out.frozen d
                          obtain ⟨v1, g1⟩ := HW4.out.some_cell (i := d) (by rw [waysC_size]; exact htl)
                          obtain ⟨v2, g2⟩ := HT4.out.some_cell (i := d) (by rw [thereC_size]; exact htl)
                          go_wp2_with fail
                          go_roundg (nx.size - (m + 1))
                          case measure => omega
                          case rel =>
                            refine ⟨m + 1, _, true, rfl, by omega, by go_num, rfl, HPN.out, ?_, ?_, (HB4.out.setCell (p := ⟨WB, d, none⟩) hWl _).setCell (p := ⟨TB, d, none⟩) hTl _, ?_⟩
                            · rw [← waysC_set]; exact (Below.heap_setCell _ _ _ _ hne).trans (HW4.out.set_ d (.string (x ++ (⟨#[108, 114]⟩ : ByteArray).extract m (m + 1))))
                            · rw [← thereC_set]; exact (show Blk _ TB _ _ from (Below.heap_setCell _ _ _ _ hne.symm).trans HT4.out).set_ d (.bool true)
                            · exact (Below.heap_setCell _ _ _ _ (blk_ne HK4.out HT4.out (by decide))).trans ((Below.heap_setCell _ _ _ _ (blk_ne HK4.out HW4.out (by decide))).trans HK4.out)
                        · have hsf : shorterB (x ++ (⟨#[108, 114]⟩ : ByteArray).extract m (m + 1)) s1 = false := by simpa using hsh
                          rw [hsf] at HSH
                          have hlt2 : ¬ cd (x ++ (⟨#[108, 114]⟩ : ByteArray).extract m (m + 1)) < cd s1 := of_decide_eq_false hsf
                          rw [← HY.out s0 (HX.out.trans (atS_some hsk)).symm] at hlt2
                          have HSK := Lib.hid (HP2.out.skip HGET.out (.inr (.inr ⟨s0, s1, hsk, hsd, by omega⟩)))
                          clear hsh hlt2 hsf hsk hsd
                          go_wp2_with fail
                          refine (HIX.out _ HB3.out).mono ?_
                          rintro e w1 ⟨rfl, b4⟩
                          have HW4 := Lib.hid (HW3.out.below b4 HW3.out.lt)
                          have HT4 := Lib.hid (HT3.out.below b4 HT3.out.lt)
                          have HK4 := Lib.hid (HK3.out.below b4 HK3.out.lt)
                          have HB4 := Lib.hid (HB3.out.trans (b4.mono HB3.out.size))
                          have x5 := HK4.out.cell 1
                          have t1 := (b4.cell (p := ⟨TB, k, none⟩) HT3.out.lt).trans HTC.out
                          have t2 := (b4.cell (p := ⟨TB, d, none⟩) HT3.out.lt).trans HTD.out
                          have t3 := (b4.cell (p := ⟨WB, d, none⟩) HW3.out.lt).trans HWD.out
                          clear b4
                          go_wp2_with fail
                          refine (HSH.out _).mono ?_
                          rintro e w2 ⟨rfl, rfl⟩
                          go_wp2_with fail
                          go_roundg (nx.size - (m + 1))
                          case measure => omega
                          case rel => exact ⟨m + 1, σ, b2, rfl, by omega, by go_num, rfl, HSK.out, HW4.out, HT4.out, HB4.out, HK4.out⟩
                · have q0 : ((nx.size : Int) == 2) = false := by simp; omega
                  have HY : Hid (∀ s, s = x → wayc (nxt g k).length m s = x) := fun s hs => by rw [hs, HNL.out]; exact wayc_one h2 m x
                  clear h2
                  cases hsk : σ k with
                  | none =>
                    have HSK := Lib.hid (HP2.out.skip HGET.out (.inl hsk))
                    have HTC : Hid (wr.cell? ⟨TB, k, none⟩ = some (.bool false)) := by rw [(HT3.out.cell k).trans (thereC_get _ hlt), hsk]; rfl
                    clear hT hsk
                    go_wp2_with fail
                    refine (HIX.out _ HB3.out).mono ?_
                    rintro e w1 ⟨rfl, b4⟩
                    have HW4 := Lib.hid (HW3.out.below b4 HW3.out.lt)
                    have HT4 := Lib.hid (HT3.out.below b4 HT3.out.lt)
                    have HK4 := Lib.hid (HK3.out.below b4 HK3.out.lt)
                    have HB4 := Lib.hid (HB3.out.trans (b4.mono HB3.out.size))
                    have x5 := HK4.out.cell 1
                    have t1 := (b4.cell (p := ⟨TB, k, none⟩) HT3.out.lt).trans HTC.out
                    clear b4
                    go_wp2_with fail
                    go_roundg (nx.size - (m + 1))
                    case measure => omega
                    case rel => exact ⟨m + 1, σ, b2, rfl, by omega, by go_num, rfl, HSK.out, HW4.out, HT4.out, HB4.out, HK4.out⟩
                  | some s0 =>
                    have HTC : Hid (wr.cell? ⟨TB, k, none⟩ = some (.bool true)) := by rw [(HT3.out.cell k).trans (thereC_get _ hlt), hsk]; rfl
                    by_cases hav : d ∈ [a]
                    · have HSK := Lib.hid (HP2.out.skip HGET.out (.inr (.inl hav)))
                      have qa := HAY.out hav
                      clear hT hsk hav
                      go_wp2_with fail
                      refine (HIX.out _ HB3.out).mono ?_
                      rintro e w1 ⟨rfl, b4⟩
                      have HW4 := Lib.hid (HW3.out.below b4 HW3.out.lt)
                      have HT4 := Lib.hid (HT3.out.below b4 HT3.out.lt)
                      have HK4 := Lib.hid (HK3.out.below b4 HK3.out.lt)
                      have HB4 := Lib.hid (HB3.out.trans (b4.mono HB3.out.size))
                      have x5 := HK4.out.cell 1
                      have t1 := (b4.cell (p := ⟨TB, k, none⟩) HT3.out.lt).trans HTC.out
                      clear b4
                      go_wp2_with fail
                      go_roundg (nx.size - (m + 1))
                      case measure => omega
                      case rel => exact ⟨m + 1, σ, b2, rfl, by omega, by go_num, rfl, HSK.out, HW4.out, HT4.out, HB4.out, HK4.out⟩
                    · have HAV := Lib.hid hav
                      have qa := HAN.out hav
                      clear hav
                      cases hsd : σ d with
                      | none =>
                        have HTD : Hid (wr.cell? ⟨TB, d, none⟩ = some (.bool false)) := by rw [(HT3.out.cell d).trans (thereC_get _ htl), hsd]; rfl
                        clear hT
                        go_wp2_with fail
                        refine (HIX.out _ HB3.out).mono ?_
                        rintro e w1 ⟨rfl, b4⟩
                        have HW4 := Lib.hid (HW3.out.below b4 HW3.out.lt)
                        have HT4 := Lib.hid (HT3.out.below b4 HT3.out.lt)
                        have HK4 := Lib.hid (HK3.out.below b4 HK3.out.lt)
                        have HB4 := Lib.hid (HB3.out.trans (b4.mono HB3.out.size))
                        have x5 := HK4.out.cell 1
                        have t1 := (b4.cell (p := ⟨TB, k, none⟩) HT3.out.lt).trans HTC.out
                        have t2 := (b4.cell (p := ⟨TB, d, none⟩) HT3.out.lt).trans HTD.out
                        clear b4
                        have HPN := Lib.hid (HP2.out.better HV.out hsk HGET.out HAV.out (.inl hsd))
                        rw [HY.out s0 (HX.out.trans (atS_some hsk)).symm] at HPN
                        have f1 := HW4.out.frozen d
                        have f2 := HT4.out.frozen d
                        obtain ⟨v1, g1⟩ := HW4.out.some_cell (i := d) (by rw [waysC_size]; exact htl)
                        obtain ⟨v2, g2⟩ := HT4.out.some_cell (i := d) (by rw [thereC_size]; exact htl)
                        go_wp2_with fail
                        go_roundg (nx.size - (m + 1))
                        case measure => omega
                        case rel =>
                          refine ⟨m + 1, _, true, rfl, by omega, by go_num, rfl, HPN.out, ?_, ?_, (HB4.out.setCell (p := ⟨WB, d, none⟩) hWl _).setCell (p := ⟨TB, d, none⟩) hTl _, ?_⟩
                          · rw [← waysC_set]; exact (Below.heap_setCell _ _ _ _ hne).trans (HW4.out.set_ d (.string x))
                          · rw [← thereC_set]; exact (show Blk _ TB _ _ from (Below.heap_setCell _ _ _ _ hne.symm).trans HT4.out).set_ d (.bool true)
                          · exact (Below.heap_setCell _ _ _ _ (blk_ne HK4.out HT4.out (by decide))).trans ((Below.heap_setCell _ _ _ _ (blk_ne HK4.out HW4.out (by decide))).trans HK4.out)
                      | some s1 =>
                        have HTD : Hid (wr.cell? ⟨TB, d, none⟩ = some (.bool true)) := by rw [(HT3.out.cell d).trans (thereC_get _ htl), hsd]; rfl
                        have HWD : Hid (wr.cell? ⟨WB, d, none⟩ = some (.string s1)) := by rw [(HW3.out.cell d).trans (waysC_get _ htl), atS_some hsd]; rfl
                        have HSH : Hid (∀ w', Calls Tryz.prog 131 #[.string x, .string s1] w' fun e w'' => e = .returned (.bool (shorterB x s1)) ∧ w' = w'') := fun w' => shorter_any _ _ (by
                          have := (lab_way HV.out hlt (HP2.out.sound.ok k s0 hsk).1 (HP2.out.sound.ok k s0 hsk).2.1 HGET.out HAV.out).2.1
                          rw [HY.out s0 (HX.out.trans (atS_some hsk)).symm] at this; exact this) (HP2.out.sound.ok d s1 hsd).2.1 w'
                        clear hT
                        by_cases hsh : shorterB x s1 = true
                        · rw [hsh] at HSH
                          have hlt2 : cd x < cd s1 := of_decide_eq_true hsh
                          rw [← HY.out s0 (HX.out.trans (atS_some hsk)).symm] at hlt2
                          have HLT := Lib.hid hlt2
                          clear hsh hlt2
                          go_wp2_with fail
                          refine (HIX.out _ HB3.out).mono ?_
                          rintro e w1 ⟨rfl, b4⟩
                          have HW4 := Lib.hid (HW3.out.below b4 HW3.out.lt)
                          have HT4 := Lib.hid (HT3.out.below b4 HT3.out.lt)
                          have HK4 := Lib.hid (HK3.out.below b4 HK3.out.lt)
                          have HB4 := Lib.hid (HB3.out.trans (b4.mono HB3.out.size))
                          have x5 := HK4.out.cell 1
                          have t1 := (b4.cell (p := ⟨TB, k, none⟩) HT3.out.lt).trans HTC.out
                          have t2 := (b4.cell (p := ⟨TB, d, none⟩) HT3.out.lt).trans HTD.out
                          have t3 := (b4.cell (p := ⟨WB, d, none⟩) HW3.out.lt).trans HWD.out
                          clear b4
                          go_wp2_with fail
                          refine (HSH.out _).mono ?_
                          rintro e w2 ⟨rfl, rfl⟩
                          have HPN := Lib.hid (HP2.out.better HV.out hsk HGET.out HAV.out (.inr ⟨s1, hsd, HLT.out⟩))
                          rw [HY.out s0 (HX.out.trans (atS_some hsk)).symm] at HPN
                          have f1 := HW4.out.frozen d
                          have f2 := HT4.out.frozen d
                          obtain ⟨v1, g1⟩ := HW4.out.some_cell (i := d) (by rw [waysC_size]; exact htl)
                          obtain ⟨v2, g2⟩ := HT4.out.some_cell (i := d) (by rw [thereC_size]; exact htl)
                          go_wp2_with fail
                          go_roundg (nx.size - (m + 1))
                          case measure => omega
                          case rel =>
                            refine ⟨m + 1, _, true, rfl, by omega, by go_num, rfl, HPN.out, ?_, ?_, (HB4.out.setCell (p := ⟨WB, d, none⟩) hWl _).setCell (p := ⟨TB, d, none⟩) hTl _, ?_⟩
                            · rw [← waysC_set]; exact (Below.heap_setCell _ _ _ _ hne).trans (HW4.out.set_ d (.string x))
                            · rw [← thereC_set]; exact (show Blk _ TB _ _ from (Below.heap_setCell _ _ _ _ hne.symm).trans HT4.out).set_ d (.bool true)
                            · exact (Below.heap_setCell _ _ _ _ (blk_ne HK4.out HT4.out (by decide))).trans ((Below.heap_setCell _ _ _ _ (blk_ne HK4.out HW4.out (by decide))).trans HK4.out)
                        · have hsf : shorterB x s1 = false := by simpa using hsh
                          rw [hsf] at HSH
                          have hlt2 : ¬ cd x < cd s1 := of_decide_eq_false hsf
                          rw [← HY.out s0 (HX.out.trans (atS_some hsk)).symm] at hlt2
                          have HSK := Lib.hid (HP2.out.skip HGET.out (.inr (.inr ⟨s0, s1, hsk, hsd, by omega⟩)))
                          clear hsh hlt2 hsf hsk hsd
                          go_wp2_with fail
                          refine (HIX.out _ HB3.out).mono ?_
                          rintro e w1 ⟨rfl, b4⟩
                          have HW4 := Lib.hid (HW3.out.below b4 HW3.out.lt)
                          have HT4 := Lib.hid (HT3.out.below b4 HT3.out.lt)
                          have HK4 := Lib.hid (HK3.out.below b4 HK3.out.lt)
                          have HB4 := Lib.hid (HB3.out.trans (b4.mono HB3.out.size))
                          have x5 := HK4.out.cell 1
                          have t1 := (b4.cell (p := ⟨TB, k, none⟩) HT3.out.lt).trans HTC.out
                          have t2 := (b4.cell (p := ⟨TB, d, none⟩) HT3.out.lt).trans HTD.out
                          have t3 := (b4.cell (p := ⟨WB, d, none⟩) HW3.out.lt).trans HWD.out
                          clear b4
                          go_wp2_with fail
                          refine (HSH.out _).mono ?_
                          rintro e w2 ⟨rfl, rfl⟩
                          go_wp2_with fail
                          go_roundg (nx.size - (m + 1))
                          case measure => omega
                          case rel => exact ⟨m + 1, σ, b2, rfl, by omega, by go_num, rfl, HSK.out, HW4.out, HT4.out, HB4.out, HK4.out⟩
              · have hmn : m = nx.size := by omega
                have HL := Lib.hid (show Pass g [a] σ0 σ b2 (k + 1) 0 from (show m = (nxt g k).length by rw [nxt_length hlt, HE.out]; exact hmn) ▸ hP |>.line)
                clear hP hW hT hB hBk
                go_wp2_with fail
                go_roundg (g.length - (k + 1))
                case measure => omega
                case rel => exact ⟨k + 1, σ, b2, rfl, by omega, by go_num, rfl, HL.out, HW3.out, HT3.out, HB3.out⟩
          · obtain rfl : k = g.length := by omega
            have HPE := Lib.hid (show b1 = false → Final g [a] σ1 from fun h => by subst h; exact HP.out.final HV.out)
            have HSN := Lib.hid HP.out.sound
            have HM : 2 * pot σ1 g.length + (if b1 then 1 else 0) < 2 * pot σ0 g.length + 1 := by
              cases b1 with
              | true => have := HP.out.yes rfl; simp; omega
              | false => have := (HP.out.no rfl).1; rw [this]; simp
            have HMM := Lib.hid HM
            clear hB HM
            go_wp2_with fail
            go_roundg (2 * pot σ1 g.length + (if b1 then 1 else 0))
            case measure => exact HMM.out
            case rel => exact ⟨σ1, b1, rfl, rfl, HSN.out, HPE.out, HW1.out, HT1.out, HB1.out⟩

end Go.Proofs.YtklnhbfpmmdhjabGreat
