/-
  The law FnDominates, walked.
-/
import Derived.Test.YtklnhbfpmmdhjabGreatDomWay
import Derived.Test.YtklnhbfpmmdhjabGreatDrawTwo
import Derived.Test.YtklnhbfpmmdhjabGreatDominatorsOf
import Derived.Test.YtklnhbfpmmdhjabGreatKids
import Derived.Test.YtklnhbfpmmdhjabGreatNextOf
import Derived.Test.YtklnhbfpmmdhjabGreatDrawTrace
namespace Go.Proofs.YtklnhbfpmmdhjabGreat
open Go.RowKit Go.Sort

set_option maxRecDepth 100000 in
set_option maxHeartbeats 6400000 in
theorem dominates_walk (A : Option Addr) (la ca : Nat) (w : World) (hA : Bytes w A la) (h1 : la ≤ ca) (h3 : ca ≤ 9223372036854775807) :
    Calls Tryz.prog 4 #[.slice A la ca] w fun e w' => e = .returned (.bool true) ∧ Below w.heap.size w w' := by
  by_cases g1 : (1048576 : Int) < la
  · clear hA
    go_enter Tryz.func4, Tryz.ntmps4
    go_wp2_with fail
    go_ret
    exact ⟨rfl, Below.refl _ _⟩
  have HA := Lib.hid (drawAvoidsIn_any A la ca w hA h1 h3)
  clear hA
  go_enter Tryz.func4, Tryz.ntmps4
  go_wp2_with fail
  refine HA.out.mono ?_
  rintro e w1 ⟨A1, c1, g, sa, sb, rfl, hc1, gg, hn1, hsa, hsb, b1⟩
  have HB1 := Lib.hid b1
  have HG1 := Lib.hid gg
  have HN1 := Lib.hid hn1
  clear b1 gg
  go_wp2_with fail
  refine (implAvoidsSoon_any A1 c1 g sa sb w1 HG1.out (by omega)).mono ?_
  rintro e w2 ⟨s, ok, rfl, hA2, hS2, b2⟩
  have HA2 := Lib.hid hA2
  have HS2 := Lib.hid hS2
  have HG2 := Lib.hid (HG1.out.below b2)
  have HB2 := Lib.hid (below_trans_self HB1.out b2)
  clear hA2 hS2 b2
  go_wp2_with fail
  refine (specAvoids_any A1 c1 g sa sb w2 HG2.out (by omega) hc1).mono ?_
  rintro e w3 ⟨s', ok', rfl, hA3, b3⟩
  obtain ⟨rfl, rfl⟩ := HA2.out.unique hA3
  have HG3 := Lib.hid (HG2.out.below b3)
  have HB3 := Lib.hid (below_trans_self HB2.out b3)
  clear hA3 b3
  obtain ⟨is, his⟩ : ∃ x, x = domB g sa sb := ⟨_, rfl⟩
  obtain ⟨lx, hlx⟩ : ∃ x, x = liveB g sa := ⟨_, rfl⟩
  obtain ⟨ly, hly⟩ : ∃ x, x = liveB g sb := ⟨_, rfl⟩
  obtain ⟨x, hx⟩ : ∃ x, x = domV g sa := ⟨_, rfl⟩
  obtain ⟨y, hy⟩ : ∃ x, x = domV g sb := ⟨_, rfl⟩
  have HDI := Lib.hid (fun W (h : Gr W A1 g) => (his ▸ implDominates_any A1 c1 g sa sb W h (by omega) : Calls Tryz.prog 20 #[.slice A1 g.length c1, .string sa, .string sb] W fun e w' => e = .returned (.bool is) ∧ Below W.heap.size W w'))
  have HDS := Lib.hid (fun W (h : Gr W A1 g) => (his ▸ specDominates_any A1 c1 g sa sb W h (by omega) hc1 : Calls Tryz.prog 27 #[.slice A1 g.length c1, .string sa, .string sb] W fun e w' => e = .returned (.bool is) ∧ Below W.heap.size W w'))
  have HDX := Lib.hid (fun W (h : Gr W A1 g) => (hx ▸ hlx ▸ implDominators_any A1 c1 g sa W h (by omega) : Calls Tryz.prog 28 #[.slice A1 g.length c1, .string sa] W fun e w' => e = .returned (.tuple #[.string x, .bool lx]) ∧ Below W.heap.size W w'))
  have HDY := Lib.hid (fun W (h : Gr W A1 g) => (hy ▸ hly ▸ implDominators_any A1 c1 g sb W h (by omega) : Calls Tryz.prog 28 #[.slice A1 g.length c1, .string sb] W fun e w' => e = .returned (.tuple #[.string y, .bool ly]) ∧ Below W.heap.size W w'))
  have HIS := Lib.hid his
  have HLX := Lib.hid hlx
  have HLY := Lib.hid hly
  have HX := Lib.hid hx
  have HY := Lib.hid hy
  have hnot : is = true → ok = false := fun e => by
    rw [HIS.out] at e
    obtain ⟨a, b, ha, hb, hd⟩ := domB_iff.1 e
    rw [avoid_ok HA2.out ha hb, (dmB_iff (live_name ha).1).2 hd]; rfl
  have hboth : lx = true → ly = true → ok = !is := fun e1 e2 => by
    rw [HLX.out] at e1
    rw [HLY.out] at e2
    unfold liveB at e1 e2
    cases ha : liveOf g sa with
    | none => rw [ha] at e1; cases e1
    | some a =>
      cases hb : liveOf g sb with
      | none => rw [hb] at e2; cases e2
      | some b => rw [avoid_ok HA2.out ha hb, HIS.out, domB_some ha hb]
  have hdead : lx = false ∨ ly = false → is = false ∧ ok = false := fun e => by
    have hn : liveOf g sa = none ∨ liveOf g sb = none := by
      rcases e with e | e
      · rw [HLX.out] at e; unfold liveB at e
        cases ha : liveOf g sa with
        | none => exact .inl rfl
        | some a => rw [ha] at e; cases e
      · rw [HLY.out] at e; unfold liveB at e
        cases hb : liveOf g sb with
        | none => exact .inr rfl
        | some b => rw [hb] at e; cases e
    refine ⟨?_, (avoid_none HA2.out hn).2⟩
    rw [HIS.out]
    rcases hn with hn | hn
    · exact domB_none1 hn
    · exact domB_none2 hn
  have HNOT := Lib.hid hnot
  have HBOTH := Lib.hid hboth
  have HDEAD := Lib.hid hdead
  clear his hlx hly hx hy hnot hboth hdead
  go_wp2_with fail
  refine (HDI.out w3 HG3.out).mono ?_
  rintro e w4 ⟨rfl, b4⟩
  have HG4 := Lib.hid (HG3.out.below b4)
  have HB4 := Lib.hid (below_trans_self HB3.out b4)
  clear b4
  have t1 : (s.toList == s.toList) = true := by simp
  have hone : (is = true ∧ ok = false) ∨ (is = false ∧ ok = true) ∨ (is = false ∧ ok = false) := by
    cases hi : is with
    | true => exact .inl ⟨rfl, HNOT.out hi⟩
    | false =>
      cases ok with
      | true => exact .inr (.inl ⟨rfl, rfl⟩)
      | false => exact .inr (.inr ⟨rfl, rfl⟩)
  rcases hone with ⟨hi, ho⟩ | ⟨hi, ho⟩ | ⟨hi, ho⟩
  all_goals
    subst hi
    subst ho
    go_wp2_with fail
    refine (HDS.out w4 HG4.out).mono ?_
    rintro e w5 ⟨rfl, b5⟩
    have HG5 := Lib.hid (HG4.out.below b5)
    have HB5 := Lib.hid (below_trans_self HB4.out b5)
    clear b5
    go_wp2_with fail
    refine (HDX.out w5 HG5.out).mono ?_
    rintro e w6 ⟨rfl, b6⟩
    have HG6 := Lib.hid (HG5.out.below b6)
    have HB6 := Lib.hid (below_trans_self HB5.out b6)
    clear b6
    go_wp2_with fail
    refine (HDY.out w6 HG6.out).mono ?_
    rintro e w7 ⟨rfl, b7⟩
    have HG7 := Lib.hid (HG6.out.below b7)
    have HB7 := Lib.hid (below_trans_self HB6.out b7)
    clear b7
  · obtain ⟨rfl, rfl⟩ : lx = true ∧ ly = true := by
      cases lx with
      | false => exact absurd (HDEAD.out (.inl rfl)).1 (by simp)
      | true =>
        cases ly with
        | false => exact absurd (HDEAD.out (.inr rfl)).1 (by simp)
        | true => exact ⟨rfl, rfl⟩
    obtain ⟨a, b, hla, hlb, hd⟩ := domB_iff.1 HIS.out.symm
    obtain ⟨hv, hal, hsae, har⟩ := live_name hla
    obtain ⟨_, _, _, hbr⟩ := live_name hlb
    have hxe : x = namesAt g (domL g a) := by rw [HX.out, domV_some hla]
    have hye : y = namesAt g (domL g b) := by rw [HY.out, domV_some hlb]
    have hlt : ∀ i ∈ domL g b, i < g.length := fun i hi => (((mem_domL hv hbr).1 hi).live hbr).lt hv
    have hpre := dom_prefix hv hbr hd
    rw [← hxe, ← hye] at hpre
    have hyz : y.size ≤ 26 := by
      rw [hye, namesAt_size hv _ hlt]
      have := domL_len hv b
      have := (valid_iff.1 hv).2.1
      omega
    have hxy : x.size ≤ y.size := by
      have := congrArg ByteArray.size hpre
      rw [ByteArray.size_extract] at this
      omega
    have hhas : hasB y sa = true := by
      rw [hye, hsae, nthName_at hal, hasB_namesAt hv hlt hal]
      exact decide_eq_true ((mem_domL hv hbr).2 hd)
    have HH := Lib.hid (by have := sjHas_any y sa w7 (by omega); rw [hhas] at this; exact this : Calls Tryz.prog 23 #[.string y, .string sa] w7 _)
    have q1 : ((y.extract 0 x.size).toList == x.toList) = true := by rw [hpre]; simp
    clear hla hlb hd hv hsae har hbr hxe hye hlt hpre hhas
    go_wp2_with fail
    refine HH.out.mono ?_
    rintro e w8 ⟨rfl, rfl⟩
    go_wp2_with fail
    go_ret
    exact ⟨rfl, HB7.out⟩
  · obtain ⟨rfl, rfl⟩ : lx = true ∧ ly = true := by
      cases lx with
      | false => exact absurd (HDEAD.out (.inl rfl)).2 (by simp)
      | true =>
        cases ly with
        | false => exact absurd (HDEAD.out (.inr rfl)).2 (by simp)
        | true => exact ⟨rfl, rfl⟩
    obtain ⟨a, hla⟩ : ∃ a, liveOf g sa = some a := by
      have := HLX.out
      unfold liveB at this
      cases h : liveOf g sa with
      | none => rw [h] at this; cases this
      | some n => exact ⟨n, rfl⟩
    obtain ⟨b, hlb⟩ : ∃ b, liveOf g sb = some b := by
      have := HLY.out
      unfold liveB at this
      cases h : liveOf g sb with
      | none => rw [h] at this; cases this
      | some n => exact ⟨n, rfl⟩
    obtain ⟨hv, hal, hsae, har⟩ := live_name hla
    obtain ⟨_, hbl, hsbe, hbr⟩ := live_name hlb
    have hdm : dmB g a b = false := by rw [← domB_some hla hlb]; exact HIS.out.symm
    have hye : y = namesAt g (domL g b) := by rw [HY.out, domV_some hlb]
    have hlt : ∀ i ∈ domL g b, i < g.length := fun i hi => (((mem_domL hv hbr).1 hi).live hbr).lt hv
    have hyz : y.size ≤ 26 := by
      rw [hye, namesAt_size hv _ hlt]
      have := domL_len hv b
      have := (valid_iff.1 hv).2.1
      omega
    have hhas : hasB y sa = false := by
      rw [hye, hsae, nthName_at hal, hasB_namesAt hv hlt hal]
      refine decide_eq_false fun h => ?_
      rw [(dmB_iff hv).2 ((mem_domL hv hbr).1 h)] at hdm
      cases hdm
    have HH := Lib.hid (by have := sjHas_any y sa w7 (by omega); rw [hhas] at this; exact this : Calls Tryz.prog 23 #[.string y, .string sa] w7 _)
    have hF := avoid_yes HA2.out HS2.out hla hlb
    have hcb := choices_short hv HN1.out hF.lr hF.short
    have hrb := runB_yes hv hcb
    have hsz : s.size ≤ 26 := by have := hF.short; have := (valid_iff.1 hv).2.1; omega
    obtain ⟨K, hK, hKb, hKa⟩ := hF.run hv
    obtain ⟨R, hR⟩ : ∃ R, R = runN g s := ⟨_, rfl⟩
    have hRl : ∀ i ∈ R, i < g.length := fun i hi => run_names hv s i (by rw [hR] at hi; exact hi)
    obtain ⟨tr, htr⟩ : ∃ tr, tr = runT g s := ⟨_, rfl⟩
    obtain ⟨z, hz⟩ : ∃ z, z = runE g s := ⟨_, rfl⟩
    have hte : tr = namesAt g R := by rw [htr, runT_yes hrb, hR]; rfl
    have htz : tr.size = R.length := by rw [hte]; exact namesAt_size hv _ hRl
    have ht60 : tr.size ≤ 60 := htr ▸ runT_small hrb
    have HRG := Lib.hid (fun W (h : Gr W A1 g) => (by
      have := implRun_yes A1 c1 g s W h (by omega) (by omega) hrb
      unfold RunPost at this
      rw [hrb, ← htr, ← hz] at this
      exact this : Calls Tryz.prog 29 #[.slice A1 g.length c1, .string s] W fun e w' => e = .returned (.tuple #[.string tr, .int .i64 z, .bool true]) ∧ Below W.heap.size W w'))
    have hpos : posOf g sb = some b := by rw [hsbe, nthName_at hbl]; exact posOf_name hv hbl
    obtain ⟨nx, hnx⟩ : ∃ x, x = g[b].2 := ⟨_, rfl⟩
    have hnv : nextVal g sb = nx := by rw [hnx]; exact nextVal_some hv hpos hbl
    have hnz : nx.size ≤ 2 := by rw [hnx]; exact (nextB_iff.1 (nextsB_iff.1 (valid_iff.1 hv).2.2.2 b hbl)).1
    have HNX := Lib.hid (fun W (h : Gr W A1 g) => (implNext_any A1 c1 g sb W h (by omega)).mono fun e w' h => show e = .returned (.tuple #[.string nx, .bool (nextHas g sb)]) ∧ Below W.heap.size W w' from hnv ▸ h)
    have HLONG := Lib.hid (show z = 2 → nx.size = 1 from fun e => by rw [hnx]; exact hF.long hv hbl hrb (by rw [← hz]; exact e))
    have hKlt : K < tr.size := by rw [htz, hR]; exact hK
    have HROUND := Lib.hid (show ∀ k (hk : k < tr.size), k ≤ K → ((tr.extract k (k + 1)).toList == sb.toList) = true ∨ (((tr.extract k (k + 1)).toList == sb.toList) = false ∧ ((tr.extract k (k + 1)).toList == sa.toList) = false ∧ k < K) from fun k hk hkK => by
      have hkl : k < R.length := by omega
      have hkl' : k < (runN g s).length := by rw [← hR]; exact hkl
      obtain ⟨h, e⟩ := namesAt_cut hv hRl hkl
      have hex : tr.extract k (k + 1) = g[R[k]].1 := by rw [hte]; exact e
      have heR : R[k] = (runN g s)[k] := by congr 1
      by_cases hb : R[k] = b
      · left
        rw [hex, hsbe, nthName_at hbl]
        have : g[R[k]].1 = g[b].1 := by congr 2
        rw [this]; simp
      · right
        have hkK2 : k < K := by
          rcases Nat.lt_or_ge k K with h' | h'
          · exact h'
          · have : k = K := by omega
            subst this
            exact absurd (heR.trans hKb) hb
        refine ⟨?_, ?_, hkK2⟩
        · rw [Bool.eq_false_iff]
          intro h2
          have := beq_toList.1 h2
          rw [hex, hsbe, nthName_at hbl] at this
          exact hb (name_inj hv h hbl this)
        · rw [Bool.eq_false_iff]
          intro h2
          have := beq_toList.1 h2
          rw [hex, hsae, nthName_at hal] at this
          exact hKa k hkK2 (heR.symm.trans (name_inj hv h hal this)))
    clear hla hlb hv hsae har hsbe hbr hdm hye hlt hhas hF hcb hrb hK hKb hKa hR hRl htr hz hte htz hpos hnx hnv
    go_wp2_with fail
    refine HH.out.mono ?_
    rintro e w8 ⟨rfl, rfl⟩
    go_wp2_with fail
    refine (HRG.out _ HG7.out).mono ?_
    rintro e w8 ⟨rfl, b8⟩
    have HG8 := Lib.hid (HG7.out.below b8)
    have HB8 := Lib.hid (below_trans_self HB7.out b8)
    clear b8
    go_wp2_with fail
    refine (HNX.out _ HG8.out).mono ?_
    rintro e w9 ⟨rfl, b9⟩
    have HB9 := Lib.hid (below_trans_self HB8.out b9)
    clear b9
    go_wp2_with fail
    go_loop [20] (fun iv => ∃ k : Nat, k ≤ K ∧ iv = .int .i64 k) (fun iv => K - (intOf iv).toNat)
    case atStart => exact ⟨0, Nat.zero_le _, rfl⟩
    case round =>
      obtain ⟨k, hk, rfl⟩ := hrel
      have hkt : k < tr.size := by omega
      have hk1 : k + 1 ≤ tr.size := by omega
      rcases HROUND.out k hkt hk with q1 | ⟨q1, q2, hkK⟩
      · by_cases h2 : z = 2
        · have q3 : (z != 2) = false := by rw [h2]; rfl
          have hn1' := HLONG.out h2
          have q4 : ((nx.size : Int) == 1) = true := by rw [hn1']; rfl
          clear h2 hn1'
          go_wp2_with fail
          go_ret
          exact ⟨rfl, HB9.out⟩
        · have q3 : (z != 2) = true := by simpa using h2
          clear h2
          go_wp2_with fail
          go_ret
          exact ⟨rfl, HB9.out⟩
      · go_wp2_with fail
        go_round
        case rel => exact ⟨k + 1, by omega, by go_num⟩
        case measure => simp [intOf]; omega
  · have hl : lx = false ∨ (lx = true ∧ ly = false) := by
      cases lx with
      | false => exact .inl rfl
      | true =>
        cases ly with
        | false => exact .inr ⟨rfl, rfl⟩
        | true => exact absurd (HBOTH.out rfl rfl) (by simp)
    rcases hl with rfl | ⟨rfl, rfl⟩
    all_goals
      go_wp2_with fail
      go_ret
      exact ⟨rfl, HB7.out⟩
end Go.Proofs.YtklnhbfpmmdhjabGreat
