/-
  Contract of the model's RunGraph.
-/
import Derived.Test.YtgkamcnbpiipoaaGreatRunGraph
namespace Go.Proofs.YtgkamcnbpiipoaaGreat
open Go.RowKit Go.Sort

theorem ret_si {a a' : ByteArray} {i i' : Int} (h1 : a = a') (h2 : i = i') : Ending.returned (.tuple #[.string a, .int .i64 i]) = .returned (.tuple #[.string a', .int .i64 i']) := by rw [h1, h2]

theorem trace_end {g : List Bl} {choices : ByteArray} {pre : List (Nat × Nat)} {i e : Nat} (h : runOf g choices = pre ++ [(i, e)]) : traceOf g choices = namesAt g (pre.map (·.1)) ++ nthName g i ∧ endOf g choices = e := by
  unfold traceOf endOf
  rw [h, lastEnd_snoc, List.map_append, namesAt_append]
  exact ⟨by congr 1; exact namesAt_one g i, rfl⟩

theorem lastEnd_two {pre : List (Nat × Nat)} (h : ∀ x ∈ pre, x.2 = 2) (hl : 0 < pre.length) : lastEnd pre = 2 := by
  unfold lastEnd
  have hne : pre ≠ [] := by intro e; rw [e] at hl; simp at hl
  rw [List.getLast?_eq_some_getLast hne]
  exact h _ (List.getLast_mem hne)

theorem pre_next {g : List Bl} {pre : List (Nat × Nat)} {i : Nat} (h : ∀ x ∈ pre, x.1 < g.length) (hi : i < g.length) : ∀ x ∈ pre ++ [(i, 2)], x.1 < g.length := by
  intro x hx
  rcases List.mem_append.1 hx with hx | hx
  · exact h x hx
  · simp at hx; subst hx; exact hi

theorem names_next (g : List Bl) (pre : List (Nat × Nat)) (i : Nat) {o n : ByteArray} (ho : o = namesAt g (pre.map (·.1))) (hn : n = nthName g i) : namesAt g ((pre ++ [((i : Nat), (2 : Nat))]).map (·.1)) = o ++ n := by
  rw [List.map_append, namesAt_append, ho, hn]
  congr 1
  exact namesAt_one g i

set_option maxRecDepth 100000 in
set_option maxHeartbeats 2000000 in
theorem l2Run_any (A : Option Addr) (cap : Nat) (g : List Bl) (choices : ByteArray) (w : World) (hg : Gr w A g) (hn : g.length ≤ 1048576) (hv : validB g = true) :
    Calls Tryz.prog 50 #[.slice A g.length cap, .string choices] w fun e w' => e = .returned (.tuple #[.string (traceOf g choices), .int .i64 (endOf g choices : Nat)]) ∧ Below w.heap.size w w' := by
  have hpos := (valid_iff.1 hv).1
  obtain ⟨b, off, t, t2, hA, hb, hc0, hc1, he, he2⟩ := gr_at hg hpos
  have hc0' : w.cell? ⟨b, off, none⟩ = some (.string t) := by simpa using hc0
  have HE := Lib.hid he
  have HV := Lib.hid hv
  have HG := Lib.hid hg
  clear hc0 hc1 he he2 hv hg
  subst hA
  go_enter Tryz.func50, Tryz.ntmps50
  go_wp2_with fail
  go_loopg [1, 6, 7] 60 (fun gk c s a wr => ∃ pre i left, gk = 60 - pre.length ∧ c = .string left ∧ s = .string (namesAt g (pre.map (·.1))) ∧ a = .string (nthName g i) ∧ Going g choices pre i left.data.toList ∧ (∀ x ∈ pre, x.1 < g.length) ∧ pre.length ≤ 60 ∧ Below w.heap.size w wr)
  case atStart => exact ⟨[], 0, choices, rfl, rfl, rfl, by rw [← HE.out, nthName_at hpos], Going.start HV.out choices, by simp, by simp, Below.refl _ _⟩
  case round =>
    obtain ⟨pre, i, left, rfl, rfl, rfl, rfl, hG, hpl, h60, hB⟩ := hrel
    have hil := hG.lt
    have hgo := goes HV.out hil
    obtain ⟨o, ho⟩ : ∃ o, o = namesAt g (pre.map (·.1)) := ⟨_, rfl⟩
    have hos : o.size = pre.length := by rw [ho, namesAt_size HV.out _ (fun i hi => by obtain ⟨y, hy, rfl⟩ := List.mem_map.1 hi; exact hpl y hy), List.length_map]
    obtain ⟨n, hnn⟩ : ∃ n, n = nthName g i := ⟨_, rfl⟩
    have hns : n.size = 1 := by obtain ⟨c, hc, _⟩ := valid_one HV.out (List.getElem_mem hil); rw [hnn, nthName_at hil, hc]; rfl
    have hpo : posOf g n = some i := by rw [hnn, nthName_at hil]; exact posOf_name HV.out hil
    rw [← ho, ← hnn]
    have HO := Lib.hid ho
    have HNN := Lib.hid hnn
    have HP := Lib.hid hpo
    have HPL := Lib.hid hpl
    have HB := Lib.hid hB
    by_cases hlt : pre.length < 60
    · have q1 : ((o.size : Int) < 60) := by omega
      have hsz : o.size + n.size ≤ 1048576 := by omega
      have HC := Lib.hid (l1Next_any _ cap g n i wr (HG.out.keep hB.size (fun b o hlt => hB.cell (p := ⟨b, o, none⟩) hlt)) hn hpo hil)
      obtain ⟨x, hx⟩ : ∃ x, x = g[i].2 := ⟨_, rfl⟩
      rw [← hx] at HC hgo
      have hpl' := hpl
      clear ho hnn hpo hpl hB
      go_wp2_with fail
      refine HC.out.mono ?_
      rintro e w1 ⟨rfl, b1⟩
      have HB1 := Lib.hid (HB.out.trans (b1.mono HB.out.size))
      clear b1
      rcases hgo with ⟨hx0, hs0⟩ | ⟨p, hp, hx1, hs1, _, hnm⟩ | ⟨p, q, hp, hq, hx2, hs2, _, hnm, _, hnm', _⟩
      · have hxe : x = ⟨#[]⟩ := ba_ext (List.eq_nil_of_length_eq_zero (list_of_size.trans hs0))
        subst hxe
        have HR := Lib.hid (trace_end (hG.stop hlt hx0))
        clear hG hx
        go_wp2_with fail
        go_ret2
        exact ⟨ret_si (by rw [HR.out.1, HO.out, HNN.out]) (by rw [HR.out.2]; rfl), HB1.out⟩
      · have q2 := beq_empty (s := x) (by omega)
        have q3 : ((x.size : Int) == 1) = true := by rw [hs1]; rfl
        have HG2 := Lib.hid (hG.jump HV.out hlt hx1)
        have HNM := Lib.hid hnm
        have HPRE := Lib.hid (pre_next hpl' hil)
        have HOE := Lib.hid (names_next g pre i HO.out HNN.out)
        clear hG hx hx1 hnm hpl'
        go_wp2_with fail
        go_roundg (60 - (pre ++ [((i : Nat), (2 : Nat))]).length)
        case measure => simp only [List.length_append, List.length_cons, List.length_nil]; omega
        case rel => exact ⟨_, p, left, rfl, rfl, by rw [HOE.out], by rw [nthName_at hp, HNM.out], HG2.out, HPRE.out, by simp; omega, HB1.out⟩
      · have q2 := beq_empty (s := x) (by omega)
        have q3 : ((x.size : Int) == 1) = false := by rw [hs2]; rfl
        by_cases h0l : left.size = 0
        · have hle : left = ⟨#[]⟩ := ba_ext (List.eq_nil_of_length_eq_zero (list_of_size.trans h0l))
          subst hle
          have HR := Lib.hid (trace_end (hG.ask hlt hx2))
          clear hG hx hx2 hnm hnm' hpl'
          go_wp2_with fail
          go_ret2
          exact ⟨ret_si (by rw [HR.out.1, HO.out, HNN.out]) (by rw [HR.out.2]; rfl), HB1.out⟩
        · have hll : 0 < left.size := by omega
          have hcons := bytes_cons hll
          rw [hcons] at hG
          have hG2 := hG.go HV.out hlt hx2
          have q4 := beq_empty hll
          have l1 : 1 ≤ x.size := by omega
          have HPRE := Lib.hid (pre_next hpl' hil)
          have HOE := Lib.hid (names_next g pre i HO.out HNN.out)
          have HNM := Lib.hid hnm
          have HNM' := Lib.hid hnm'
          by_cases h108 : left[0] = 108
          · rw [if_pos h108] at hG2
            have HG2 := Lib.hid hG2
            have q5 : (left[0].toNat : Int) = 108 := by rw [h108]; rfl
            clear hG hx hx2 hnm hnm' hpl' hcons hG2 h108
            go_wp2_with fail
            go_roundg (60 - (pre ++ [((i : Nat), (2 : Nat))]).length)
            case measure => simp only [List.length_append, List.length_cons, List.length_nil]; omega
            case rel => exact ⟨_, p, left.extract 1 left.size, rfl, rfl, by rw [HOE.out], by rw [nthName_at hp, HNM.out], HG2.out, HPRE.out, by simp; omega, HB1.out⟩
          · rw [if_neg h108] at hG2
            have HG2 := Lib.hid hG2
            have q5 : ((left[0].toNat : Int) == 108) = false := byte_ne (b := 108) h108
            clear hG hx hx2 hnm hnm' hpl' hcons hG2 h108
            go_wp2_with fail
            go_roundg (60 - (pre ++ [((i : Nat), (2 : Nat))]).length)
            case measure => simp only [List.length_append, List.length_cons, List.length_nil]; omega
            case rel => exact ⟨_, q, left.extract 1 left.size, rfl, rfl, by rw [HOE.out], by rw [nthName_at hq, HNM'.out, hs2], HG2.out, HPRE.out, by simp; omega, HB1.out⟩
    · have q1 : ¬ ((o.size : Int) < 60) := by omega
      have HF := Lib.hid (hG.full (by omega))
      have HL := Lib.hid (lastEnd_two hG.two (by omega))
      clear hG ho hnn hpo hpl hB hgo
      go_wp2_with fail
      go_ret2
      exact ⟨ret_si (by unfold traceOf; rw [HF.out, HO.out]) (by unfold endOf; rw [HF.out, HL.out]; rfl), HB.out⟩

theorem specRun_any (A : Option Addr) (cap : Nat) (g : List Bl) (choices : ByteArray) (w : World) (hg : Gr w A g) (hn : g.length + tot g ≤ 1048576) (hcap : g.length ≤ cap) (hc : choices.size ≤ 4611686018427387904) :
    Calls Tryz.prog 24 #[.slice A g.length cap, .string choices] w (RunPost g choices w) := by
  have hcv := specValid_any A cap g w hg hn hcap
  have hcc := fun w => specChoices_any choices w hc
  by_cases hv : validB g = true
  · rw [hv] at hcv
    have HC := Lib.hid hcv
    by_cases hcb : choicesB choices = true
    · have hb := runB_yes hv hcb
      have H1 := Lib.hid (runT_yes hb)
      have H2 := Lib.hid (runE_yes hb)
      have H3 := Lib.hid hb
      rw [hcb] at hcc
      have HV := Lib.hid hcc
      have HR := Lib.hid (fun w h => l2Run_any A cap g choices w h (by omega) hv)
      clear hv hcv hcb hcc hb
      go_enter Tryz.func24, Tryz.ntmps24
      go_wp2_with fail
      refine HC.out.mono ?_
      rintro e w1 ⟨rfl, b1⟩
      go_wp2_with fail
      refine (HV.out w1).mono ?_
      rintro e w2 ⟨rfl, b2⟩
      go_wp2_with fail
      refine (HR.out w2 ((hg.below b1).below b2)).mono ?_
      rintro e w3 ⟨rfl, b3⟩
      go_wp2_with fail
      go_ret3
      exact ⟨ret_sib H1.out.symm H2.out.symm H3.out.symm, below_trans_self (below_trans_self b1 b2) b3⟩
    · have hcb' : choicesB choices = false := by simpa using hcb
      have hb : runB g choices = false := runB_no' hcb'
      have H1 := Lib.hid (runT_no hb)
      have H2 := Lib.hid (runE_no hb)
      have H3 := Lib.hid hb
      rw [hcb'] at hcc
      have HV := Lib.hid hcc
      clear hv hcv hcb hcc hb hcb'
      go_enter Tryz.func24, Tryz.ntmps24
      go_wp2_with fail
      refine HC.out.mono ?_
      rintro e w1 ⟨rfl, b1⟩
      go_wp2_with fail
      refine (HV.out w1).mono ?_
      rintro e w2 ⟨rfl, b2⟩
      go_wp2_with fail
      go_ret3
      exact ⟨ret_sib H1.out.symm H2.out.symm H3.out.symm, below_trans_self b1 b2⟩
  · have hv' : validB g = false := by simpa using hv
    have hb : runB g choices = false := runB_no hv'
    have H1 := Lib.hid (runT_no hb)
    have H2 := Lib.hid (runE_no hb)
    have H3 := Lib.hid hb
    rw [hv'] at hcv
    have HC := Lib.hid hcv
    clear hv hcv hcc hb hv'
    go_enter Tryz.func24, Tryz.ntmps24
    go_wp2_with fail
    refine HC.out.mono ?_
    rintro e w1 ⟨rfl, b1⟩
    go_wp2_with fail
    go_ret3
    exact ⟨ret_sib H1.out.symm H2.out.symm H3.out.symm, b1⟩

theorem implRun_any (A : Option Addr) (cap : Nat) (g : List Bl) (choices : ByteArray) (w : World) (hg : Gr w A g) (hn : g.length + tot g ≤ 1048576) (hc : choices.size ≤ 4611686018427387904) :
    Calls Tryz.prog 12 #[.slice A g.length cap, .string choices] w (RunPost g choices w) := by
  by_cases hb : runB g choices = true
  · exact implRun_yes A cap g choices w hg hn hc hb
  · exact implRun_no A cap g choices w hg hn hc (by simpa using hb)
end Go.Proofs.YtgkamcnbpiipoaaGreat
