/-
  The law FnNoBack, walked.
-/
import Derived.Test.YtdolbmonmkjajaaGreatSjTexts
import Derived.Test.YtdolbmonmkjajaaGreatRunJumpFacts
import Derived.Test.YtdolbmonmkjajaaGreatDrawRun
import Derived.Test.YtdolbmonmkjajaaGreatDrawTrace
import Derived.Test.YtdolbmonmkjajaaGreatOrders
namespace Go.Proofs.YtdolbmonmkjajaaGreat
open Go.RowKit Go.Sort

set_option maxRecDepth 100000 in
set_option maxHeartbeats 6400000 in
theorem noBack_walk (A : Option Addr) (la ca : Nat) (w : World) (hA : Bytes w A la) (h1 : la ≤ ca) (h3 : ca ≤ 9223372036854775807) :
    Calls Tryz.prog 9 #[.slice A la ca] w fun e w' => e = .returned (.bool true) ∧ Below w.heap.size w w' := by
  by_cases g1 : (1048576 : Int) < la
  · clear hA
    go_enter Tryz.func9, Tryz.ntmps9
    go_wp2_with fail
    go_ret
    exact ⟨rfl, Below.refl _ _⟩
  have HA := Lib.hid (drawRunGraph_any A la ca w hA h1 h3)
  clear hA
  go_enter Tryz.func9, Tryz.ntmps9
  go_wp2_with fail
  refine HA.out.mono ?_
  intro e w1 hd1
  obtain ⟨A1, c1, g, s, rfl, hc1, gg, hn1, hs1, b1⟩ := drawnRun_of hd1
  have HB1 := Lib.hid b1
  have HG1 := Lib.hid gg
  clear hd1 b1 gg
  obtain ⟨ps, hps⟩ : ∃ ps, ps = (if validB g = true then jumpL g backK else []).map (jt g) := ⟨_, rfl⟩
  obtain ⟨v, hvb⟩ : ∃ v, v = validB g := ⟨_, rfl⟩
  have HBI := Lib.hid (fun W (h : Gr W A1 g) => ((implBack_any A1 c1 g W h (by omega)).mono fun e w' ⟨u, e1, e2, e3⟩ => by
    obtain ⟨A9, c9, e9, hst⟩ := own_strs e2
    subst e9
    rw [← hps, ← hvb] at e1
    exact ⟨A9, c9, e1, e3⟩ : Calls Tryz.prog 23 #[.slice A1 g.length c1] W fun e w' => ∃ A9 c9, e = .returned (.tuple #[.slice A9 ps.length c9, .bool v]) ∧ Below W.heap.size W w'))
  have HBS := Lib.hid (fun W (h : Gr W A1 g) => ((specBack_any A1 c1 g W h (by omega) hc1).mono fun e w' ⟨u, e1, _, e3⟩ => by
    rw [← hvb] at e1
    exact ⟨u, e1, e3⟩ : Calls Tryz.prog 24 #[.slice A1 g.length c1] W fun e w' => ∃ u, e = .returned (.tuple #[u, .bool v]) ∧ Below W.heap.size W w'))
  obtain ⟨tr, htr⟩ : ∃ tr, tr = runT g s := ⟨_, rfl⟩
  obtain ⟨z, hz⟩ : ∃ z, z = runE g s := ⟨_, rfl⟩
  obtain ⟨f, hf⟩ : ∃ f, f = runB g s := ⟨_, rfl⟩
  have HRG := Lib.hid (fun W (h : Gr W A1 g) => (by
    have := implRun_any A1 c1 g s W h (by omega) (by omega)
    unfold RunPost at this
    rw [← htr, ← hz, ← hf] at this
    exact this : Calls Tryz.prog 43 #[.slice A1 g.length c1, .string s] W fun e w' => e = .returned (.tuple #[.string tr, .int .i64 z, .bool f]) ∧ Below W.heap.size W w'))
  have HPS := Lib.hid hps
  have HV := Lib.hid hvb
  have HTR := Lib.hid htr
  have HZ := Lib.hid hz
  have HF := Lib.hid hf
  clear hps hvb htr hz hf
  have t3 : (v != v) = false := by simp
  go_wp2_with fail
  refine (HBI.out w1 HG1.out).mono ?_
  rintro e w2 ⟨A9, c9, rfl, b2⟩
  have HG2 := Lib.hid (HG1.out.below b2)
  have HB2 := Lib.hid (below_trans_self HB1.out b2)
  clear b2
  go_wp2_with fail
  refine (HBS.out w2 HG2.out).mono ?_
  rintro e w3 ⟨u9, rfl, b3⟩
  have HG3 := Lib.hid (HG2.out.below b3)
  have HB3 := Lib.hid (below_trans_self HB2.out b3)
  clear b3
  go_wp2_with fail
  refine (HRG.out w3 HG3.out).mono ?_
  rintro e w4 ⟨rfl, b4⟩
  have HG4 := Lib.hid (HG3.out.below b4)
  have HB4 := Lib.hid (below_trans_self HB3.out b4)
  clear b4
  cases v with
  | false =>
    have t5 : tr.toList = [] := by rw [HTR.out, runT_no (runB_no HV.out.symm), Lib.toList_data]
    go_wp2_with fail
    go_ret
    exact ⟨rfl, HB4.out⟩
  | true =>
    have hv : validB g = true := HV.out.symm
    cases f with
    | false =>
      go_wp2_with fail
      go_ret
      exact ⟨rfl, HB4.out⟩
    | true =>
      by_cases hp0 : 0 < ps.length
      · have q1 : decide ((0 : Int) < (ps.length : Int)) = true := decide_eq_true (by omega)
        go_wp2_with fail
        go_ret
        exact ⟨rfl, HB4.out⟩
      · have hpz : ps.length = 0 := by omega
        have q1 : decide ((0 : Int) < (ps.length : Int)) = false := decide_eq_false (by omega)
        have hbk : jumpL g backK = [] := by
          have := HPS.out
          rw [if_pos hv] at this
          rw [this, List.length_map] at hpz
          exact List.eq_nil_of_length_eq_zero hpz
        have hrb : runB g s = true := HF.out.symm
        have hte : tr = namesAt g (runNs g s) := by rw [HTR.out, runT_yes hrb]; rfl
        have hrl : ∀ i ∈ runNs g s, i < g.length := fun i hi => (run_live hv s i hi).lt hv
        have htz : tr.size = (runNs g s).length := by rw [hte]; exact namesAt_size hv _ hrl
        obtain ⟨hnd, hle⟩ := run_short hv hbk s
        have h26 := (valid_iff.1 hv).2.1
        have htl : tr.size ≤ g.length := by omega
        have HHAS := Lib.hid (fun k (hk : k < tr.size) => show hasB (tr.extract 0 k) (tr.extract k (k + 1)) = false from by
          have hk' : k < (runNs g s).length := by omega
          rw [hte, names_upto hv hrl (by omega), names_at hv hrl hk', hasN hv (fun i hi => hrl i ((List.take_subset _ _) hi)) (hrl _ (List.getElem_mem hk'))]
          refine decide_eq_false fun hm => ?_
          obtain ⟨j, hj, e⟩ := List.mem_take_iff_getElem.1 hm
          have := (List.getElem_inj hnd).1 e
          omega)
        have hz2 : (z != 2) = true := by
          rw [HZ.out, runE_yes hrb]
          refine bne_iff_ne.2 fun e => ?_
          have e2 : endOf g s = 2 := by omega
          have := runL_long hv 60 0 s.data.toList (valid_iff.1 hv).1 e2
          have h2 : (runNs g s).length = (runL g 60 0 s.data.toList).length := List.length_map _
          omega
        have q9 : decide ((tr.size : Int) ≤ (g.length : Int)) = true := decide_eq_true (by omega)
        have htame : tameB g = true := by
          unfold tameB
          rw [hv, wild_filter, hbk]; rfl
        have HTM := Lib.hid (fun W (h : Gr W A1 g) => (htame ▸ implIsTame_any A1 c1 g W h (by omega) : Calls Tryz.prog 35 #[.slice A1 g.length c1] W fun e w' => e = .returned (.bool true) ∧ Below W.heap.size W w'))
        clear hbk hrb hte hrl htz hnd hle htame hv
        go_wp2_with fail
        go_loopw [59] (fun iv wr => ∃ k : Nat, k ≤ tr.size ∧ iv = .int .i64 k ∧ Hid (Gr wr A1 g) ∧ Hid (Below w.heap.size w wr)) (fun iv _ => tr.size - (intOf iv).toNat)
        case atStart => exact ⟨0, Nat.zero_le _, rfl, HG4.out, HB4.out⟩
        case round =>
          obtain ⟨k, hk, rfl, HG, HB⟩ := hrel
          by_cases hlt : k < tr.size
          · have hk1 : k + 1 ≤ tr.size := by omega
            have hhas := HHAS.out k hlt
            have tC := fun n => Calls.quiet_of_same ((by have := sjHas_any (tr.extract 0 k) (tr.extract k (k + 1)) (wr.drewN n) (by rw [ByteArray.size_extract]; omega); rw [hhas] at this; exact this : Calls Tryz.prog 32 #[.string (tr.extract 0 k), .string (tr.extract k (k + 1))] (wr.drewN n) fun e w' => e = .returned (.bool false) ∧ wr.drewN n = w').mono fun _ _ ⟨a, b⟩ => ⟨a, b.symm⟩)
            have s1 : IntKind.i64.wrap ((k : Int) + 1) = (k : Int) + 1 := IntWalk.i64_in _ (by omega)
            have s3 : ((k : Int) + 1).toNat = k + 1 := by omega
            have s5 : (k : Int) + 1 ≤ tr.size := by omega
            have s7 : (0 : Int) ≤ (k : Int) + 1 := by omega
            have s9 : (k : Int) ≤ (k : Int) + 1 := by omega
            clear hhas
            go_wp2_with fail
            go_quiet (with_reducible exact tC _)
            have HG5 := Lib.hid (HG.out.below (below_drewN wr nq))
            have HB5 := Lib.hid (HB.out.trans ((below_drewN wr nq).mono HB.out.size))
            clear tC
            go_wp2_with fail
            go_roundw
            case rel => exact ⟨k + 1, by omega, by go_num, HG5.out, HB5.out⟩
            case measure => simp [intOf]; omega
          · go_wp2_with fail
            refine (HTM.out wr HG.out).mono ?_
            rintro e w8 ⟨rfl, b8⟩
            have HB8 := Lib.hid (below_trans_self HB.out b8)
            clear b8
            go_wp2_with fail
            go_ret
            exact ⟨rfl, HB8.out⟩
end Go.Proofs.YtdolbmonmkjajaaGreat
