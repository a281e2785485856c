/-
  The law FnRunJumps, walked.
-/
import Derived.Test.YtdolbmonmkjajaaGreatSjTexts
import Derived.Test.YtdolbmonmkjajaaGreatRunJumpFacts
import Derived.Test.YtdolbmonmkjajaaGreatDrawRun
import Derived.Test.YtdolbmonmkjajaaGreatDrawTrace
import Derived.Test.YtdolbmonmkjajaaGreatOrders
namespace Go.Proofs.YtdolbmonmkjajaaGreat
open Go.RowKit Go.Sort

theorem extract_two (s : ByteArray) (m : Nat) : s.extract m (m + 2) = s.extract m (m + 1) ++ s.extract (m + 1) (m + 2) := by
  apply ba_ext
  simp only [ByteArray.data_append, Array.toList_append, ← Lib.toList_data, Lib.extract_toList]
  rw [show m + 2 - m = 1 + 1 by omega, show m + 1 - m = 1 by omega, show m + 2 - (m + 1) = 1 by omega, List.take_add, List.drop_drop]

theorem names_two {g : List Bl} (hv : validB g = true) {l : List Nat} (hl : ∀ i ∈ l, i < g.length) {k : Nat} (hk : k + 1 < l.length) : (namesAt g l).extract k (k + 2) = jt g (l[k], l[k + 1]) := by
  rw [extract_two, names_at hv hl (by omega), show k + 2 = k + 1 + 1 by omega, names_at hv hl hk]
  exact jt_names hv (hl _ (List.getElem_mem _)) (hl _ (List.getElem_mem _))

theorem jt_inj {g : List Bl} (hv : validB g = true) {i j : Nat × Nat} (h1 : i.1 < g.length) (h2 : i.2 < g.length) (k1 : j.1 < g.length) (k2 : j.2 < g.length) (e : jt g i = jt g j) : i = j := by
  unfold jt at e
  have e2 : #[letC g i.1, letC g i.2] = #[letC g j.1, letC g j.2] := by injection e
  have e3 : letC g i.1 = letC g j.1 ∧ letC g i.2 = letC g j.2 := by simpa using e2
  exact Prod.ext (letC_inj hv h1 k1 e3.1) (letC_inj hv h2 k2 e3.2)

set_option maxRecDepth 100000 in
set_option maxHeartbeats 6400000 in
theorem runJumps_walk (A : Option Addr) (la ca : Nat) (w : World) (hA : Bytes w A la) (h1 : la ≤ ca) (h3 : ca ≤ 9223372036854775807) :
    Calls Tryz.prog 8 #[.slice A la ca] w fun e w' => e = .returned (.bool true) ∧ Below w.heap.size w w' := by
  by_cases g1 : (1048576 : Int) < la
  · clear hA
    go_enter Tryz.func8, Tryz.ntmps8
    go_wp2_with fail
    go_ret
    exact ⟨rfl, Below.refl _ _⟩
  have HA := Lib.hid (drawRunGraph_any A la ca w hA h1 h3)
  clear hA
  go_enter Tryz.func8, Tryz.ntmps8
  go_wp2_with fail
  refine HA.out.mono ?_
  intro e w1 hd1
  obtain ⟨A1, c1, g, s, rfl, hc1, gg, hn1, hs1, b1⟩ := drawnRun_of hd1
  have HB1 := Lib.hid b1
  have HG1 := Lib.hid gg
  clear hd1 b1 gg
  obtain ⟨tr, htr⟩ : ∃ tr, tr = runT g s := ⟨_, rfl⟩
  obtain ⟨z, hz⟩ : ∃ z, z = runE g s := ⟨_, rfl⟩
  obtain ⟨f, hf⟩ : ∃ f, f = runB g s := ⟨_, rfl⟩
  have HRG := Lib.hid (fun W (h : Gr W A1 g) => (by
    have := implRun_any A1 c1 g s W h (by omega) (by omega)
    unfold RunPost at this
    rw [← htr, ← hz, ← hf] at this
    exact this : Calls Tryz.prog 43 #[.slice A1 g.length c1, .string s] W fun e w' => e = .returned (.tuple #[.string tr, .int .i64 z, .bool f]) ∧ Below W.heap.size W w'))
  have HRS := Lib.hid (fun W (h : Gr W A1 g) => (by
    have := specRun_any A1 c1 g s W h (by omega) hc1 (by omega)
    unfold RunPost at this
    rw [← htr, ← hz, ← hf] at this
    exact this : Calls Tryz.prog 44 #[.slice A1 g.length c1, .string s] W fun e w' => e = .returned (.tuple #[.string tr, .int .i64 z, .bool f]) ∧ Below W.heap.size W w'))
  have HTR := Lib.hid htr
  have HF := Lib.hid hf
  clear htr hz hf
  have t3 : (f != f) = false := by simp
  go_wp2_with fail
  refine (HRG.out w1 HG1.out).mono ?_
  rintro e w2 ⟨rfl, b2⟩
  have HG2 := Lib.hid (HG1.out.below b2)
  have HB2 := Lib.hid (below_trans_self HB1.out b2)
  clear b2
  go_wp2_with fail
  refine (HRS.out w2 HG2.out).mono ?_
  rintro e w3 ⟨rfl, b3⟩
  have HG3 := Lib.hid (HG2.out.below b3)
  have HB3 := Lib.hid (below_trans_self HB2.out b3)
  clear b3
  cases f with
  | false =>
    have t5 : tr.toList = [] := by rw [HTR.out, runT_no HF.out.symm, Lib.toList_data]
    go_wp2_with fail
    go_ret
    exact ⟨rfl, HB3.out⟩
  | true =>
    have hrb : runB g s = true := HF.out.symm
    have hv : validB g = true := by unfold runB at hrb; exact (Bool.and_eq_true_iff.1 hrb).1
    have hte : tr = namesAt g (runNs g s) := by rw [HTR.out, runT_yes hrb]; rfl
    have hrl : ∀ i ∈ runNs g s, i < g.length := fun i hi => (run_live hv s i hi).lt hv
    have htz : tr.size = (runNs g s).length := by rw [hte]; exact namesAt_size hv _ hrl
    have ht60 : tr.size ≤ 60 := by rw [HTR.out]; exact runT_small hrb
    have htp : 0 < tr.size := by rw [htz]; exact run_pos g s
    obtain ⟨o, ho⟩ : ∃ o, o = namesAt g (wayOrd g) := ⟨_, rfl⟩
    have hoz : o.size = (wayOrd g).length := by rw [ho]; exact namesAt_size hv _ (wayOrd_lt hv)
    have hwl := wayOrd_len hv
    have h26 := (valid_iff.1 hv).2.1
    have HOR := Lib.hid (fun W (h : Gr W A1 g) => (by have := implOrder_any A1 c1 g W h (by omega); unfold orderV at this; rw [if_pos hv, hv, ← ho] at this; exact this : Calls Tryz.prog 21 #[.slice A1 g.length c1] W fun e w' => e = .returned (.tuple #[.string o, .bool true]) ∧ Below W.heap.size W w'))
    obtain ⟨L, hL⟩ : ∃ L, L = jumpL g backK := ⟨_, rfl⟩
    have hLl : L.length ≤ 52 := by rw [hL]; exact jumpL_len hv backK
    have hlm : (L.map (jt g)).length = L.length := List.length_map _
    have HBI := Lib.hid (fun W (h : Gr W A1 g) => ((implBack_any A1 c1 g W h (by omega)).mono fun e w' ⟨u, e1, e2, e3⟩ => by
      rw [if_pos hv, ← hL] at e2
      obtain ⟨A9, c9, e9, hst⟩ := own_strs e2
      subst e9
      rw [hv, hlm] at e1
      exact ⟨A9, c9, e1, hst, e3⟩ : Calls Tryz.prog 23 #[.slice A1 g.length c1] W fun e w' => ∃ A9 c9, e = .returned (.tuple #[.slice A9 L.length c9, .bool true]) ∧ Strs w' A9 (L.map (jt g)) ∧ Below W.heap.size W w'))
    -- one step of the run
    have HST := Lib.hid (fun m (hm : m + 1 < tr.size) => show ∃ a b : Nat, a < g.length ∧ b < g.length ∧ tr.extract m (m + 1) = nthName g a ∧ tr.extract (m + 1) (m + 2) = nthName g b ∧ tr.extract m (m + 2) = jt g (a, b) ∧ Rch g [] a ∧ Rch g [] b ∧ b ∈ nxt g a ∧ placeN g a = placeN g ((runNs g s).getD m 0) ∧ placeN g b = placeN g ((runNs g s).getD (m + 1) 0) from by
      have hm' : m + 1 < (runNs g s).length := by omega
      have hm2 : m < (runNs g s).length := by omega
      have ra := run_live hv s _ (List.getElem_mem hm2)
      have rb := run_live hv s _ (List.getElem_mem hm')
      refine ⟨(runNs g s)[m], (runNs g s)[m + 1], ra.lt hv, rb.lt hv, ?_, ?_, ?_, ra, rb, run_step hv s m hm', ?_, ?_⟩
      · rw [hte]; exact names_at hv hrl hm2
      · rw [hte, show m + 2 = m + 1 + 1 by omega]; exact names_at hv hrl hm'
      · rw [hte]; exact names_two hv hrl hm'
      · rw [List.getD_eq_getElem?_getD, List.getElem?_eq_getElem hm2]; rfl
      · rw [List.getD_eq_getElem?_getD, List.getElem?_eq_getElem hm']; rfl)
    have HLT := Lib.hid (fun j (hj : j ∈ L) => show j.1 < g.length ∧ j.2 < g.length from by rw [hL] at hj; exact jumpL_lt hv hj)
    have HMEM := Lib.hid (fun a b (ha : Rch g [] a) (hb : b ∈ nxt g a) => show (a, b) ∈ L ↔ placeN g b ≤ placeN g a from by
      rw [hL, mem_jumpL hv, backK_kind, decide_eq_true_iff]
      exact ⟨fun q => q.2.2, fun q => ⟨ha, hb, q⟩⟩)
    have HVV := Lib.hid hv
    have HOO := Lib.hid ho
    have HOZ := Lib.hid hoz
    clear hrb hte hrl htz hL ho hv
    go_wp2_with fail
    refine (HOR.out w3 HG3.out).mono ?_
    rintro e w4 ⟨rfl, b4⟩
    have HG4 := Lib.hid (HG3.out.below b4)
    have HB4 := Lib.hid (below_trans_self HB3.out b4)
    clear b4
    go_wp2_with fail
    refine (HBI.out w4 HG4.out).mono ?_
    rintro e w5 ⟨A9, c9, rfl, hst, b5⟩
    have HS5 := Lib.hid hst
    have HB5 := Lib.hid (below_trans_self HB4.out b5)
    clear b5 hst
    go_wp2_with fail
    go_loopw [15, 16] (fun fv iv wr => ∃ (m f : Nat), m + 1 ≤ tr.size ∧ iv = .int .i64 ((m : Int) + 1) ∧ fv = .int .i64 f ∧ f ≤ 26 ∧ Hid (f ≤ placeN g ((runNs g s).getD m 0)) ∧ Hid (Strs wr A9 (L.map (jt g))) ∧ Hid (Below w.heap.size w wr)) (fun _ iv _ => tr.size - (intOf iv).toNat)
    case atStart => exact ⟨0, 0, by omega, rfl, rfl, by omega, Nat.zero_le _, HS5.out, HB5.out⟩
    case round =>
      obtain ⟨m, f, hm, rfl, rfl, hf26, HFP, HS, HB⟩ := hrel
      by_cases hlt : m + 1 < tr.size
      · have hltI : (m : Int) + 1 < (tr.size : Int) := by omega
        obtain ⟨a, b, hal, hbl, ea, eb, eab, ra, rb, hab, pa, pb⟩ := HST.out m hlt
        have HEAB := Lib.hid eab
        have HEA := Lib.hid ea
        have HEB := Lib.hid eb
        have HPA := Lib.hid pa
        have HPB := Lib.hid pb
        have HRA := Lib.hid ra
        have HRB := Lib.hid rb
        have HAB := Lib.hid hab
        have s0 : IntKind.i64.wrap ((m : Int) + 1 - 1) = (m : Int) := by rw [show (m : Int) + 1 - 1 = (m : Int) by omega]; exact IntWalk.i64_in _ (by omega)
        have s0' : IntKind.i64.wrap (m : Int) = (m : Int) := IntWalk.i64_in _ (by omega)
        have s1 : IntKind.i64.wrap ((m : Int) + 1 + 1) = (m : Int) + 2 := by rw [show (m : Int) + 1 + 1 = (m : Int) + 2 by omega]; exact IntWalk.i64_in _ (by omega)
        have s1' : IntKind.i64.wrap ((m : Int) + 2) = (m : Int) + 2 := IntWalk.i64_in _ (by omega)
        have n1 : ((m : Int) + 1).toNat = m + 1 := by omega
        have n2 : ((m : Int) + 2).toNat = m + 2 := by omega
        have n3 : ((m : Int) + 1 + 1).toNat = m + 2 := by omega
        have z0 : (0 : Int) ≤ (m : Int) := by omega
        have z1 : (0 : Int) ≤ (m : Int) + 1 := by omega
        have z2 : (0 : Int) ≤ (m : Int) + 2 := by omega
        have l0 : (m : Int) ≤ (m : Int) + 1 := by omega
        have l1 : (m : Int) ≤ (m : Int) + 2 := by omega
        have l2 : (m : Int) + 1 ≤ (m : Int) + 2 := by omega
        have l3 : (m : Int) + 2 ≤ (tr.size : Int) := by omega
        have l4 : (m : Int) + 1 ≤ (tr.size : Int) := by omega
        clear ea eb eab pa pb ra rb hab
        go_wp2_with fail
        go_loop [17, 67] (fun bv kv => ∃ (k : Nat) (q : Bool), k ≤ L.length ∧ kv = .int .i64 k ∧ bv = .bool q ∧ Hid (q = decide ((a, b) ∈ L.take k))) (fun _ kv => L.length - (intOf kv).toNat)
        case atStart => exact ⟨0, false, Nat.zero_le _, rfl, rfl, (show false = decide ((a, b) ∈ L.take 0) by simp)⟩
        case round =>
          obtain ⟨k, q, hk, rfl, rfl, HQ⟩ := hrel
          by_cases hkl : k < L.length
          · obtain ⟨b9, off, rfl, hb9, hc9⟩ := HS.out (by omega)
            have x0 := hc9 k (by omega)
            obtain ⟨j, hj⟩ : ∃ j, j = L[k] := ⟨_, rfl⟩
            obtain ⟨txt, htx⟩ : ∃ txt, txt = jt g j := ⟨_, rfl⟩
            have hget : (L.map (jt g))[k]'(by omega) = txt := by rw [List.getElem_map, htx, hj]
            rw [hget] at x0
            obtain ⟨k1, k2⟩ := HLT.out j (hj ▸ List.getElem_mem hkl)
            have HTK := Lib.hid (show (a, b) ∈ L.take (k + 1) ↔ (a, b) ∈ L.take k ∨ (a, b) = j by
              rw [List.take_succ_eq_append_getElem hkl, List.mem_append, List.mem_singleton, ← hj])
            cases q with
            | true =>
              have HQ2 := Lib.hid (show true = decide ((a, b) ∈ L.take (k + 1)) from (decide_eq_true (HTK.out.2 (.inl (of_decide_eq_true HQ.out.symm)))).symm)
              clear hc9 hb9 hget htx hj
              go_wp2_with fail
              go_round
              case rel => exact ⟨k + 1, true, by omega, by go_num, rfl, HQ2.out⟩
              case measure => simp [intOf]; omega
            | false =>
              have hno : (a, b) ∉ L.take k := of_decide_eq_false HQ.out.symm
              by_cases hjj : (a, b) = j
              · have t1 : (txt.toList == (tr.extract m (m + 2)).toList) = true := by rw [htx, HEAB.out, ← hjj]; simp
                have HQ2 := Lib.hid (show true = decide ((a, b) ∈ L.take (k + 1)) from (decide_eq_true (HTK.out.2 (.inr hjj))).symm)
                clear hc9 hb9 hget htx hj hjj hno
                go_wp2_with fail
                go_round
                case rel => exact ⟨k + 1, true, by omega, by go_num, rfl, HQ2.out⟩
                case measure => simp [intOf]; omega
              · have t1 : (txt.toList == (tr.extract m (m + 2)).toList) = false := by
                  rw [Bool.eq_false_iff]
                  intro e
                  have := beq_toList.1 e
                  rw [htx, HEAB.out] at this
                  exact hjj (jt_inj HVV.out k1 k2 hal hbl this).symm
                have HQ2 := Lib.hid (show false = decide ((a, b) ∈ L.take (k + 1)) from (decide_eq_false fun h => (HTK.out.1 h).elim hno hjj).symm)
                clear hc9 hb9 hget htx hj hjj hno
                go_wp2_with fail
                go_round
                case rel => exact ⟨k + 1, false, by omega, by go_num, rfl, HQ2.out⟩
                case measure => simp [intOf]; omega
          · have hq : q = decide (placeN g b ≤ placeN g a) := by
              rw [HQ.out, List.take_of_length_le (by omega), decide_eq_decide]
              exact HMEM.out a b HRA.out HAB.out
            have tA := fun n => Calls.quiet_of_same ((by have := sjIndex_any g (wayOrd g) a (wr.drewN n) HVV.out (wayOrd_lt HVV.out) hal (by omega); rw [← HOO.out, ← HEA.out, idxN_way HVV.out HRA.out] at this; exact this : Calls Tryz.prog 31 #[.string o, .string (tr.extract m (m + 1))] (wr.drewN n) fun e w' => e = .returned (.int .i64 (placeN g a : Int)) ∧ wr.drewN n = w').mono fun _ _ ⟨a, b⟩ => ⟨a, b.symm⟩)
            have tB := fun n => Calls.quiet_of_same ((by have := sjIndex_any g (wayOrd g) b (wr.drewN n) HVV.out (wayOrd_lt HVV.out) hbl (by omega); rw [← HOO.out, ← HEB.out, idxN_way HVV.out HRB.out] at this; exact this : Calls Tryz.prog 31 #[.string o, .string (tr.extract (m + 1) (m + 2))] (wr.drewN n) fun e w' => e = .returned (.int .i64 (placeN g b : Int)) ∧ wr.drewN n = w').mono fun _ _ ⟨a, b⟩ => ⟨a, b.symm⟩)
            obtain ⟨P, hP⟩ : ∃ P, P = placeN g a := ⟨_, rfl⟩
            obtain ⟨Q, hQ⟩ : ∃ Q, Q = placeN g b := ⟨_, rfl⟩
            rw [← hP] at tA hq
            rw [← hQ] at tB hq
            have hQl : Q < o.size := by rw [hQ, HOZ.out]; exact place_lt HVV.out HRB.out
            have hfP : f ≤ P := by rw [hP, HPA.out]; exact HFP.out
            have HQE := Lib.hid (show Q = placeN g ((runNs g s).getD (m + 1) 0) by rw [hQ, HPB.out])
            clear hP hQ
            by_cases hle : Q ≤ P
            · obtain rfl : q = true := by rw [hq]; exact decide_eq_true hle
              have r1 : decide ((P : Int) < (Q : Int)) = false := decide_eq_false (by omega)
              have r0 : ¬ P < Q := by omega
              have r5 : ¬ o.size ≤ 0 := by omega
              have r6 : ¬ o.size = 0 := by omega
              have r7 : ¬ wayOrd g = [] := fun e => by
                have h9 := HOZ.out
                rw [e, List.length_nil] at h9
                omega
              have r8 : 0 < o.size := by omega
              have r2 : ¬ ((o.size : Int) ≤ 0) := by omega
              have r3 : decide ((o.size : Int) ≤ 0) = false := decide_eq_false r2
              have HF2 := Lib.hid (show 0 ≤ placeN g ((runNs g s).getD (m + 1) 0) from Nat.zero_le _)
              clear hq hle
              go_wp2_with fail
              go_quiet (first | with_reducible exact tA _ | with_reducible exact tB _)
              have HB6 := Lib.hid (HB.out.trans ((below_drewN wr nq).mono HB.out.size))
              have HS6 := Lib.hid (HS.out.below (below_drewN wr nq))
              clear tA tB
              go_wp2_with fail
              go_roundw
              case rel => exact ⟨m + 1, 0, by omega, by go_num, rfl, by omega, HF2.out, HS6.out, HB6.out⟩
              case measure => simp [intOf]; omega
            · obtain rfl : q = false := by rw [hq]; exact decide_eq_false hle
              have r1 : decide ((P : Int) < (Q : Int)) = true := decide_eq_true (by omega)
              have r0 : P < Q := by omega
              have r5 : ¬ o.size ≤ f + 1 := by omega
              have r2 : ¬ ((o.size : Int) ≤ (f : Int) + 1) := by omega
              have r3 : decide ((o.size : Int) ≤ (f : Int) + 1) = false := decide_eq_false r2
              have HF2 := Lib.hid (show f + 1 ≤ placeN g ((runNs g s).getD (m + 1) 0) by rw [← HQE.out]; omega)
              have hf2 : f + 1 ≤ 26 := by omega
              clear hq hle
              go_wp2_with fail
              go_quiet (first | with_reducible exact tA _ | with_reducible exact tB _)
              have HB6 := Lib.hid (HB.out.trans ((below_drewN wr nq).mono HB.out.size))
              have HS6 := Lib.hid (HS.out.below (below_drewN wr nq))
              clear tA tB
              go_wp2_with fail
              go_roundw
              case rel => exact ⟨m + 1, f + 1, by omega, by go_num, by go_num, hf2, HF2.out, HS6.out, HB6.out⟩
              case measure => simp [intOf]; omega
      · have hltI : ¬ ((m : Int) + 1 < (tr.size : Int)) := by omega
        go_wp2_with fail
        go_ret
        exact ⟨rfl, HB.out⟩
end Go.Proofs.YtdolbmonmkjajaaGreat
