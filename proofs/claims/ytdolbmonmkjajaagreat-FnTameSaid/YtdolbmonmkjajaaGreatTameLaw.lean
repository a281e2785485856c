/-
  The law FnTame, walked.
-/
import Derived.Test.YtdolbmonmkjajaaGreatSjTexts
import Derived.Test.YtdolbmonmkjajaaGreatDrawLoops
import Derived.Test.YtdolbmonmkjajaaGreatDeeper
import Derived.Test.YtdolbmonmkjajaaGreatOrderCount
import Derived.Test.YtdolbmonmkjajaaGreatPrevN
import Derived.Test.YtdolbmonmkjajaaGreatPrevOf
namespace Go.Proofs.YtdolbmonmkjajaaGreat
open Go.RowKit Go.Sort

theorem live_name_B {g : List Bl} (hv : validB g = true) {x : Nat} (hx : x < g.length) : liveB g (nthName g x) = decide (x ∈ reach g) := by
  unfold liveB
  by_cases h : x ∈ reach g
  · rw [liveOf_some hv (pos_name hv hx) h, decide_eq_true h]; rfl
  · rw [liveOf_out (pos_name hv hx) h, decide_eq_false h]; rfl

theorem prevV_name {g : List Bl} (hv : validB g = true) {x : Nat} (hx : x < g.length) : prevVal g (nthName g x) = namesAt g (prevN g x g.length) := by
  rw [prevVal_some hv (pos_name hv hx), nthName_at hx, prevs_all hv hx]

/-- What a filter has kept so far, and its next. -/
theorem filter_next {α : Type} {p : α → Bool} {l : List α} {n : Nat} (hn : n < l.length) (hp : p l[n] = true) :
    ((l.take n).filter p).length < (l.filter p).length ∧ (l.filter p)[((l.take n).filter p).length]? = some l[n] ∧ ((l.take (n + 1)).filter p).length = ((l.take n).filter p).length + 1 := by
  have e1 : l.filter p = (l.take n).filter p ++ l[n] :: (l.drop (n + 1)).filter p := by
    conv => lhs; rw [← List.take_append_drop n l, List.drop_eq_getElem_cons hn]
    rw [List.filter_append, List.filter_cons, if_pos hp]
  refine ⟨?_, ?_, ?_⟩
  · rw [e1]; simp
  · rw [e1]; simp
  · rw [List.take_succ_eq_append_getElem hn, List.filter_append, List.filter_cons, if_pos hp]; simp
theorem filter_skip {α : Type} {p : α → Bool} {l : List α} {n : Nat} (hn : n < l.length) (hp : p l[n] = false) :
    ((l.take (n + 1)).filter p).length = ((l.take n).filter p).length := by
  rw [List.take_succ_eq_append_getElem hn, List.filter_append, List.filter_cons, if_neg (by simp [hp])]; simp

set_option maxRecDepth 100000 in
set_option maxHeartbeats 12800000 in
theorem tame_walk (A : Option Addr) (la ca : Nat) (w : World) (hA : Bytes w A la) (h1 : la ≤ ca) (h3 : ca ≤ 9223372036854775807) :
    Calls Tryz.prog 6 #[.slice A la ca] w fun e w' => e = .returned (.bool true) ∧ Below w.heap.size w w' := by
  by_cases g1 : (1048576 : Int) < la
  · clear hA
    go_enter Tryz.func6, Tryz.ntmps6
    go_wp2_with fail
    go_ret
    exact ⟨rfl, Below.refl _ _⟩
  have HA := Lib.hid (drawIsTame_any A la ca w hA h1 h3)
  clear hA
  go_enter Tryz.func6, Tryz.ntmps6
  go_wp2_with fail
  refine HA.out.mono ?_
  intro e w1 hd1
  obtain ⟨A1, c1, g, rfl, hc1, gg, hn1, b1⟩ := drawn_of hd1
  have HB1 := Lib.hid b1
  have HG1 := Lib.hid gg
  clear hd1 b1 gg
  obtain ⟨tm, htm⟩ : ∃ tm, tm = tameB g := ⟨_, rfl⟩
  have HTI := Lib.hid (fun W (h : Gr W A1 g) => (htm ▸ implIsTame_any A1 c1 g W h (by omega) : Calls Tryz.prog 35 #[.slice A1 g.length c1] W fun e w' => e = .returned (.bool tm) ∧ Below W.heap.size W w'))
  have HTS := Lib.hid (fun W (h : Gr W A1 g) => (htm ▸ specIsTame_any A1 c1 g W h (by omega) hc1 : Calls Tryz.prog 38 #[.slice A1 g.length c1] W fun e w' => e = .returned (.bool tm) ∧ Below W.heap.size W w'))
  obtain ⟨M, hM⟩ : ∃ M, M = if validB g = true then jumpL g wildK else [] := ⟨_, rfl⟩
  obtain ⟨v, hvb⟩ : ∃ v, v = validB g := ⟨_, rfl⟩
  have hMl : M.length ≤ 52 := by
    rw [hM]
    by_cases hv : validB g = true
    · rw [if_pos hv]; exact jumpL_len hv wildK
    · rw [if_neg hv]; simp
  have hml : (M.map (jt g)).length = M.length := List.length_map _
  have HWI := Lib.hid (fun W (h : Gr W A1 g) => ((implWild_any A1 c1 g W h (by omega)).mono fun e w' ⟨u, e1, e2, e3⟩ => by
    rw [← hM] at e2
    obtain ⟨A9, c9, e9, hst⟩ := own_strs e2
    subst e9
    rw [← hvb, hml] at e1
    exact ⟨A9, c9, e1, hst, e3⟩ : Calls Tryz.prog 36 #[.slice A1 g.length c1] W fun e w' => ∃ A9 c9, e = .returned (.tuple #[.slice A9 M.length c9, .bool v]) ∧ Strs w' A9 (M.map (jt g)) ∧ Below W.heap.size W w'))
  have HWS := Lib.hid (fun W (h : Gr W A1 g) => ((specWild_any A1 c1 g W h (by omega) hc1).mono fun e w' ⟨u, e1, e2, e3⟩ => by
    rw [← hM] at e2
    obtain ⟨A9, c9, e9, hst⟩ := own_strs e2
    subst e9
    rw [← hvb, hml] at e1
    exact ⟨A9, c9, e1, hst, e3⟩ : Calls Tryz.prog 37 #[.slice A1 g.length c1] W fun e w' => ∃ A9 c9, e = .returned (.tuple #[.slice A9 M.length c9, .bool v]) ∧ Strs w' A9 (M.map (jt g)) ∧ Below W.heap.size W w'))
  have HSJ := Lib.hid (fun X Y cx cy W (hx : Strs W X (M.map (jt g))) (hy : Strs W Y (M.map (jt g))) => (by
    have := sjTexts_any X Y cx cy (M.map (jt g)) W hx hy (by omega)
    rw [hml] at this
    exact this : Calls Tryz.prog 29 #[.slice X M.length cx, .slice Y M.length cy] W fun e w' => e = .returned (.bool true) ∧ Below W.heap.size W w'))
  have HTM := Lib.hid htm
  have HM := Lib.hid hM
  have HV := Lib.hid hvb
  clear htm hM hvb
  have t1 : (tm == tm) = true := by simp
  have t2 : (tm != tm) = false := by simp
  go_wp2_with fail
  refine (HTI.out w1 HG1.out).mono ?_
  rintro e w2 ⟨rfl, b2⟩
  have HG2 := Lib.hid (HG1.out.below b2)
  have HB2 := Lib.hid (below_trans_self HB1.out b2)
  clear b2
  go_wp2_with fail
  refine (HWI.out w2 HG2.out).mono ?_
  rintro e w3 ⟨A6, c6, rfl, st6, b3⟩
  have HG3 := Lib.hid (HG2.out.below b3)
  have HB3 := Lib.hid (below_trans_self HB2.out b3)
  have HX3 := Lib.hid st6
  clear b3 st6
  go_wp2_with fail
  refine (HWS.out w3 HG3.out).mono ?_
  rintro e w4 ⟨A7, c7, rfl, st7, b4⟩
  have HG4 := Lib.hid (HG3.out.below b4)
  have HB4 := Lib.hid (below_trans_self HB3.out b4)
  have HX4 := Lib.hid (HX3.out.below b4)
  have HY4 := Lib.hid st7
  clear b4 st7
  go_wp2_with fail
  refine (HTS.out w4 HG4.out).mono ?_
  rintro e w5 ⟨rfl, b5⟩
  have HG5 := Lib.hid (HG4.out.below b5)
  have HB5 := Lib.hid (below_trans_self HB4.out b5)
  have HX5 := Lib.hid (HX4.out.below b5)
  have HY5 := Lib.hid (HY4.out.below b5)
  clear b5
  go_wp2_with fail
  refine (HSJ.out _ _ _ _ w5 HX5.out HY5.out).mono ?_
  rintro e w6 ⟨rfl, b6⟩
  have HG6 := Lib.hid (HG5.out.below b6)
  have HB6 := Lib.hid (below_trans_self HB5.out b6)
  have HX6 := Lib.hid (HX5.out.below b6)
  have HY6 := Lib.hid (HY5.out.below b6)
  clear b6
  cases v with
  | false =>
    obtain rfl : tm = false := by
      rw [HTM.out]; unfold tameB; rw [← HV.out]; rfl
    go_wp2_with fail
    refine (HTS.out w6 HG6.out).mono ?_
    rintro e w7 ⟨rfl, b7⟩
    have HB7 := Lib.hid (below_trans_self HB6.out b7)
    have HX7 := Lib.hid (HX6.out.below b7)
    have HY7 := Lib.hid (HY6.out.below b7)
    clear b7
    go_wp2_with fail
    refine (HSJ.out _ _ _ _ w7 HX7.out HY7.out).mono ?_
    rintro e w8 ⟨rfl, b8⟩
    have HB8 := Lib.hid (below_trans_self HB7.out b8)
    clear b8
    go_wp2_with fail
    go_ret
    exact ⟨rfl, HB8.out⟩
  | true =>
    have hv : validB g = true := HV.out.symm
    have hM : M = jumpL g wildK := by rw [HM.out, if_pos hv]
    obtain ⟨L, hL⟩ : ∃ L, L = jumpL g backK := ⟨_, rfl⟩
    obtain ⟨P, hP⟩ : ∃ P : Nat × Nat → Bool, P = fun j => !dmB g j.2 j.1 := ⟨_, rfl⟩
    have hMP : M = L.filter P := by rw [hM, hL, hP]; exact wild_filter g
    have hLl : L.length ≤ 52 := by rw [hL]; exact jumpL_len hv backK
    have hll : (L.map (jt g)).length = L.length := List.length_map _
    have HBI := Lib.hid (fun W (h : Gr W A1 g) => ((implBack_any A1 c1 g W h (by omega)).mono fun e w' ⟨u, e1, e2, e3⟩ => by
      rw [if_pos hv, ← hL] at e2
      obtain ⟨A9, c9, e9, hst⟩ := own_strs e2
      subst e9
      rw [hv, hll] at e1
      exact ⟨A9, c9, e1, hst, e3⟩ : Calls Tryz.prog 23 #[.slice A1 g.length c1] W fun e w' => ∃ A9 c9, e = .returned (.tuple #[.slice A9 L.length c9, .bool true]) ∧ Strs w' A9 (L.map (jt g)) ∧ Below W.heap.size W w'))
    have HLT := Lib.hid (fun j (hj : j ∈ L) => show Rch g [] j.1 ∧ Rch g [] j.2 from by
      rw [hL] at hj
      have h := (mem_jumpL hv).1 hj
      exact ⟨h.1, .step h.1 h.2.1 (by simp)⟩)
    have HPD := Lib.hid (fun j => show P j = !dmB g j.2 j.1 from by rw [hP])
    have HMP := Lib.hid hMP
    have HTE := Lib.hid (show tm = decide (M.length = 0) from by rw [HTM.out]; unfold tameB; rw [hv, ← hM]; rfl)
    -- the headers and their loops
    obtain ⟨hs, hhs⟩ : ∃ hs, hs = headV g := ⟨_, rfl⟩
    obtain ⟨hsz, hs26⟩ := headV_small hv
    rw [← hhs] at hsz hs26
    have HHI := Lib.hid (fun W (k : Gr W A1 g) => (by have := implHeaders_any A1 c1 g W k (by omega); rw [← hhs, hv] at this; exact this : Calls Tryz.prog 25 #[.slice A1 g.length c1] W fun e w' => e = .returned (.tuple #[.string hs, .bool true]) ∧ Below W.heap.size W w'))
    have HHD := Lib.hid (fun i (hi : i < hs.size) => show ∃ h, h ∈ headL g ∧ Rch g [] h ∧ hs.extract i (i + 1) = nthName g h from by
      have hi' : i < (headL g).length := by omega
      exact ⟨(headL g)[i], List.getElem_mem hi', head_live hv (List.getElem_mem hi'), by rw [hhs, headV_yes hv]; exact names_at hv head_lt hi'⟩)
    have HLI := Lib.hid (fun W (k : Gr W A1 g) s => implLoopOf_any A1 c1 g s W k (by omega))
    have HPI := Lib.hid (fun W (k : Gr W A1 g) s => implPrev_any A1 c1 g s W k (by omega))
    have HDI := Lib.hid (fun s t W (h : Gr W A1 g) => implDominates_any A1 c1 g s t W h (by omega))
    have HVV := Lib.hid hv
    have h26 := (valid_iff.1 hv).2.1
    clear hv hM hL hP hMP hhs
    go_wp2_with fail
    refine (HBI.out w6 HG6.out).mono ?_
    rintro e w7 ⟨A9, c9, rfl, st9, b7⟩
    have HG7 := Lib.hid (HG6.out.below b7)
    have HB7 := Lib.hid (below_trans_self HB6.out b7)
    have HX7 := Lib.hid (HX6.out.below b7)
    have HZ7 := Lib.hid st9
    clear b7 st9
    go_wp2_with fail
    go_loopw [11, 85] (fun kv iv wr => ∃ (n k : Nat), n ≤ L.length ∧ k ≤ M.length ∧ iv = .int .i64 n ∧ kv = .int .i64 k ∧ Hid (k = ((L.take n).filter P).length) ∧ Hid (Gr wr A1 g) ∧ Hid (Strs wr A6 (M.map (jt g))) ∧ Hid (Strs wr A9 (L.map (jt g))) ∧ Hid (Below w.heap.size w wr)) (fun _ iv _ => L.length - (intOf iv).toNat)
    case atStart => exact ⟨0, 0, Nat.zero_le _, Nat.zero_le _, rfl, rfl, (by simp : 0 = ((L.take 0).filter P).length), HG7.out, HX7.out, HZ7.out, HB7.out⟩
    case round =>
      obtain ⟨n, k, hn, hk, rfl, rfl, HK, HG, HX, HZ, HB⟩ := hrel
      by_cases hlt : n < L.length
      · obtain ⟨b, off, rfl, hb, hc⟩ := HZ.out (by omega)
        have x0 := hc n (by omega)
        obtain ⟨j, hj⟩ : ∃ j, j = L[n] := ⟨_, rfl⟩
        obtain ⟨txt, htx⟩ : ∃ txt, txt = jt g j := ⟨_, rfl⟩
        have hget : (L.map (jt g))[n]'(by omega) = txt := by rw [List.getElem_map, htx, hj]
        rw [hget] at x0
        obtain ⟨r1, r2⟩ := HLT.out j (hj ▸ List.getElem_mem hlt)
        obtain ⟨hz, e1, e2⟩ := jt_parts HVV.out (r1.lt HVV.out) (r2.lt HVV.out)
        rw [← htx] at hz e1 e2
        have l1 : 1 ≤ txt.size := by omega
        have l2 : (1 : Int) ≤ txt.size := by omega
        obtain ⟨dm, hdm⟩ : ∃ dm, dm = dmB g j.2 j.1 := ⟨_, rfl⟩
        have cD : ∀ d os, Calls Tryz.prog 39 #[.slice A1 g.length c1, .string (txt.extract 1 2), .string (txt.extract 0 1)] (grow (redrawn wr d) os) fun e w'' => e = .returned (.bool dm) ∧ ∃ p : Regrown, w'' = grow (redrawn wr p.d) p.os := fun d os => by
          have := HDI.out (txt.extract 1 2) (txt.extract 0 1) (grow (redrawn wr d) os) (gr_grown HG.out d os)
          rw [show domB g (txt.extract 1 2) (txt.extract 0 1) = dm by rw [e1, e2, dom_name HVV.out r2 r1, hdm]] at this
          exact Calls.regrown_of this
        have hpj : P L[n] = !dm := by rw [← hj, HPD.out, hdm]
        cases dm with
        | true =>
          have HK2 := Lib.hid (show k = ((L.take (n + 1)).filter P).length by rw [filter_skip hlt hpj]; exact HK.out)
          clear hb hget htx hj e1 e2 r1 r2 hdm hpj hc
          go_wp2_with fail
          refine wp_region_quiet_below (by kernel_rfl) (by kernel_rfl) ?_
          repeat (any_goals (first | go_big_quiet_step (with_reducible exact cD _ _) | quiet_step (with_reducible exact cD _ _)))
          all_goals (refine wpQuiet_nil ?_; intro _ hw'; obtain ⟨⟨dq, osq⟩, hw''⟩ := hw'; subst hw'')
          have hb2 := below_regrown wr dq osq
          generalize grow (redrawn wr dq) osq = w2 at hb2 ⊢
          have HBa := Lib.hid (below_trans_self HB.out hb2)
          have HGa := Lib.hid (HG.out.below hb2)
          have HXa := Lib.hid (HX.out.below hb2)
          have HZa := Lib.hid (HZ.out.below hb2)
          clear cD hb2 x0
          go_wp2_with fail
          go_roundw
          case rel => exact ⟨n + 1, k, by omega, hk, by go_num, rfl, HK2.out, HGa.out, HXa.out, HZa.out, HBa.out⟩
          case measure => simp [intOf]; omega
        | false =>
          obtain ⟨f1, f2, f3⟩ := filter_next (p := P) hlt hpj
          rw [← HK.out, ← HMP.out] at f1 f2
          rw [← HK.out] at f3
          have HK2 := Lib.hid f3.symm
          have hMk : M[k] = j := by
            rw [List.getElem?_eq_getElem f1] at f2
            rw [hj]; exact Option.some.inj f2
          obtain ⟨b', off', rfl, hb', hc'⟩ := HX.out (by omega)
          have q1 : (txt.toList == txt.toList) = true := by simp
          have q2 : (txt.toList != txt.toList) = false := by simp
          have f4 : ¬ M.length ≤ k := by omega
          have f5 : decide ((M.length : Int) ≤ (k : Int)) = false := decide_eq_false (by omega)
          have hkm : k < (M.map (jt g)).length := by rw [hml]; exact f1
          have HTX := Lib.hid (show (M.map (jt g))[k]'hkm = txt by rw [List.getElem_map, hMk, htx])
          clear hb hget htx hj e1 e2 r1 r2 hdm hpj hc hc' hb' f2 f3 hMk
          go_wp2_with fail
          refine wp_region_quiet_below (by kernel_rfl) (by kernel_rfl) ?_
          repeat (any_goals (first | go_big_quiet_step (with_reducible exact cD _ _) | quiet_step (with_reducible exact cD _ _)))
          all_goals (refine wpQuiet_nil ?_; intro _ hw'; obtain ⟨⟨dq, osq⟩, hw''⟩ := hw'; subst hw'')
          have hb2 := below_regrown wr dq osq
          generalize grow (redrawn wr dq) osq = w2 at hb2 ⊢
          have HBa := Lib.hid (below_trans_self HB.out hb2)
          have HGa := Lib.hid (HG.out.below hb2)
          have HXa := Lib.hid (HX.out.below hb2)
          have HZa := Lib.hid (HZ.out.below hb2)
          obtain ⟨b8, off8, h8, hb8, hc8⟩ := HXa.out (by omega)
          have y0 := hc8 k (by omega)
          rw [HTX.out] at y0
          obtain ⟨rfl, rfl⟩ : b' = b8 ∧ off' = off8 := by
            have := Option.some.inj h8
            injection this with a1 a2 a3
            exact ⟨a1, a2⟩
          clear cD hb2 x0 h8 hb8 hc8
          go_wp2_with fail
          go_roundw
          case rel => exact ⟨n + 1, k + 1, by omega, by omega, by go_num, by go_num, HK2.out, HGa.out, HXa.out, HZa.out, HBa.out⟩
          case measure => simp [intOf]; omega
      · have hkM : k = M.length := by rw [HK.out, HMP.out, List.take_of_length_le (by omega)]
        subst hkM
        go_wp2_with fail
        refine (HHI.out wr HG.out).mono ?_
        rintro e v1 ⟨rfl, d1⟩
        have HGs := Lib.hid (HG.out.below d1)
        have HBs := Lib.hid (below_trans_self HB.out d1)
        clear d1
        clear HX HZ HB HG HK
        go_wp2_with fail
        go_loopw [118] (fun iv wr => ∃ i : Nat, i ≤ hs.size ∧ iv = .int .i64 i ∧ Hid (Gr wr A1 g) ∧ Hid (Below w.heap.size w wr)) (fun iv _ => hs.size - (intOf iv).toNat)
        case atStart => exact ⟨0, Nat.zero_le _, rfl, HGs.out, HBs.out⟩
        case round =>
          obtain ⟨i, hi, rfl, HG, HB⟩ := hrel
          by_cases hil : i < hs.size
          · obtain ⟨h, hh, hr, ehs⟩ := HHD.out i hil
            have hhl := hr.lt HVV.out
            obtain ⟨hx, hhx⟩ : ∃ hx, hx = hs.extract i (i + 1) := ⟨_, rfl⟩
            have hi1 : i + 1 ≤ hs.size := by omega
            obtain ⟨lp, hlp⟩ : ∃ lp, lp = loopV g (hs.extract i (i + 1)) := ⟨_, rfl⟩
            have hle : lp = namesAt g (loopL g h) := by rw [hlp, ehs, loopV_some (headOf_name HVV.out hh)]
            have hlz : lp.size = (loopL g h).length := by rw [hle]; exact namesAt_size HVV.out _ (loopL_lt h)
            have hl26 : lp.size ≤ 26 := by have := loop_small HVV.out h; omega
            have HLQ := Lib.hid (HLI.out wr HG.out (hs.extract i (i + 1)))
            rw [← hlp] at HLQ
            have HNM := Lib.hid (fun n (hn : n < lp.size) => show ∃ x, x ∈ loopL g h ∧ lp.extract n (n + 1) = nthName g x from by
              have hn' : n < (loopL g h).length := by omega
              exact ⟨(loopL g h)[n], List.getElem_mem hn', by rw [hle]; exact names_at HVV.out (loopL_lt h) hn'⟩)
            have HLE := Lib.hid hle
            have HES := Lib.hid ehs
            have HR := Lib.hid hr
            clear hlp hle hlz hhx ehs hr
            go_wp2_with fail
            refine HLQ.out.mono ?_
            rintro e v2 ⟨rfl, d2⟩
            have HGa := Lib.hid (HG.out.below d2)
            have HBa := Lib.hid (below_trans_self HB.out d2)
            clear d2 HLQ
            go_wp2_with fail
            go_loopw [133] (fun nv wr => ∃ n : Nat, n ≤ lp.size ∧ nv = .int .i64 n ∧ Hid (Gr wr A1 g) ∧ Hid (Below w.heap.size w wr)) (fun nv _ => lp.size - (intOf nv).toNat)
            case atStart => exact ⟨0, Nat.zero_le _, rfl, HGa.out, HBa.out⟩
            case round =>
              obtain ⟨n, hnl, rfl, HG, HB⟩ := hrel
              by_cases hnlt : n < lp.size
              · obtain ⟨x, hx, ex⟩ := HNM.out n hnlt
                have hn1' : n + 1 ≤ lp.size := by omega
                have hxr := loop_live HVV.out HR.out hx
                have hxl := hxr.lt HVV.out
                obtain ⟨ps, hps⟩ : ∃ ps, ps = prevVal g (lp.extract n (n + 1)) := ⟨_, rfl⟩
                have hpe : ps = namesAt g (prevN g x g.length) := by rw [hps, ex, prevV_name HVV.out hxl]
                have hpz : ps.size = (prevN g x g.length).length := by rw [hpe]; exact namesAt_size HVV.out _ (prevN_lt (Nat.le_refl _))
                have hp26 : ps.size ≤ 26 := by
                  rw [hpz]; unfold prevN
                  have := List.length_filter_le (fun j => decide (x ∈ nxt g j)) (List.range g.length)
                  rw [List.length_range] at this
                  omega
                have HPQ := Lib.hid (HPI.out wr HG.out (lp.extract n (n + 1)))
                rw [← hps] at HPQ
                have HPM := Lib.hid (fun m (hm : m < ps.size) => show ∃ p, p < g.length ∧ x ∈ nxt g p ∧ ps.extract m (m + 1) = nthName g p from by
                  have hm' : m < (prevN g x g.length).length := by omega
                  have := mem_prevN.1 (List.getElem_mem hm')
                  exact ⟨(prevN g x g.length)[m], this.1, this.2, by rw [hpe]; exact names_at HVV.out (prevN_lt (Nat.le_refl _)) hm'⟩)
                have HDH := Lib.hid (show domB g (hs.extract i (i + 1)) (lp.extract n (n + 1)) = true by
                  rw [HES.out, ex, dom_name HVV.out HR.out hxr]
                  exact (dmB_iff HVV.out).2 (loop_dom HVV.out hhl hx))
                have HEX := Lib.hid ex
                have HXM := Lib.hid hx
                clear hps hpe hpz ex hx hxr
                go_wp2_with fail
                refine HPQ.out.mono ?_
                rintro e v3 ⟨rfl, d3⟩
                have HGb := Lib.hid (HG.out.below d3)
                have HBb := Lib.hid (below_trans_self HB.out d3)
                clear d3 HPQ
                go_wp2_with fail
                go_loopw [148] (fun mv wr => ∃ m : Nat, m ≤ ps.size ∧ mv = .int .i64 m ∧ Hid (Gr wr A1 g) ∧ Hid (Below w.heap.size w wr)) (fun mv _ => ps.size - (intOf mv).toNat)
                case atStart => exact ⟨0, Nat.zero_le _, rfl, HGb.out, HBb.out⟩
                case round =>
                  obtain ⟨m, hm, rfl, HG, HB⟩ := hrel
                  by_cases hmlt : m < ps.size
                  · obtain ⟨p, hpl, hpn, ep⟩ := HPM.out m hmlt
                    have hm1 : m + 1 ≤ ps.size := by omega
                    have m1 : IntKind.i64.wrap ((m : Int) + 1) = (m : Int) + 1 := IntWalk.i64_in _ (by omega)
                    have m2 : ((m : Int) + 1).toNat = m + 1 := by omega
                    have m3 : (m : Int) + 1 ≤ ps.size := by omega
                    have m4 : (0 : Int) ≤ (m : Int) + 1 := by omega
                    have m5 : (m : Int) ≤ (m : Int) + 1 := by omega
                    have n1 : IntKind.i64.wrap ((n : Int) + 1) = (n : Int) + 1 := IntWalk.i64_in _ (by omega)
                    have n2 : ((n : Int) + 1).toNat = n + 1 := by omega
                    have n3 : (n : Int) + 1 ≤ lp.size := by omega
                    have n4 : (0 : Int) ≤ (n : Int) + 1 := by omega
                    have n5 : (n : Int) ≤ (n : Int) + 1 := by omega
                    have i1 : IntKind.i64.wrap ((i : Int) + 1) = (i : Int) + 1 := IntWalk.i64_in _ (by omega)
                    have i2 : ((i : Int) + 1).toNat = i + 1 := by omega
                    have i3 : (i : Int) + 1 ≤ hs.size := by omega
                    have i4 : (0 : Int) ≤ (i : Int) + 1 := by omega
                    have i5 : (i : Int) ≤ (i : Int) + 1 := by omega
                    obtain ⟨lb, hlb⟩ : ∃ lb, lb = decide (p ∈ reach g) := ⟨_, rfl⟩
                    have cD : ∀ d os, Calls Tryz.prog 39 #[.slice A1 g.length c1, .string (ps.extract m (m + 1)), .string (ps.extract m (m + 1))] (grow (redrawn wr d) os) fun e w'' => e = .returned (.bool lb) ∧ ∃ p : Regrown, w'' = grow (redrawn wr p.d) p.os := fun d os => by
                      have := HDI.out (ps.extract m (m + 1)) (ps.extract m (m + 1)) (grow (redrawn wr d) os) (gr_grown HG.out d os)
                      rw [show domB g (ps.extract m (m + 1)) (ps.extract m (m + 1)) = lb by rw [domB_self, ep, live_name_B HVV.out hpl, hlb]] at this
                      exact Calls.regrown_of this
                    have HEP := Lib.hid ep
                    have HLB := Lib.hid hlb
                    clear hlb ep
                    cases lb with
                    | false =>
                      go_wp2_with fail
                      refine wp_region_quiet_below (by kernel_rfl) (by kernel_rfl) ?_
                      repeat (any_goals (first | go_big_quiet_step (with_reducible exact cD _ _) | quiet_step (with_reducible exact cD _ _)))
                      all_goals (refine wpQuiet_nil ?_; intro _ hw'; obtain ⟨⟨dq, osq⟩, hw''⟩ := hw'; subst hw'')
                      have hb2 := below_regrown wr dq osq
                      generalize grow (redrawn wr dq) osq = w2 at hb2 ⊢
                      have HBc := Lib.hid (below_trans_self HB.out hb2)
                      have HGc := Lib.hid (HG.out.below hb2)
                      clear cD hb2
                      go_wp2_with fail
                      go_quiet (fail)
                      have HBd := Lib.hid (below_trans_self HBc.out (below_drewN w2 nq))
                      have HGd := Lib.hid (HGc.out.below (below_drewN w2 nq))
                      go_wp2_with fail
                      go_roundw
                      case rel => exact ⟨m + 1, by omega, by go_num, HGd.out, HBd.out⟩
                      case measure => simp [intOf]; omega
                    | true =>
                      have hpr : Rch g [] p := (mem_reach HVV.out).1 (of_decide_eq_true HLB.out.symm)
                      by_cases hxh : x = h
                      · have q1 : ((lp.extract n (n + 1)).toList == (hs.extract i (i + 1)).toList) = true := by rw [HEX.out, HES.out, hxh]; simp
                        have q2 : ((lp.extract n (n + 1)).toList != (hs.extract i (i + 1)).toList) = false := by rw [HEX.out, HES.out, hxh]; simp
                        clear hxh hpr
                        go_wp2_with fail
                        refine wp_region_quiet_below (by kernel_rfl) (by kernel_rfl) ?_
                        repeat (any_goals (first | go_big_quiet_step (with_reducible exact cD _ _) | quiet_step (with_reducible exact cD _ _)))
                        all_goals (refine wpQuiet_nil ?_; intro _ hw'; obtain ⟨⟨dq, osq⟩, hw''⟩ := hw'; subst hw'')
                        have hb2 := below_regrown wr dq osq
                        generalize grow (redrawn wr dq) osq = w2 at hb2 ⊢
                        have HBc := Lib.hid (below_trans_self HB.out hb2)
                        have HGc := Lib.hid (HG.out.below hb2)
                        clear cD hb2
                        go_wp2_with fail
                        go_quiet (fail)
                        have HBd := Lib.hid (below_trans_self HBc.out (below_drewN w2 nq))
                        have HGd := Lib.hid (HGc.out.below (below_drewN w2 nq))
                        go_wp2_with fail
                        go_roundw
                        case rel => exact ⟨m + 1, by omega, by go_num, HGd.out, HBd.out⟩
                        case measure => simp [intOf]; omega
                      · have q1 : ((lp.extract n (n + 1)).toList == (hs.extract i (i + 1)).toList) = false := by
                          rw [Bool.eq_false_iff]
                          intro e
                          have := beq_toList.1 e
                          rw [HEX.out, HES.out, nthName_at hxl, nthName_at hhl] at this
                          exact hxh (name_inj HVV.out hxl hhl this)
                        have q2 : ((lp.extract n (n + 1)).toList != (hs.extract i (i + 1)).toList) = true := by
                          show (!((lp.extract n (n + 1)).toList == (hs.extract i (i + 1)).toList)) = true
                          rw [q1]; rfl
                        have hin : p ∈ loopL g h := loop_back HVV.out hhl HXM.out hxh hpr hpn
                        have hhas : hasB lp (ps.extract m (m + 1)) = true := by rw [HLE.out, HEP.out, hasN HVV.out (loopL_lt h) hpl]; exact decide_eq_true hin
                        clear hxh hpr hin
                        go_wp2_with fail
                        refine wp_region_quiet_below (by kernel_rfl) (by kernel_rfl) ?_
                        repeat (any_goals (first | go_big_quiet_step (with_reducible exact cD _ _) | quiet_step (with_reducible exact cD _ _)))
                        all_goals (refine wpQuiet_nil ?_; intro _ hw'; obtain ⟨⟨dq, osq⟩, hw''⟩ := hw'; subst hw'')
                        have hb2 := below_regrown wr dq osq
                        generalize grow (redrawn wr dq) osq = w2 at hb2 ⊢
                        have HBc := Lib.hid (below_trans_self HB.out hb2)
                        have HGc := Lib.hid (HG.out.below hb2)
                        have tC := fun n => Calls.quiet_of_same ((by have := sjHas_any lp (ps.extract m (m + 1)) (w2.drewN n) (by omega); rw [hhas] at this; exact this : Calls Tryz.prog 32 #[.string lp, .string (ps.extract m (m + 1))] (w2.drewN n) fun e w' => e = .returned (.bool true) ∧ w2.drewN n = w').mono fun _ _ ⟨a, b⟩ => ⟨a, b.symm⟩)
                        clear cD hb2 hhas
                        go_wp2_with fail
                        go_quiet (with_reducible exact tC _)
                        have HBd := Lib.hid (below_trans_self HBc.out (below_drewN w2 nq))
                        have HGd := Lib.hid (HGc.out.below (below_drewN w2 nq))
                        clear tC
                        go_wp2_with fail
                        go_roundw
                        case rel => exact ⟨m + 1, by omega, by go_num, HGd.out, HBd.out⟩
                        case measure => simp [intOf]; omega
                  · have cD : ∀ d os, Calls Tryz.prog 39 #[.slice A1 g.length c1, .string (hs.extract i (i + 1)), .string (lp.extract n (n + 1))] (grow (redrawn wr d) os) fun e w'' => e = .returned (.bool true) ∧ ∃ p : Regrown, w'' = grow (redrawn wr p.d) p.os := fun d os => by
                      have := HDI.out (hs.extract i (i + 1)) (lp.extract n (n + 1)) (grow (redrawn wr d) os) (gr_grown HG.out d os)
                      rw [HDH.out] at this
                      exact Calls.regrown_of this
                    go_wp2_with fail
                    refine wp_region_quiet_below (by kernel_rfl) (by kernel_rfl) ?_
                    repeat (any_goals (first | go_big_quiet_step (with_reducible exact cD _ _) | quiet_step (with_reducible exact cD _ _)))
                    all_goals (refine wpQuiet_nil ?_; intro _ hw'; obtain ⟨⟨dq, osq⟩, hw''⟩ := hw'; subst hw'')
                    have hb2 := below_regrown wr dq osq
                    generalize grow (redrawn wr dq) osq = w2 at hb2 ⊢
                    have HBc := Lib.hid (below_trans_self HB.out hb2)
                    have HGc := Lib.hid (HG.out.below hb2)
                    clear cD hb2
                    go_wp2_with fail
                    go_roundw
                    case rel => exact ⟨n + 1, by omega, by go_num, HGc.out, HBc.out⟩
                    case measure => simp [intOf]; omega
              · go_wp2_with fail
                go_roundw
                case rel => exact ⟨i + 1, by omega, by go_num, HG.out, HB.out⟩
                case measure => simp [intOf]; omega
          · by_cases hM0 : M.length = 0
            · have y1 : decide ((M.length : Int) = 0) = true := decide_eq_true (by omega)
              obtain rfl : tm = true := by rw [HTE.out]; exact decide_eq_true hM0
              go_wp2_with fail
              go_ret
              exact ⟨rfl, HB.out⟩
            · have y1 : decide ((M.length : Int) = 0) = false := decide_eq_false (by omega)
              have y2 : ¬ ((M.length : Int) = 0) := by omega
              have y3 : ((M.length : Int) == 0) = false := by simpa using hM0
              obtain rfl : tm = false := by rw [HTE.out]; exact decide_eq_false hM0
              go_wp2_with fail
              go_ret
              exact ⟨rfl, HB.out⟩
end Go.Proofs.YtdolbmonmkjajaaGreat
