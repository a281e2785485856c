/-
  The law FnDomRun, walked.
-/
import Derived.Test.YtklnhbfpmmdhjaaPrevN
import Derived.Test.YtklnhbfpmmdhjaaDominatorsOf
import Derived.Test.YtklnhbfpmmdhjaaSpecRun
import Derived.Test.YtklnhbfpmmdhjaaDrawRun
namespace Go.Proofs.Ytklnhbfpmmdhjaa
open Go.RowKit Go.Sort

theorem runL_step {L rest : List (Nat × Nat)} {g : List Bl} {A : List Nat} (i : Nat) (hr : L = (i, 2) :: rest) (h0 : i ∉ A → Rch g A i)
    (ih : i ∉ A → ∀ k (hk : k < rest.length), (∀ y ∈ (rest.map (·.1)).take (k + 1), y ∉ A) → Rch g A rest[k].1)
    (j : Nat) (hj : j < L.length) (hy : ∀ y ∈ (L.map (·.1)).take (j + 1), y ∉ A) : Rch g A L[j].1 := by
  subst hr
  have hia : i ∉ A := hy i (by simp)
  cases j with
  | zero => exact h0 hia
  | succ k =>
    have hk : k < rest.length := by simpa using hj
    exact ih hia k hk fun y h => hy y (by rw [List.map_cons, List.take_succ_cons]; exact List.mem_cons_of_mem _ h)

/-- A run that has not come by some blocks has come by a way that avoids them. -/
theorem runL_rch {g : List Bl} (hv : validB g = true) {A : List Nat} : ∀ (m i : Nat) (left : List UInt8), i < g.length → (i ∉ A → Rch g A i) → ∀ j (hj : j < (runL g m i left).length),
    (∀ y ∈ ((runL g m i left).map (·.1)).take (j + 1), y ∉ A) → Rch g A (runL g m i left)[j].1
  | 0, i, left, _, _, j, hj, _ => by simp [runL] at hj
  | m + 1, i, left, hi, h0, j, hj, hy => by
    rcases goes hv hi with ⟨h, _⟩ | ⟨p, _, h, _⟩ | ⟨p, q, _, _, h, _⟩
    · rw [show runL g (m + 1) i left = [(i, 0)] from runL_stop h] at hj hy
      have : j = 0 := by simpa using hj
      subst this
      have e : (runL g (m + 1) i left)[0]? = some (i, 0) := by rw [runL_stop h]; rfl
      rw [Option.some.inj ((List.getElem?_eq_getElem _).symm.trans e)]
      exact h0 (hy i (by simp))
    · have hr : runL g (m + 1) i left = (i, 2) :: runL g m p left := runL_jump h
      have hn : p ∈ nxt g i := by rw [h]; simp
      exact runL_step i hr h0 (fun hia k hk hy2 => runL_rch hv m p left (nxt_lt hv hi hn) (fun hp => .step (h0 hia) hn hp) k hk hy2) j hj hy
    · cases left with
      | nil =>
        rw [show runL g (m + 1) i [] = [(i, 1)] from runL_ask h] at hj hy
        have : j = 0 := by simpa using hj
        subst this
        have e : (runL g (m + 1) i [])[0]? = some (i, 1) := by rw [runL_ask h]; rfl
        rw [Option.some.inj ((List.getElem?_eq_getElem _).symm.trans e)]
        exact h0 (hy i (by simp))
      | cons c l =>
        have hr : runL g (m + 1) i (c :: l) = (i, 2) :: runL g m (if c = 108 then p else q) l := runL_go h
        have hn : (if c = 108 then p else q) ∈ nxt g i := by rw [h]; split <;> simp
        exact runL_step i hr h0 (fun hia k hk hy2 => runL_rch hv m _ l (nxt_lt hv hi hn) (fun hp => .step (h0 hia) hn hp) k hk hy2) j hj hy

theorem namesAt_take (g : List Bl) (l : List Nat) {k : Nat} (hv : validB g = true) (hl : ∀ i ∈ l, i < g.length) (hk : k ≤ l.length) : (namesAt g l).extract 0 k = namesAt g (l.take k) := by
  have e : namesAt g l = namesAt g (l.take k) ++ namesAt g (l.drop k) := by rw [← namesAt_append, List.take_append_drop]
  have hz : (namesAt g (l.take k)).size = k := by rw [namesAt_size hv _ fun i hi => hl i ((List.take_subset _ _) hi), List.length_take]; omega
  rw [e]
  apply ba_ext
  have hl2 : (namesAt g (l.take k)).data.toList.length = k := by rw [Array.length_toList]; exact hz
  rw [← Lib.toList_data, Lib.extract_toList]
  simp only [List.drop_zero, Nat.sub_zero, ByteArray.data_append, Array.toList_append]
  rw [List.take_append_of_le_length (by omega), List.take_of_length_le (by omega)]

set_option maxRecDepth 100000 in
set_option maxHeartbeats 3200000 in
theorem domRun_walk (A : Option Addr) (la ca : Nat) (w : World) (hA : Bytes w A la) (h1 : la ≤ ca) (h3 : ca ≤ 9223372036854775807) :
    Calls Try.prog 9 #[.slice A la ca] w fun e w' => e = .returned (.bool true) ∧ Below w.heap.size w w' := by
  by_cases g1 : (1048576 : Int) < la
  · clear hA
    go_enter Try.func9, Try.ntmps9
    go_wp2_with fail
    go_ret
    exact ⟨rfl, Below.refl _ _⟩
  have HA := Lib.hid (drawRunGraph_any A la ca w hA h1 h3)
  clear hA
  go_enter Try.func9, Try.ntmps9
  go_wp2_with fail
  refine HA.out.mono ?_
  intro e w1 hd1
  obtain ⟨A1, c1, g, ch, rfl, hc1, gg, hn1, hch, b1⟩ := drawnRun_of hd1
  have HB1 := Lib.hid b1
  have HG := Lib.hid gg
  clear hd1 b1 gg
  obtain ⟨tr, htr⟩ : ∃ x, x = runT g ch := ⟨_, rfl⟩
  obtain ⟨z, hz⟩ : ∃ x, x = runE g ch := ⟨_, rfl⟩
  obtain ⟨rb, hrb⟩ : ∃ x, x = runB g ch := ⟨_, rfl⟩
  have HPI : Hid (∀ W, Gr W A1 g → Calls Try.prog 31 #[.slice A1 g.length c1, .string ch] W fun e w' => e = .returned (.tuple #[.string tr, .int .i64 z, .bool rb]) ∧ Below W.heap.size W w') := fun W h => by
    have := implRun_any A1 c1 g ch W h (by omega) (by omega)
    unfold RunPost at this
    rw [← htr, ← hz, ← hrb] at this
    exact this
  have HPS : Hid (∀ W, Gr W A1 g → Calls Try.prog 32 #[.slice A1 g.length c1, .string ch] W fun e w' => e = .returned (.tuple #[.string tr, .int .i64 z, .bool rb]) ∧ Below W.heap.size W w') := fun W h => by
    have := specRun_any A1 c1 g ch W h (by omega) hc1 (by omega)
    unfold RunPost at this
    rw [← htr, ← hz, ← hrb] at this
    exact this
  have HTR := Lib.hid htr
  have HRB := Lib.hid hrb
  clear htr hz hrb
  go_wp2_with fail
  refine (HPI.out w1 HG.out).mono ?_
  rintro e w2 ⟨rfl, b2⟩
  have HG2 := Lib.hid (HG.out.below b2)
  have HB2 := Lib.hid (below_trans_self HB1.out b2)
  clear b2
  go_wp2_with fail
  refine (HPS.out w2 HG2.out).mono ?_
  rintro e w3 ⟨rfl, b3⟩
  have HG3 := Lib.hid (HG2.out.below b3)
  have HB3 := Lib.hid (below_trans_self HB2.out b3)
  clear b3
  cases rb with
  | false =>
    have q0 : tr.toList = [] := by rw [HTR.out, runT_no HRB.out.symm, Lib.toList_data]
    go_wp2_with fail
    go_ret
    exact ⟨rfl, HB3.out⟩
  | true =>
    have hv : validB g = true := by
      cases h : validB g with
      | true => rfl
      | false => have := HRB.out; rw [runB_no h] at this; cases this
    have h26 := (valid_iff.1 hv).2.1
    have hpos := (valid_iff.1 hv).1
    obtain ⟨R, hR⟩ : ∃ R, R = (runOf g ch).map (·.1) := ⟨_, rfl⟩
    have hRl : ∀ i ∈ R, i < g.length := fun i hi => by
      rw [hR] at hi
      obtain ⟨x, hx, rfl⟩ := List.mem_map.1 hi
      exact runL_lt hv 60 0 _ hpos x hx
    have hRn : R.length ≤ 60 := by rw [hR, List.length_map]; exact runOf_le g ch
    have hte : tr = namesAt g R := by rw [HTR.out, runT_yes HRB.out.symm, hR]; rfl
    have htz : tr.size = R.length := by rw [hte]; exact namesAt_size hv _ hRl
    have hav : ∀ (Av : List Nat) k (hk : k < R.length), 0 ∉ Av ∨ 0 ∈ R.take (k + 1) → (∀ y ∈ R.take (k + 1), y ∉ Av) → Rch g Av R[k] := fun Av k hk _ hy => by
      have hk' : k < (runOf g ch).length := by rw [hR, List.length_map] at hk; exact hk
      have := runL_rch hv (A := Av) 60 0 ch.data.toList hpos (fun h => .start h) k hk' (by rw [hR] at hy; exact hy)
      have e : R[k] = (runOf g ch)[k].1 := by
        have e2 : R[k]? = ((runOf g ch).map (·.1))[k]? := by rw [hR]
        rw [List.getElem?_eq_getElem hk, List.getElem?_map, List.getElem?_eq_getElem hk'] at e2
        exact Option.some.inj e2
      rw [e]; exact this
    have hlive : ∀ k (hk : k < R.length), Rch g [] R[k] := fun k hk => hav [] k hk (.inl (by simp)) (by simp)
    have hdom : ∀ k (hk : k < R.length), ∀ d ∈ domL g R[k], d ∈ R.take (k + 1) := fun k hk d hd => by
      by_cases hc : d ∈ R.take (k + 1)
      · exact hc
      · exfalso
        have hr := hav [d] k hk (by
          by_cases e : 0 = d
          · right
            have hR0 : ∃ x r, runOf g ch = (0, x) :: r := by
              show ∃ x r, runL g 60 0 ch.data.toList = (0, x) :: r
              rcases goes hv hpos with ⟨h, _⟩ | ⟨p, _, h, _⟩ | ⟨p, q, _, _, h, _⟩
              · exact ⟨_, _, runL_stop (m := 59) h⟩
              · exact ⟨_, _, runL_jump (m := 59) h⟩
              · cases hl : ch.data.toList with
                | nil => exact ⟨_, _, runL_ask (m := 59) h⟩
                | cons c l => exact ⟨_, _, runL_go (m := 59) h⟩
            obtain ⟨x, r, e0⟩ := hR0
            rw [hR, e0, List.map_cons, List.take_succ_cons]; simp
          · exact .inl (by simpa using e)) (fun y hy e => by simp at e; subst e; exact hc hy)
        rcases (mem_domL hv (hlive k hk)).1 hd with e | e
        · exact hr.out (by simp [e])
        · exact e hr
    have HLV := Lib.hid hlive
    have HDOM := Lib.hid hdom
    have HV := Lib.hid hv
    have HRL := Lib.hid hRl
    have HTE := Lib.hid hte
    have HTZ := Lib.hid htz
    have ht60 : tr.size ≤ 60 := by omega
    clear hv hR hRl hRn hte htz hav hlive hdom
    go_wp2_with fail
    go_loopw [46] (fun iv wr => ∃ (k : Nat), k ≤ tr.size ∧ iv = .int .i64 k ∧ Below w3.heap.size w3 wr) (fun iv _ => tr.size - (intOf iv).toNat)
    case atStart => exact ⟨0, Nat.zero_le _, rfl, Below.refl _ _⟩
    case round =>
      obtain ⟨k, hk, rfl, hB⟩ := hrel
      have HGR := Lib.hid (HG3.out.below hB)
      have HBR := Lib.hid hB
      clear hB
      by_cases hlt : k < tr.size
      · have hkl : k < R.length := by rw [← HTZ.out]; exact hlt
        obtain ⟨x, hx⟩ : ∃ x, x = R[k]'hkl := ⟨_, rfl⟩
        have hxl : x < g.length := HRL.out x (hx ▸ List.getElem_mem hkl)
        have hxr : Rch g [] x := hx ▸ HLV.out k hkl
        obtain ⟨hz0, hcut⟩ := namesAt_cut HV.out HRL.out hkl
        have hex : tr.extract k (k + 1) = nthName g x := by
          rw [nthName_at hxl]
          have e : tr.extract k (k + 1) = (namesAt g R).extract k (k + 1) := congrArg (fun b : ByteArray => b.extract k (k + 1)) HTE.out
          rw [e, hcut]; congr 2; exact hx.symm
        obtain ⟨ds, hds⟩ : ∃ ds, ds = namesAt g (domL g x) := ⟨_, rfl⟩
        have hdl := domL_lt2 HV.out hxr
        have hdz : ds.size = (domL g x).length := by rw [hds]; exact namesAt_size HV.out _ hdl
        have hdn := domL_len HV.out x
        have hlo : liveOf g (tr.extract k (k + 1)) = some x := by rw [hex, nthName_at hxl]; exact liveOf_some HV.out (posOf_name HV.out hxl) ((mem_reach HV.out).2 hxr)
        have hdo := implDominators_any A1 c1 g (tr.extract k (k + 1)) wr HGR.out (by omega)
        rw [domV_some hlo, liveB_some hlo, ← hds] at hdo
        have HDO := Lib.hid hdo
        have HPT := Lib.hid (show tr.extract 0 (k + 1) = namesAt g (R.take (k + 1)) by
          have e : tr.extract 0 (k + 1) = (namesAt g R).extract 0 (k + 1) := congrArg (fun b : ByteArray => b.extract 0 (k + 1)) HTE.out
          rw [e]; exact namesAt_take g R HV.out HRL.out (by omega))
        have HIN := Lib.hid (show ∀ d ∈ domL g x, d ∈ R.take (k + 1) from hx ▸ HDOM.out k hkl)
        have HDS := Lib.hid hds
        have HDL := Lib.hid hdl
        have HDZ := Lib.hid hdz
        have hk1 : k + 1 ≤ tr.size := by omega
        have hd26 : ds.size ≤ 26 := by omega
        clear hx hxr hcut hz0 hex hds hdl hdz hdn hlo hdo
        go_wp2_with fail
        refine HDO.out.mono ?_
        rintro e w4 ⟨rfl, b4⟩
        have HB4 := Lib.hid (HBR.out.trans (b4.mono HBR.out.size))
        clear b4
        go_wp2_with fail
        go_loopw [63] (fun iv wr => ∃ (j : Nat), j ≤ ds.size ∧ iv = .int .i64 j ∧ Below w4.heap.size w4 wr) (fun iv _ => ds.size - (intOf iv).toNat)
        case atStart => exact ⟨0, Nat.zero_le _, rfl, Below.refl _ _⟩
        case round =>
          obtain ⟨j, hj, rfl, hB5⟩ := hrel
          have HB5 := Lib.hid hB5
          clear hB5
          by_cases hjd : j < ds.size
          · have hjl : j < (domL g x).length := by rw [← HDZ.out]; exact hjd
            obtain ⟨d, hd⟩ : ∃ d, d = (domL g x)[j]'hjl := ⟨_, rfl⟩
            have hdm : d ∈ domL g x := hd ▸ List.getElem_mem hjl
            have hdl2 := HDL.out d hdm
            obtain ⟨hz1, hcut⟩ := namesAt_cut HV.out HDL.out hjl
            have hpx : ds.extract j (j + 1) = g[d].1 := by
              have e : ds.extract j (j + 1) = (namesAt g (domL g x)).extract j (j + 1) := congrArg (fun b : ByteArray => b.extract j (j + 1)) HDS.out
              rw [e, hcut]; congr 2; exact hd.symm
            have hhas : hasB (tr.extract 0 (k + 1)) (ds.extract j (j + 1)) = true := by
              rw [HPT.out, hpx, hasB_namesAt HV.out (fun i hi => HRL.out i ((List.take_subset _ _) hi)) hdl2]
              exact decide_eq_true (HIN.out d hdm)
            have tS : ∀ m, Calls Try.prog 34 #[.string (tr.extract 0 (k + 1)), .string (ds.extract j (j + 1))] (wr.drewN m) fun e w'' => e = .returned (.bool true) ∧ ∃ m', w'' = wr.drewN m' := fun m => by
              have := sjHas_any (tr.extract 0 (k + 1)) (ds.extract j (j + 1)) (wr.drewN m) (by rw [ByteArray.size_extract]; omega)
              rw [hhas] at this
              exact this.mono fun _ _ ⟨p, q⟩ => ⟨p, m, q.symm⟩
            have hj1 : j + 1 ≤ ds.size := by omega
            have k0 : 0 ≤ k + 1 := by omega
            clear hd hdm hcut hz1 hpx hhas
            go_wp2_with fail
            go_quiet (with_reducible exact tS _)
            have HB6 := Lib.hid (HB5.out.trans ((below_drewN wr nq).mono HB5.out.size))
            clear tS
            go_wp2_with fail
            go_roundw
            case rel => exact ⟨j + 1, by omega, by go_num, HB6.out⟩
            case measure => simp [intOf]; omega
          · have HBN := Lib.hid (HB4.out.trans (HB5.out.mono HB4.out.size))
            go_wp2_with fail
            go_roundw
            case rel => exact ⟨k + 1, by omega, by go_num, HBN.out⟩
            case measure => simp [intOf]; omega
      · go_wp2_with fail
        go_ret
        exact ⟨rfl, below_trans_self HB3.out HBR.out⟩
end Go.Proofs.Ytklnhbfpmmdhjaa
