/-
  The law FnStopsText: where a graph and a text do the same, a way to the graph's end is one of the text, and the text begins with the graph's entry.
-/
import Derived.Test.YtgkamcnbpiipoaaGreatDrawBoth
import Derived.Test.YtgkamcnbpiipoaaGreatSameRuns
import Derived.Test.YtgkamcnbpiipoaaGreatImplWays
import Derived.Test.YtgkamcnbpiipoaaGreatPathRun
namespace Go.Proofs.YtgkamcnbpiipoaaGreat
open Go.RowKit Go.Sort
attribute [local go_sem] Oper.semAt_some

/-- All choices of so many bytes or fewer. -/
def genLR : Nat → List (List UInt8)
  | 0 => [[]]
  | n + 1 => [] :: ((genLR n).map (fun x => 108 :: x) ++ (genLR n).map (fun x => 114 :: x))
theorem genLR_mem : ∀ (n : Nat) (x : List UInt8), x.length ≤ n → (x.all fun c => c == 108 || c == 114) = true → x ∈ genLR n
  | 0, x, h, _ => by
    have : x = [] := List.eq_nil_of_length_eq_zero (by omega)
    subst this; exact List.mem_singleton.2 rfl
  | n + 1, [], _, _ => by rw [genLR]; exact List.mem_cons_self ..
  | n + 1, c :: x, h, h' => by
    rw [List.all_cons, Bool.and_eq_true, Bool.or_eq_true] at h'
    have hx := genLR_mem n x (by simpa using h) h'.2
    rw [genLR]
    refine List.mem_cons_of_mem _ ?_
    rcases h'.1 with e | e
    · rw [beq_iff_eq] at e; subst e; exact List.mem_append_left _ (List.mem_map_of_mem hx)
    · rw [beq_iff_eq] at e; subst e; exact List.mem_append_right _ (List.mem_map_of_mem hx)
theorem short_all {x : List UInt8} (h : x.length ≤ 6) (h' : (x.all fun c => c == 108 || c == 114) = true) : x ∈ shortL 6 := by
  have h1 := genLR_mem 6 x h h'
  have h2 : (genLR 6).all (fun y => decide (y ∈ shortL 6)) = true := by decide +kernel
  exact of_decide_eq_true (List.all_eq_true.1 h2 x h1)

/-- A way to a block that stops ends there. -/
theorem way_end {g : List Bl} {s : ByteArray} (hv : validB g = true) (h : WayAns g (Stops g) s true) (hs : SoonAt g [] (Stops g) s true) (hb : runB g s = true) : runE g s = 0 ∧ lrS s = true := by
  obtain ⟨i, m, hi, _, hm, hp⟩ := hs rfl
  have h26 := (valid_iff.1 hv).2.1
  refine ⟨by rw [runE_yes hb, path_stop hp (by omega) hi.2]; rfl, ?_⟩
  rcases h with ⟨_, h⟩ | ⟨h, _⟩
  · rcases h with ⟨_, h2, _⟩ | ⟨h, _⟩
    · exact h2
    · cases h
  · rw [hv] at h; cases h
theorem first_of1 {a s : ByteArray} (h : a.size = 1) : (a ++ s).extract 0 1 = a := by
  apply ba_ext
  have hl : a.data.toList.length = 1 := by rw [Array.length_toList]; exact h
  rw [← Lib.toList_data, Lib.extract_toList]
  simp only [List.drop_zero, Nat.sub_zero, ByteArray.data_append, Array.toList_append]
  rw [List.take_append_of_le_length (by omega), List.take_of_length_le (by omega)]
theorem first_name {g : List Bl} (hv : validB g = true) {s : ByteArray} (hb : runB g s = true) : 0 < (runT g s).size ∧ (runT g s).extract 0 1 = nthName g 0 := by
  rw [runT_yes hb]
  unfold traceOf runOf
  obtain ⟨e, r, hr⟩ := runL_head' g 59 0 s.data.toList
  rw [hr]
  have hpos := (valid_iff.1 hv).1
  have h1 : (nthName g 0).size = 1 := by
    obtain ⟨c, hc, _⟩ := valid_one hv (List.getElem_mem hpos)
    rw [nthName_at hpos, hc]; rfl
  rw [List.map_cons]
  show 0 < (nthName g 0 ++ namesAt g (r.map (·.1))).size ∧ (nthName g 0 ++ namesAt g (r.map (·.1))).extract 0 1 = nthName g 0
  exact ⟨by rw [ByteArray.size_append]; omega, first_of1 h1⟩

/-- What holds where they do the same. -/
theorem same_get {g : List Bl} {S : List UInt8} {r : Option (List UInt8)} (h : FO g S r) (hs : sameB g S r = true) : validB g = true ∧ ∃ l, textOk S l ∧ ∀ y ∈ shortL 6, Agr g l y := by
  unfold sameB at hs
  rw [Bool.and_eq_true, Bool.and_eq_true] at hs
  obtain ⟨l, hl⟩ := textB_get hs.1.2
  refine ⟨hs.1.1, l, hl, ?_⟩
  cases r with
  | some x => cases hs.2
  | none => exact h l hl hs.1.1

set_option maxRecDepth 100000 in
set_option maxHeartbeats 6400000 in
theorem stopsText_walk (A : Option Addr) (len cap : Nat) (w : World) (hb : Bytes w A len) (hlc : len ≤ cap) (hl : cap ≤ 9223372036854775807) :
    Calls Tryz.prog 4 #[.slice A len cap] w fun e w' => e = .returned (.bool true) ∧ Below w.heap.size w w' := by
  by_cases hbig : 1048576 < len
  · have hbI : (1048576 : Int) < len := by omega
    clear hb hlc hl
    go_enter Tryz.func4, Tryz.ntmps4
    go_wp2_with fail
    go_ret
    exact ⟨rfl, Below.refl _ _⟩
  have HC := Lib.hid ((drawSameRuns_any A len cap w hb hlc hl).mono fun _ _ h => drawnBoth_of h)
  have hbI : ¬ (1048576 : Int) < len := by omega
  clear hb
  go_enter Tryz.func4, Tryz.ntmps4
  go_wp2_with fail
  refine HC.out.mono ?_
  rintro e w1 ⟨A1, c1, g, S, rfl, hgc, hg1, hgn, hs, b1⟩
  have HB1 := Lib.hid b1
  have HG := Lib.hid hg1
  have hn : g.length + tot g ≤ 1048576 := by omega
  have HSI := Lib.hid (fun W (hgw : Gr W A1 g) => implSameRuns_any A1 c1 g S W hgw hn)
  have HSS := Lib.hid (fun W (hgw : Gr W A1 g) => specSameRuns_any A1 c1 g S W hgw hn hgc (by omega))
  have HSW := Lib.hid (fun W (hgw : Gr W A1 g) => implStops_any A1 c1 g W hgw hn)
  have HRT := Lib.hid (fun x W hx => implRunText_any S x W hx)
  clear b1 hg1 hgc hgn hs hn
  go_wp2_with fail
  refine (HSI.out w1 HG.out).mono ?_
  rintro e w2 ⟨r, hr, he, b2⟩
  obtain ⟨sm, hsm⟩ : ∃ sm, sm = sameB g S r := ⟨_, rfl⟩
  rw [← hsm] at he
  subst he
  have HR := Lib.hid hr
  have HSM := Lib.hid hsm
  have HG2 := Lib.hid (HG.out.below b2)
  have HB2 := Lib.hid (below_trans_self HB1.out b2)
  clear hr b2 hsm
  go_wp2_with fail
  refine (HSS.out w2 HG2.out).mono ?_
  rintro e w3 ⟨r', hr', he, b3⟩
  obtain rfl := HR.out.uniq hr'
  rw [← HSM.out] at he
  subst he
  have HG3 := Lib.hid (HG2.out.below b3)
  have HB3 := Lib.hid (below_trans_self HB2.out b3)
  clear hr' b3
  cases sm with
  | false =>
    go_wp2_with fail
    refine (HSS.out w3 HG3.out).mono ?_
    rintro e w4 ⟨r', hr', he, b4⟩
    obtain rfl := HR.out.uniq hr'
    rw [← HSM.out] at he
    subst he
    have HB4 := Lib.hid (below_trans_self HB3.out b4)
    clear hr' b4
    go_wp2_with fail
    go_ret
    exact ⟨rfl, HB4.out⟩
  | true =>
    obtain ⟨hv, l, hl1, hall⟩ := same_get HR.out HSM.out.symm
    have hpos := (valid_iff.1 hv).1
    obtain ⟨gb, go, rfl, _, _⟩ := HG3.out hpos
    have HV := Lib.hid hv
    have HTX := Lib.hid hl1
    have HALL := Lib.hid hall
    clear hv hl1 hall
    go_wp2_with fail
    refine (HSW.out w3 HG3.out).mono ?_
    rintro e w4 ⟨s, ok, rfl, hF, hS, b4⟩
    obtain ⟨X, rfl⟩ : ∃ X, s = tb X := ⟨_, (tb_of s).symm⟩
    have HF := Lib.hid hF
    have HSO := Lib.hid hS
    have HG4 := Lib.hid (HG3.out.below b4)
    have HB4 := Lib.hid (below_trans_self HB3.out b4)
    have hzX : (tb X).size = X.length := tb_size X
    clear hF hS b4
    have tailT : ∀ o, Runs (.l l) (rs0 []) o → 0 < (tb o.trace).size ∧ (tb o.trace).extract 0 1 = nthName g 0 := by
      intro o ho
      have h0 : ([] : List UInt8) ∈ shortL 6 := short_all (by simp) rfl
      obtain ⟨o', h1, h2, _⟩ := HALL.out [] h0
      rw [h1.uniq ho] at h2
      rw [h2]
      exact first_name HV.out (runB_yes HV.out (short_LR [] h0).1)
    have HTAIL := Lib.hid tailT
    clear tailT
    have hc : ok = true → X.length ≤ 6 → X ∈ shortL 6 ∧ runE g (tb X) = 0 := by
      intro hok h6
      subst hok
      obtain ⟨_, m, hi, _, hm, hp⟩ := HSO.out rfl
      have hLR : lrS (tb X) = true := by
        rcases HF.out with ⟨_, h⟩ | ⟨h, _⟩
        · rcases h with ⟨_, h2, _⟩ | ⟨h, _⟩
          · exact h2
          · cases h
        · rw [HV.out] at h; cases h
      have hx : X ∈ shortL 6 := short_all h6 (by unfold lrS isLR at hLR; rw [tb_data] at hLR; exact hLR)
      exact ⟨hx, (way_end HV.out HF.out HSO.out (runB_yes HV.out (short_LR X hx).1)).1⟩
    have HCX := Lib.hid hc
    clear hc
    have hname := nthName_at (g := g) hpos
    have HNAME := Lib.hid hname
    have HCELL := Lib.hid (fun W (hW : Gr W (some ⟨gb, go, none⟩) g) => by
      obtain ⟨b', o', he, _, h⟩ := hW hpos
      cases he
      have := (h 0 hpos).1
      rw [Nat.zero_mul, Nat.add_zero] at this
      exact (show W.cell? ⟨gb, go, none⟩ = some (.string g[0].1) from this))
    have HR0 : Hid (∀ W, Calls Tryz.prog 13 #[.string (tb S), .string ⟨#[]⟩] W fun e w' => ∃ o, RanT S [] o ∧ e = .returned (rtV o) ∧ Below W.heap.size W w') := Lib.hid (fun W => HRT.out [] W (by simp))
    clear hname
    by_cases hk : ok = true ∧ X.length ≤ 6
    · obtain ⟨hx, hE⟩ := HCX.out hk.1 hk.2
      obtain ⟨rfl, h6⟩ := hk
      have HX := Lib.hid hx
      have HE := Lib.hid hE
      have g6 : (X.length : Int) ≤ 6 := by omega
      have HR1 := Lib.hid (fun W => HRT.out X W (by omega))
      clear hx hE
      go_wp2_with fail
      refine (HR1.out w4).mono ?_
      rintro e w5 ⟨q, hq, rfl, b5⟩
      obtain ⟨o, rfl, hru⟩ := ran_short HTX.out HX.out hq
      have HB5 := Lib.hid (below_trans_self HB4.out b5)
      have HG5 := Lib.hid (HG4.out.below b5)
      have g7 : o.code = 0 := by
        obtain ⟨o', h1, _, h3⟩ := HALL.out X HX.out
        rw [h1.uniq hru, HE.out] at h3
        omega
      have g8 : ((o.code : Int) != 0) = false := by rw [g7]; rfl
      have g9 : ((o.code : Int) == 0) = true := by rw [g7]; rfl
      clear b5 hq hru g7
      unfold rtV
      go_wp2_with fail
      refine (HR0.out _).mono ?_
      rintro e w6 ⟨q0, hq0, rfl, b6⟩
      obtain ⟨o0, rfl, hru0⟩ := ran_short HTX.out (short_all (by simp) rfl) hq0
      have HB6 := Lib.hid (below_trans_self HB5.out b6)
      have c0 := HCELL.out _ (HG5.out.below b6)
      obtain ⟨t1, t2⟩ := HTAIL.out o0 hru0
      rw [HNAME.out] at t2
      have t3 : (tb o0.trace).toList.isEmpty = false := by
        rw [tb_toList]
        rw [tb_size] at t1
        cases h : o0.trace with
        | nil => rw [h] at t1; simp at t1
        | cons _ _ => rfl
      have t4 : (((tb o0.trace).extract 0 1).toList == (g[0].1).toList) = true := by rw [t2]; simp
      have t5 : (1 : Int) ≤ (tb o0.trace).size := by omega
      generalize hTR : (tb o0.trace) = TR at t1 t2 t3 t4 t5 
      clear b6 hq0 hru0 t2
      have hrv : rtV (some o0) = .tuple #[.string TR, .int .i64 (o0.code : Nat), .bool true] := by unfold rtV; simp only [hTR]
      rw [hrv]
      clear hTR hrv
      go_wp2_with fail
      go_quiet (fail)
      go_wp2_with fail
      go_ret
      exact ⟨rfl, HB6.out.trans ((below_drewN5 _ nq).mono HB6.out.size)⟩
    · have g6 : ok = true → ¬ (X.length : Int) ≤ 6 := fun h h' => hk ⟨h, by omega⟩
      cases ok with
      | false =>
        clear hk g6
        go_wp2_with fail
        refine (HR0.out _).mono ?_
        rintro e w6 ⟨q0, hq0, rfl, b6⟩
        obtain ⟨o0, rfl, hru0⟩ := ran_short HTX.out (short_all (by simp) rfl) hq0
        have HB6 := Lib.hid (below_trans_self HB4.out b6)
        have c0 := HCELL.out _ (HG4.out.below b6)
        obtain ⟨t1, t2⟩ := HTAIL.out o0 hru0
        rw [HNAME.out] at t2
        have t3 : (tb o0.trace).toList.isEmpty = false := by
          rw [tb_toList]
          rw [tb_size] at t1
          cases h : o0.trace with
          | nil => rw [h] at t1; simp at t1
          | cons _ _ => rfl
        have t4 : (((tb o0.trace).extract 0 1).toList == (g[0].1).toList) = true := by rw [t2]; simp
        have t5 : (1 : Int) ≤ (tb o0.trace).size := by omega
        generalize hTR : (tb o0.trace) = TR at t1 t2 t3 t4 t5 
        clear b6 hq0 hru0 t2
        have hrv : rtV (some o0) = .tuple #[.string TR, .int .i64 (o0.code : Nat), .bool true] := by unfold rtV; simp only [hTR]
        rw [hrv]
        clear hTR hrv
        go_wp2_with fail
        go_quiet (fail)
        go_wp2_with fail
        go_ret
        exact ⟨rfl, HB6.out.trans ((below_drewN5 _ nq).mono HB6.out.size)⟩
      | true =>
        have g7 := g6 rfl
        clear hk g6
        go_wp2_with fail
        refine (HR0.out _).mono ?_
        rintro e w6 ⟨q0, hq0, rfl, b6⟩
        obtain ⟨o0, rfl, hru0⟩ := ran_short HTX.out (short_all (by simp) rfl) hq0
        have HB6 := Lib.hid (below_trans_self HB4.out b6)
        have c0 := HCELL.out _ (HG4.out.below b6)
        obtain ⟨t1, t2⟩ := HTAIL.out o0 hru0
        rw [HNAME.out] at t2
        have t3 : (tb o0.trace).toList.isEmpty = false := by
          rw [tb_toList]
          rw [tb_size] at t1
          cases h : o0.trace with
          | nil => rw [h] at t1; simp at t1
          | cons _ _ => rfl
        have t4 : (((tb o0.trace).extract 0 1).toList == (g[0].1).toList) = true := by rw [t2]; simp
        have t5 : (1 : Int) ≤ (tb o0.trace).size := by omega
        generalize hTR : (tb o0.trace) = TR at t1 t2 t3 t4 t5 
        clear b6 hq0 hru0 t2
        have hrv : rtV (some o0) = .tuple #[.string TR, .int .i64 (o0.code : Nat), .bool true] := by unfold rtV; simp only [hTR]
        rw [hrv]
        clear hTR hrv
        go_wp2_with fail
        go_quiet (fail)
        go_wp2_with fail
        go_ret
        exact ⟨rfl, HB6.out.trans ((below_drewN5 _ nq).mono HB6.out.size)⟩
end Go.Proofs.YtgkamcnbpiipoaaGreat
