/-
  The law FnParentMeet, walked.
-/
import Derived.Test.YtkdmleoeolljoaaPrevN
import Derived.Test.YtkdmleoeolljoaaParentOf
import Derived.Test.YtkdmleoeolljoaaMeetOf
import Derived.Test.YtkdmleoeolljoaaDomLaws
namespace Go.Proofs.Ytkdmleoeolljoaa
open Go.RowKit Go.Sort

theorem meet_ex {g : List Bl} (hv : validB g = true) {a b : Nat} (ha : Rch g [] a) : ∃ m, IsMeet g a b m := by
  let l := (domL g a).filter fun x => dmB g x b
  have hml : ∀ x, x ∈ l ↔ Dm g x a ∧ Dm g x b := fun x => by
    show x ∈ (domL g a).filter _ ↔ _
    rw [List.mem_filter, mem_domL hv ha, dmB_iff hv]
  have hne : l ≠ [] := fun e => by
    have : 0 ∈ l := (hml 0).2 ⟨.entry g a, .entry g b⟩
    rw [e] at this; simp at this
  obtain ⟨p, hp, hm⟩ := line_last ha l hne fun x hx => ((hml x).1 hx).1
  exact ⟨p, ((hml p).1 hp).1, ((hml p).1 hp).2, fun x h1 h2 => hm x ((hml x).2 ⟨h1, h2⟩)⟩

/-- Of the first k of some blocks, those that are reached. -/
def liveL (g : List Bl) (l : List Nat) (k : Nat) : List Nat := (l.take k).filter fun i => decide (i ∈ reach g)

/-- Where the first k meet. -/
def MeetSo (g : List Bl) (l : List Nat) (k : Nat) (mt : ByteArray) : Prop :=
  (liveL g l k = [] ∧ mt = ⟨#[]⟩) ∨ ∃ m, liveL g l k ≠ [] ∧ AllMeet g (liveL g l k) m ∧ mt = nthName g m

theorem liveL_no {g : List Bl} {l : List Nat} {k : Nat} (h : k < l.length) (hn : l[k] ∉ reach g) : liveL g l (k + 1) = liveL g l k := by
  unfold liveL; rw [filter_take h, if_neg (by simpa using hn), List.append_nil]
theorem liveL_yes {g : List Bl} {l : List Nat} {k : Nat} (h : k < l.length) (hn : l[k] ∈ reach g) : liveL g l (k + 1) = liveL g l k ++ [l[k]] := by
  unfold liveL; rw [filter_take h, if_pos (by simpa using hn)]

theorem par_empty {g : List Bl} {s : ByteArray} (h : parO g s = false) : parV g s = ⟨#[]⟩ := by
  unfold parO at h
  unfold parV
  cases hl : liveOf g s with
  | none => rfl
  | some n =>
    rw [hl] at h
    have h' : (parL g n).isSome = false := h
    cases hp : parL g n with
    | none => exact parS_none hp
    | some p => rw [hp] at h'; cases h'

theorem par_full {g : List Bl} {s : ByteArray} (h : parO g s = true) : ∃ n p, liveOf g s = some n ∧ parL g n = some p ∧ parV g s = nthName g p := by
  unfold parO at h
  cases hl : liveOf g s with
  | none => rw [hl] at h; cases h
  | some n =>
    rw [hl] at h
    have h' : (parL g n).isSome = true := h
    cases hp : parL g n with
    | none => rw [hp] at h'; cases h'
    | some p => exact ⟨n, p, rfl, hp, by unfold parV; rw [hl]; exact parS_some hp⟩

theorem mem_prevN {g : List Bl} {u k i : Nat} : i ∈ prevN g u k ↔ i < k ∧ u ∈ nxt g i := by
  unfold prevN; rw [List.mem_filter, List.mem_range, decide_eq_true_iff]

/-- In the end the parent. -/
theorem meet_par {g : List Bl} (hv : validB g = true) {n p : Nat} (hn : Rch g [] n) (hp : parL g n = some p) {mt : ByteArray} (h : MeetSo g (prevN g n g.length) (prevN g n g.length).length mt) : mt = nthName g p := by
  have hpar := (parL_iff hv hn).1 hp
  have h0 : n ≠ 0 := fun e => par_entry (e ▸ hpar)
  have hP : ∀ q, q ∈ liveL g (prevN g n g.length) (prevN g n g.length).length ↔ Rch g [] q ∧ n ∈ nxt g q := fun q => by
    unfold liveL
    rw [List.take_length, List.mem_filter, mem_prevN, decide_eq_true_iff, mem_reach hv]
    exact ⟨fun k => ⟨k.2, k.1.2⟩, fun k => ⟨⟨k.1.lt hv, k.2⟩, k.1⟩⟩
  rcases h with ⟨e, _⟩ | ⟨m, _, hm, e⟩
  · obtain ⟨q, hq, hqn⟩ := rch_pred hn h0
    have := (hP q).2 ⟨hq.free, hqn⟩
    rw [e] at this; simp at this
  · rw [e, par_one (hm.par hn h0 hP) hpar]

set_option maxRecDepth 100000 in
set_option maxHeartbeats 3200000 in
theorem parentMeet_walk (A : Option Addr) (la ca : Nat) (w : World) (hA : Bytes w A la) (h1 : la ≤ ca) (h3 : ca ≤ 9223372036854775807) :
    Calls Try.prog 11 #[.slice A la ca] w fun e w' => e = .returned (.bool true) ∧ Below w.heap.size w w' := by
  by_cases g1 : (1048576 : Int) < la
  · clear hA
    go_enter Try.func11, Try.ntmps11
    go_wp2_with fail
    go_ret
    exact ⟨rfl, Below.refl _ _⟩
  have HA := Lib.hid (drawParentOf_any A la ca w hA h1 h3)
  clear hA
  go_enter Try.func11, Try.ntmps11
  go_wp2_with fail
  refine HA.out.mono ?_
  intro e w1 hd1
  obtain ⟨A1, c1, g, nm, rfl, hc1, gg, hn1, hnm, b1⟩ := drawnPlace_of hd1
  have HB1 := Lib.hid b1
  have HG := Lib.hid gg
  clear hd1 b1 gg
  obtain ⟨pv, hpv⟩ : ∃ x, x = parV g nm := ⟨_, rfl⟩
  obtain ⟨po, hpo⟩ : ∃ x, x = parO g nm := ⟨_, rfl⟩
  have HPI := Lib.hid (fun W (h : Gr W A1 g) => (hpv ▸ hpo ▸ implParent_any A1 c1 g nm W h (by omega) : Calls Try.prog 20 #[.slice A1 g.length c1, .string nm] W fun e w' => e = .returned (.tuple #[.string pv, .bool po]) ∧ Below W.heap.size W w'))
  have HPS := Lib.hid (fun W (h : Gr W A1 g) => (hpv ▸ hpo ▸ specParent_any A1 c1 g nm W h (by omega) hc1 : Calls Try.prog 19 #[.slice A1 g.length c1, .string nm] W fun e w' => e = .returned (.tuple #[.string pv, .bool po]) ∧ Below W.heap.size W w'))
  have HPV := Lib.hid hpv
  have HPO := Lib.hid hpo
  clear hpv hpo
  go_wp2_with fail
  refine (HPI.out w1 HG.out).mono ?_
  rintro e w2 ⟨rfl, b2⟩
  have HG2 := Lib.hid (HG.out.below b2)
  have HB2 := Lib.hid (below_trans_self HB1.out b2)
  clear b2
  go_wp2_with fail
  refine (HPS.out w2 HG2.out).mono ?_
  rintro e w3 ⟨rfl, b3⟩
  have HG3 := Lib.hid (HG2.out.below b3)
  have HB3 := Lib.hid (below_trans_self HB2.out b3)
  clear b3
  cases po with
  | false =>
    have q0 : pv.toList = [] := by rw [HPV.out, par_empty HPO.out.symm, Lib.toList_data]
    go_wp2_with fail
    go_ret
    exact ⟨rfl, HB3.out⟩
  | true =>
    obtain ⟨n, p, hl, hp, hv0⟩ := par_full HPO.out.symm
    obtain ⟨hv, hnl, hs, hr⟩ := live_name hl
    have h26 := (valid_iff.1 hv).2.1
    obtain ⟨L, hL⟩ : ∃ L, L = prevN g n g.length := ⟨_, rfl⟩
    have hLl : ∀ i ∈ L, i < g.length := fun i hi => prevN_lt (Nat.le_refl _) i (hL ▸ hi)
    have hLn : L.length ≤ 26 := by
      rw [hL]
      have := List.length_filter_le (fun j => decide (n ∈ nxt g j)) (List.range g.length)
      rw [List.length_range] at this
      have e : (prevN g n g.length).length ≤ g.length := this
      omega
    obtain ⟨ps, hps⟩ : ∃ ps, ps = prevVal g nm := ⟨_, rfl⟩
    have hpe : ps = namesAt g L := by
      rw [hps, hL]
      have hpos : posOf g nm = some n := by rw [hs, nthName_at hnl]; exact posOf_name hv hnl
      rw [prevVal_some hv hpos, hs, nthName_at hnl, prevs_all hv hnl]
    have hpz : ps.size = L.length := by rw [hpe]; exact namesAt_size hv _ hLl
    have HPR := Lib.hid (fun W (h : Gr W A1 g) => (hps ▸ implPrev_any A1 c1 g nm W h (by omega) : Calls Try.prog 31 #[.slice A1 g.length c1, .string nm] W fun e w' => e = .returned (.tuple #[.string ps, .bool (nextHas g nm)]) ∧ Below W.heap.size W w'))
    have HV := Lib.hid hv
    have HL := Lib.hid hL
    have HLL := Lib.hid hLl
    have HPE := Lib.hid hpe
    have HPZ := Lib.hid hpz
    have HEND := Lib.hid (fun mt (h : MeetSo g L L.length mt) => show mt = pv by rw [HPV.out, hv0]; rw [hL] at h; exact meet_par hv hr hp h)
    have HN := Lib.hid (show MeetSo g L 0 ⟨#[]⟩ from .inl ⟨rfl, rfl⟩)
    have hp26 : ps.size ≤ 26 := by omega
    clear hl hp hv0 hv hs hr hL hLl hpe hps hpz
    go_wp2_with fail
    refine (HPR.out w3 HG3.out).mono ?_
    rintro e w4 ⟨rfl, b4⟩
    have HG4 := Lib.hid (HG3.out.below b4)
    have HB4 := Lib.hid (below_trans_self HB3.out b4)
    clear b4
    go_wp2_with fail
    go_loopw [11, 50] (fun mv iv wr => ∃ (k : Nat) (mt : ByteArray), k ≤ ps.size ∧ iv = .int .i64 k ∧ mv = .string mt ∧ Hid (MeetSo g L k mt) ∧ Below w4.heap.size w4 wr) (fun _ iv _ => ps.size - (intOf iv).toNat)
    case atStart => exact ⟨0, ⟨#[]⟩, Nat.zero_le _, rfl, rfl, HN.out, Below.refl _ _⟩
    case round =>
      obtain ⟨k, mt, hk, rfl, rfl, HM, hB⟩ := hrel
      have HGR := Lib.hid (HG4.out.below hB)
      have HBR := Lib.hid hB
      clear hB
      by_cases hlt : k < ps.size
      · have hkl : k < L.length := by rw [← HPZ.out]; exact hlt
        obtain ⟨x, hx⟩ : ∃ x, x = L[k]'hkl := ⟨_, rfl⟩
        have hxl : x < g.length := HLL.out x (hx ▸ List.getElem_mem hkl)
        obtain ⟨hz0, hcut⟩ := namesAt_cut HV.out HLL.out hkl
        have hex : ps.extract k (k + 1) = nthName g x := by
          rw [nthName_at hxl]
          have e : ps.extract k (k + 1) = (namesAt g L).extract k (k + 1) := congrArg (fun b : ByteArray => b.extract k (k + 1)) HPE.out
          rw [e, hcut]; congr 2; exact hx.symm
        obtain ⟨px, hpx⟩ : ∃ px, px = ps.extract k (k + 1) := ⟨_, rfl⟩
        have hpn : px = nthName g x := hpx.trans hex
        have hlx : liveB g px = decide (x ∈ reach g) := by
          unfold liveB
          rw [hpn, nthName_at hxl, show liveOf g g[x].1 = if x ∈ reach g then some x else none from by
            by_cases h : x ∈ reach g
            · rw [if_pos h, liveOf_some HV.out (posOf_name HV.out hxl) h]
            · rw [if_neg h, liveOf_out (posOf_name HV.out hxl) h]]
          by_cases h : x ∈ reach g
          · rw [if_pos h, decide_eq_true h]; rfl
          · rw [if_neg h, decide_eq_false h]; rfl
        obtain ⟨lb, hlb⟩ : ∃ lb, lb = liveB g px := ⟨_, rfl⟩
        have cD : ∀ d os, Calls Try.prog 18 #[.slice A1 g.length c1, .string (ps.extract k (k + 1)), .string (ps.extract k (k + 1))] (grow (redrawn wr d) os) fun e w'' => e = .returned (.bool lb) ∧ ∃ p : Regrown, w'' = grow (redrawn wr p.d) p.os := fun d os => by
          have := implDominates_any A1 c1 g (ps.extract k (k + 1)) (ps.extract k (k + 1)) (grow (redrawn wr d) os) (gr_grown HGR.out d os) (by omega)
          rw [domB_self, ← hpx, ← hlb] at this
          rw [← hpx]
          exact Calls.regrown_of this
        have hk1 : k + 1 ≤ ps.size := by omega
        have HX := Lib.hid hx
        have HEX := Lib.hid hex
        have HLB := Lib.hid (hlb.trans hlx)
        clear hx hcut hz0 hex hpx hpn hlx hlb
        cases lb with
        | false =>
          have HM2 : Hid (MeetSo g L (k + 1) mt) := by
            have hno : L[k]'hkl ∉ reach g := by rw [← HX.out]; exact of_decide_eq_false HLB.out.symm
            have := HM.out
            unfold MeetSo at this ⊢
            rw [liveL_no hkl hno]; exact this
          go_wp2_with fail
          refine wp_region_quiet_below (by kernel_rfl) (by kernel_rfl) ?_
          repeat (any_goals (first | go_big_quiet_step (with_reducible exact cD _ _) | quiet_step (with_reducible exact cD _ _)))
          all_goals (refine wpQuiet_nil ?_; intro _ hw'; obtain ⟨⟨dq, osq⟩, hw''⟩ := hw'; subst hw'')
          have hb3 := below_regrown wr dq osq
          generalize grow (redrawn wr dq) osq = w5 at hb3 ⊢
          have HB5 := Lib.hid (HBR.out.trans (hb3.mono HBR.out.size))
          clear cD hb3
          go_wp2_with fail
          go_roundw
          case rel => exact ⟨k + 1, mt, by omega, by go_num, rfl, HM2.out, HB5.out⟩
          case measure => simp [intOf]; omega
        | true =>
          have hyes : L[k]'hkl ∈ reach g := by rw [← HX.out]; exact of_decide_eq_true HLB.out.symm
          have hxr : Rch g [] x := (mem_reach HV.out).1 (HX.out ▸ hyes)
          have HLY := Lib.hid (show liveL g L (k + 1) = liveL g L k ++ [x] by rw [liveL_yes hkl hyes, ← HX.out])
          have HXR := Lib.hid hxr
          clear hyes hxr
          rcases HM.out with ⟨e0, em⟩ | ⟨m, en, hm, em⟩
          · have HM2 : Hid (MeetSo g L (k + 1) (ps.extract k (k + 1))) := by
              refine .inr ⟨x, by rw [HLY.out]; simp, ?_, HEX.out⟩
              rw [HLY.out, e0]; exact AllMeet.one HXR.out
            have q0 : mt.toList = [] := by rw [em, Lib.toList_data]
            clear e0 em
            go_wp2_with fail
            refine wp_region_quiet_below (by kernel_rfl) (by kernel_rfl) ?_
            repeat (any_goals (first | go_big_quiet_step (with_reducible exact cD _ _) | quiet_step (with_reducible exact cD _ _)))
            all_goals (refine wpQuiet_nil ?_; intro _ hw'; obtain ⟨⟨dq, osq⟩, hw''⟩ := hw'; subst hw'')
            have hb3 := below_regrown wr dq osq
            generalize grow (redrawn wr dq) osq = w5 at hb3 ⊢
            have HB5 := Lib.hid (HBR.out.trans (hb3.mono HBR.out.size))
            clear cD hb3
            go_wp2_with fail
            go_roundw
            case rel => exact ⟨k + 1, _, by omega, by go_num, rfl, HM2.out, HB5.out⟩
            case measure => simp [intOf]; omega
          · have hml := hm.1.lt HV.out
            obtain ⟨m', hm'⟩ := meet_ex HV.out (b := x) hm.1
            have hlm : liveOf g mt = some m := by rw [em, nthName_at hml]; exact liveOf_some HV.out (posOf_name HV.out hml) ((mem_reach HV.out).2 hm.1)
            have hlx : liveOf g (ps.extract k (k + 1)) = some x := by rw [HEX.out, nthName_at (HXR.out.lt HV.out)]; exact liveOf_some HV.out (posOf_name HV.out (HXR.out.lt HV.out)) ((mem_reach HV.out).2 HXR.out)
            obtain ⟨mv, hmv⟩ : ∃ mv, mv = nthName g m' := ⟨_, rfl⟩
            have HMM := Lib.hid (fun W (h : Gr W A1 g) => (by
              have := implMeet_any A1 c1 g mt (ps.extract k (k + 1)) W h (by omega)
              rw [meetV_some hlm hlx (meetN_is HV.out hm.1 hm'), both_some hlm hlx, ← hmv] at this
              exact this : Calls Try.prog 28 #[.slice A1 g.length c1, .string mt, .string (ps.extract k (k + 1))] W fun e w' => e = .returned (.tuple #[.string mv, .bool true]) ∧ Below W.heap.size W w'))
            have HM2 : Hid (MeetSo g L (k + 1) mv) := by
              refine .inr ⟨m', by rw [HLY.out]; simp, ?_, hmv⟩
              rw [HLY.out]; exact hm.more hm'
            have q0 : (mt.toList == ([] : List UInt8)) = false := beq_emp (by rw [em, one_size HV.out hml]; omega)
            clear en hm em hml hm' hlm hlx hmv
            go_wp2_with fail
            refine wp_region_quiet_below (by kernel_rfl) (by kernel_rfl) ?_
            repeat (any_goals (first | go_big_quiet_step (with_reducible exact cD _ _) | quiet_step (with_reducible exact cD _ _)))
            all_goals (refine wpQuiet_nil ?_; intro _ hw'; obtain ⟨⟨dq, osq⟩, hw''⟩ := hw'; subst hw'')
            have hb3 := below_regrown wr dq osq
            generalize grow (redrawn wr dq) osq = w5 at hb3 ⊢
            have HG5 := Lib.hid (HGR.out.below hb3)
            have HB5 := Lib.hid (HBR.out.trans (hb3.mono HBR.out.size))
            clear cD hb3
            go_wp2_with fail
            refine (HMM.out w5 HG5.out).mono ?_
            rintro e w6 ⟨rfl, b6⟩
            have HB6 := Lib.hid (HB5.out.trans (b6.mono HB5.out.size))
            clear b6
            go_wp2_with fail
            go_roundw
            case rel => exact ⟨k + 1, mv, by omega, by go_num, rfl, HM2.out, HB6.out⟩
            case measure => simp [intOf]; omega
      · have hke : k = L.length := by rw [← HPZ.out]; omega
        have hq : (mt.toList == pv.toList) = true := by
          rw [HEND.out mt (hke ▸ HM.out)]; simp
        clear hke
        go_wp2_with fail
        go_ret
        exact ⟨rfl, below_trans_self HB4.out HBR.out⟩
end Go.Proofs.Ytkdmleoeolljoaa
