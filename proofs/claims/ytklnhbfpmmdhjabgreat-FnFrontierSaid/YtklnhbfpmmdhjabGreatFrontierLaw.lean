/-
  The law FnFrontier, walked.
-/
import Derived.Test.YtklnhbfpmmdhjabGreatPrevN
import Derived.Test.YtklnhbfpmmdhjabGreatFrontier
import Derived.Test.YtklnhbfpmmdhjabGreatMeetOf
import Derived.Test.YtklnhbfpmmdhjabGreatDrawTwo
import Derived.Test.YtklnhbfpmmdhjabGreatReachedOf
namespace Go.Proofs.YtklnhbfpmmdhjabGreat
open Go.RowKit Go.Sort

theorem IsMeet.comm {g : List Bl} {a b m : Nat} (h : IsMeet g a b m) : IsMeet g b a m := ⟨h.2.1, h.1, fun x h1 h2 => h.2.2 x h2 h1⟩

theorem meet_some {g : List Bl} (hv : validB g = true) {a b : Nat} (ha : Rch g [] a) : ∃ m, IsMeet g a b m := by
  let l := (domL g a).filter fun x => dmB g x b
  have hml : ∀ x, x ∈ l ↔ Dm g x a ∧ Dm g x b := fun x => by
    show x ∈ (domL g a).filter _ ↔ _
    rw [List.mem_filter, mem_domL hv ha, dmB_iff hv]
  have hne : l ≠ [] := fun e => by
    have : 0 ∈ l := (hml 0).2 ⟨.entry g a, .entry g b⟩
    rw [e] at this; simp at this
  obtain ⟨p, hp, hm⟩ := line_last ha l hne fun x hx => ((hml x).1 hx).1
  exact ⟨p, ((hml p).1 hp).1, ((hml p).1 hp).2, fun x h1 h2 => hm x ((hml x).2 ⟨h1, h2⟩)⟩

theorem meet_facts (g : List Bl) (s t : ByteArray) : meetV g t s = meetV g s t ∧ (bothB g s t = true → domB g (meetV g s t) s = true ∧ domB g (meetV g s t) t = true) := by
  cases ha : liveOf g s with
  | none => exact ⟨by rw [meetV_none1 ha, meetV_none2 ha], fun h => by rw [both_none1 ha] at h; cases h⟩
  | some a =>
    cases hb : liveOf g t with
    | none => exact ⟨by rw [meetV_none1 hb, meetV_none2 hb], fun h => by rw [both_none2 hb] at h; cases h⟩
    | some b =>
      obtain ⟨hv, _, _, har⟩ := live_name ha
      obtain ⟨_, _, _, hbr⟩ := live_name hb
      obtain ⟨m, hm⟩ := meet_some hv (b := b) har
      have hmr := hm.1.live har
      have hml := hmr.lt hv
      have hlm : liveOf g (nthName g m) = some m := by rw [nthName_at hml]; exact liveOf_some hv (posOf_name hv hml) ((mem_reach hv).2 hmr)
      rw [meetV_some ha hb (meetN_is hv har hm), meetV_some hb ha (meetN_is hv hbr hm.comm)]
      refine ⟨rfl, fun _ => ⟨?_, ?_⟩⟩
      · rw [domB_some hlm ha]; exact (dmB_iff hv).2 hm.1
      · rw [domB_some hlm hb]; exact (dmB_iff hv).2 hm.2.1

/-- Whether one of the first k that go on to a block is dominated. -/
def innB (g : List Bl) (n t k : Nat) : Bool := ((prevN g t g.length).take k).any fun i => decide (i ∈ reach g) && dmB g n i

theorem innB_next {g : List Bl} {n t k : Nat} (h : k < (prevN g t g.length).length) : innB g n t (k + 1) = (innB g n t k || (decide ((prevN g t g.length)[k] ∈ reach g) && dmB g n (prevN g t g.length)[k])) := by
  unfold innB
  rw [List.take_succ_eq_append_getElem h, List.any_append]
  simp

theorem innB_all {g : List Bl} (hv : validB g = true) {n t : Nat} : innB g n t (prevN g t g.length).length = (reachS g).any fun i => dmB g n i && decide (t ∈ nxt g i) := by
  unfold innB
  rw [List.take_length, Bool.eq_iff_iff, List.any_eq_true, List.any_eq_true]
  constructor
  · rintro ⟨i, hi, h⟩
    obtain ⟨h1, h2⟩ := Bool.and_eq_true_iff.1 h
    unfold prevN at hi
    rw [List.mem_filter, decide_eq_true_iff] at hi
    exact ⟨i, (mem_reachS' hv).2 ((mem_reach hv).1 (of_decide_eq_true h1)), Bool.and_eq_true_iff.2 ⟨h2, decide_eq_true hi.2⟩⟩
  · rintro ⟨i, hi, h⟩
    obtain ⟨h1, h2⟩ := Bool.and_eq_true_iff.1 h
    have hr := (mem_reachS' hv).1 hi
    refine ⟨i, ?_, Bool.and_eq_true_iff.2 ⟨decide_eq_true ((mem_reach hv).2 hr), h1⟩⟩
    unfold prevN
    rw [List.mem_filter, decide_eq_true_iff, List.mem_range]
    exact ⟨hr.lt hv, of_decide_eq_true h2⟩

theorem domB_name {g : List Bl} (hv : validB g = true) {s : ByteArray} {n i : Nat} (hl : liveOf g s = some n) (hi : i < g.length) : domB g s g[i].1 = (decide (i ∈ reach g) && dmB g n i) := by
  by_cases h : i ∈ reach g
  · rw [domB_some hl (liveOf_some hv (posOf_name hv hi) h), decide_eq_true h, Bool.true_and]
  · rw [domB_none2 (liveOf_out (posOf_name hv hi) h), decide_eq_false h, Bool.false_and]

theorem front_none' {g : List Bl} {s : ByteArray} (h : liveB g s = false) : frontV g s = ⟨#[]⟩ := by
  unfold liveB at h
  unfold frontV
  cases hl : liveOf g s with
  | none => rfl
  | some n => rw [hl] at h; cases h

set_option maxRecDepth 100000 in
set_option maxHeartbeats 6400000 in
theorem frontier_walk (A B : Option Addr) (la ca lb cb : Nat) (w : World) (hA : Bytes w A la) (hBy : Bytes w B lb) (h1 : la ≤ ca) (h2 : lb ≤ cb) (h3 : ca ≤ 9223372036854775807) (h4 : cb ≤ 9223372036854775807) :
    Calls Tryz.prog 3 #[.slice A la ca, .slice B lb cb] w fun e w' => e = .returned (.bool true) ∧ Below w.heap.size w w' := by
  by_cases g1 : (1048576 : Int) < la
  · clear hA hBy
    go_enter Tryz.func3, Tryz.ntmps3
    go_wp2_with fail
    go_ret
    exact ⟨rfl, Below.refl _ _⟩
  by_cases g2 : (1048576 : Int) < lb
  · clear hA hBy
    go_enter Tryz.func3, Tryz.ntmps3
    go_wp2_with fail
    go_ret
    exact ⟨rfl, Below.refl _ _⟩
  have HA := Lib.hid (drawFrontierOf_any A la ca w hA h1 h3)
  have HBD := Lib.hid (fun w (h : Bytes w B lb) => drawMeetOf_any B lb cb w h h2 h4)
  have HBY := Lib.hid hBy
  clear hA hBy
  go_enter Tryz.func3, Tryz.ntmps3
  go_wp2_with fail
  refine HA.out.mono ?_
  intro e w1 hd1
  obtain ⟨A1, c1, g, nm, rfl, hc1, gg, hn1, hnm, b1⟩ := drawnPlace_of hd1
  have HB1 := Lib.hid b1
  have HG1 := Lib.hid gg
  have HBY1 := Lib.hid (HBY.out.below b1)
  clear hd1 b1 gg
  obtain ⟨fs, hfs⟩ : ∃ x, x = frontV g nm := ⟨_, rfl⟩
  obtain ⟨lo, hlo⟩ : ∃ x, x = liveB g nm := ⟨_, rfl⟩
  have HPI := Lib.hid (fun W (h : Gr W A1 g) => (hfs ▸ hlo ▸ implFrontier_any A1 c1 g nm W h (by omega) : Calls Tryz.prog 15 #[.slice A1 g.length c1, .string nm] W fun e w' => e = .returned (.tuple #[.string fs, .bool lo]) ∧ Below W.heap.size W w'))
  have HPS := Lib.hid (fun W (h : Gr W A1 g) => (hfs ▸ hlo ▸ specFrontier_any A1 c1 g nm W h (by omega) hc1 : Calls Tryz.prog 16 #[.slice A1 g.length c1, .string nm] W fun e w' => e = .returned (.tuple #[.string fs, .bool lo]) ∧ Below W.heap.size W w'))
  have HFS := Lib.hid hfs
  have HLO := Lib.hid hlo
  clear hfs hlo
  go_wp2_with fail
  refine (HPI.out w1 HG1.out).mono ?_
  rintro e w2 ⟨rfl, b2⟩
  have HG2 := Lib.hid (HG1.out.below b2)
  have HBY2 := Lib.hid (HBY1.out.below b2)
  have HB2 := Lib.hid (below_trans_self HB1.out b2)
  clear b2
  go_wp2_with fail
  refine (HPS.out w2 HG2.out).mono ?_
  rintro e w3 ⟨rfl, b3⟩
  have HG3 := Lib.hid (HG2.out.below b3)
  have HBY3 := Lib.hid (HBY2.out.below b3)
  have HB3 := Lib.hid (below_trans_self HB2.out b3)
  clear b3
  go_wp2_with fail
  refine (HBD.out w3 HBY3.out).mono ?_
  rintro e w4 ⟨A2, c2, h, sa, sb, rfl, hc2, hh, hn2, hsa, hsb, b4⟩
  have HG4 := Lib.hid (HG3.out.below b4)
  have HH4 := Lib.hid hh
  have HB4 := Lib.hid (below_trans_self HB3.out b4)
  clear b4 hh
  obtain ⟨mv, hmv⟩ : ∃ x, x = meetV h sa sb := ⟨_, rfl⟩
  obtain ⟨bo, hbo⟩ : ∃ x, x = bothB h sa sb := ⟨_, rfl⟩
  obtain ⟨bo2, hbo2⟩ : ∃ x, x = bothB h sb sa := ⟨_, rfl⟩
  obtain ⟨mf1, mf2⟩ := meet_facts h sa sb
  rw [← hmv] at mf1 mf2
  rw [← hbo] at mf2
  have HMI := Lib.hid (fun W (k : Gr W A2 h) => (hmv ▸ hbo ▸ implMeet_any A2 c2 h sa sb W k (by omega) : Calls Tryz.prog 18 #[.slice A2 h.length c2, .string sa, .string sb] W fun e w' => e = .returned (.tuple #[.string mv, .bool bo]) ∧ Below W.heap.size W w'))
  have HMS := Lib.hid (fun W (k : Gr W A2 h) => (hmv ▸ hbo ▸ specMeet_any A2 c2 h sa sb W k (by omega) hc2 : Calls Tryz.prog 19 #[.slice A2 h.length c2, .string sa, .string sb] W fun e w' => e = .returned (.tuple #[.string mv, .bool bo]) ∧ Below W.heap.size W w'))
  have HMB := Lib.hid (fun W (k : Gr W A2 h) => (by have := implMeet_any A2 c2 h sb sa W k (by omega); rw [mf1, ← hbo2] at this; exact this : Calls Tryz.prog 18 #[.slice A2 h.length c2, .string sb, .string sa] W fun e w' => e = .returned (.tuple #[.string mv, .bool bo2]) ∧ Below W.heap.size W w'))
  have HD1 := Lib.hid (fun W (k : Gr W A2 h) (e : bo = true) => (by have := implDominates_any A2 c2 h mv sa W k (by omega); rw [(mf2 e).1] at this; exact this : Calls Tryz.prog 20 #[.slice A2 h.length c2, .string mv, .string sa] W fun e w' => e = .returned (.bool true) ∧ Below W.heap.size W w'))
  have HD2 := Lib.hid (fun W (k : Gr W A2 h) (e : bo = true) => (by have := implDominates_any A2 c2 h mv sb W k (by omega); rw [(mf2 e).2] at this; exact this : Calls Tryz.prog 20 #[.slice A2 h.length c2, .string mv, .string sb] W fun e w' => e = .returned (.bool true) ∧ Below W.heap.size W w'))
  clear hmv hbo hbo2 mf1 mf2
  go_wp2_with fail
  refine (HMI.out w4 HH4.out).mono ?_
  rintro e w5 ⟨rfl, b5⟩
  have HG5 := Lib.hid (HG4.out.below b5)
  have HH5 := Lib.hid (HH4.out.below b5)
  have HB5 := Lib.hid (below_trans_self HB4.out b5)
  clear b5
  go_wp2_with fail
  refine (HMS.out w5 HH5.out).mono ?_
  rintro e w6 ⟨rfl, b6⟩
  have HG6 := Lib.hid (HG5.out.below b6)
  have HH6 := Lib.hid (HH5.out.below b6)
  have HB6 := Lib.hid (below_trans_self HB5.out b6)
  clear b6
  go_wp2_with fail
  refine (HMB.out w6 HH6.out).mono ?_
  rintro e w7 ⟨rfl, b7⟩
  have HG7 := Lib.hid (HG6.out.below b7)
  have HH7 := Lib.hid (HH6.out.below b7)
  have HB7 := Lib.hid (below_trans_self HB6.out b7)
  clear b7
  have t1 : (fs.toList == fs.toList) = true := by simp
  have t2 : (mv.toList == mv.toList) = true := by simp
  cases lo with
  | false =>
    have q0 : fs.toList = [] := by rw [HFS.out, front_none' HLO.out.symm, Lib.toList_data]
    cases bo
    case true =>
      go_wp2_with fail
      refine (HD1.out w7 HH7.out (by trivial)).mono ?_
      rintro e w8 ⟨rfl, b8⟩
      have HH8 := Lib.hid (HH7.out.below b8)
      have HB8 := Lib.hid (below_trans_self HB7.out b8)
      clear b8
      go_wp2_with fail
      refine (HD2.out w8 HH8.out (by trivial)).mono ?_
      rintro e w9 ⟨rfl, b9⟩
      have HB9 := Lib.hid (below_trans_self HB8.out b9)
      clear b9
      go_wp2_with fail
      go_ret
      exact ⟨rfl, HB9.out⟩
    case false =>
      go_wp2_with fail
      go_ret
      exact ⟨rfl, HB7.out⟩
  | true =>
    obtain ⟨n, hl⟩ : ∃ n, liveOf g nm = some n := by
      have := HLO.out
      unfold liveB at this
      cases h : liveOf g nm with
      | none => rw [h] at this; cases this
      | some n => exact ⟨n, rfl⟩
    obtain ⟨hv, hnl, hnme, hnr⟩ := live_name hl
    have h26 := (valid_iff.1 hv).2.1
    obtain ⟨F, hF⟩ : ∃ F, F = frontL g n := ⟨_, rfl⟩
    have hFl : (∀ x ∈ F, x < g.length) ∧ F.length ≤ 26 := hF ▸ front_lt hv n
    have hfe : fs = namesAt g F := by rw [HFS.out, hF]; unfold frontV; rw [hl]
    have hfz : fs.size ≤ 26 := by rw [hfe, namesAt_size hv _ hFl.1]; exact hFl.2
    obtain ⟨rs, hrs⟩ : ∃ x, x = reachV g := ⟨_, rfl⟩
    have hre : rs = namesAt g (reachS g) := by rw [hrs, reachV_yes hv]
    have hrl := reachS_lt g
    have hrz : rs.size = (reachS g).length := by rw [hre]; exact namesAt_size hv _ hrl
    have hr26 := reachS_small hv
    have HRI := Lib.hid (fun W (h : Gr W A1 g) => (by have := implReached_any A1 c1 g W h (by omega); rw [← hrs, hv] at this; exact this : Calls Tryz.prog 21 #[.slice A1 g.length c1] W fun e w' => e = .returned (.tuple #[.string rs, .bool true]) ∧ Below W.heap.size W w'))
    have HDM := Lib.hid (fun W (h : Gr W A1 g) t => (implDominates_any A1 c1 g nm t W h (by omega) : Calls Tryz.prog 20 #[.slice A1 g.length c1, .string nm, .string t] W fun e w' => e = .returned (.bool (domB g nm t)) ∧ Below W.heap.size W w'))
    have HPV := Lib.hid (fun W (h : Gr W A1 g) t => implPrev_any A1 c1 g t W h (by omega))
    have hrs26 : rs.size ≤ 26 := by omega
    have HV := Lib.hid hv
    have HL := Lib.hid hl
    have HNME := Lib.hid hnme
    have HRE := Lib.hid hre
    have HRZ := Lib.hid hrz
    have HRL := Lib.hid hrl
    have HFE := Lib.hid hfe
    have HFL := Lib.hid hFl.1
    have HFD := Lib.hid hF
    clear hl hv hnme hnr hF hFl hfe hrs hre hrl hrz hr26
    cases bo
    all_goals
      go_wp2_with fail
      first
        | ((with_reducible refine (HD1.out w7 HH7.out (by trivial)).mono ?_)
           rintro e w8 ⟨rfl, b8⟩
           have HG8 := Lib.hid (HG7.out.below b8)
           have HH8 := Lib.hid (HH7.out.below b8)
           have HB8 := Lib.hid (below_trans_self HB7.out b8)
           clear b8
           go_wp2_with fail
           refine (HD2.out w8 HH8.out (by trivial)).mono ?_
           rintro e w9 ⟨rfl, b9⟩
           have HG9 := Lib.hid (HG8.out.below b9)
           have HB9 := Lib.hid (below_trans_self HB8.out b9)
           clear b9
           go_wp2_with fail)
        | (have HG9 := HG7
           have HB9 := HB7)
      refine (HRI.out _ HG9.out).mono ?_
      rintro e w10 ⟨rfl, b10⟩
      have HG10 := Lib.hid (HG9.out.below b10)
      have HB10 := Lib.hid (below_trans_self HB9.out b10)
      clear b10
      go_wp2_with fail
      go_loopw [129] (fun iv wr => ∃ (k : Nat), k ≤ rs.size ∧ iv = .int .i64 k ∧ Below w10.heap.size w10 wr) (fun iv _ => rs.size - (intOf iv).toNat)
      case atStart => exact ⟨0, Nat.zero_le _, rfl, Below.refl _ _⟩
      case round =>
        obtain ⟨k, hk, rfl, hB⟩ := hrel
        have HGR := Lib.hid (HG10.out.below hB)
        have HBR := Lib.hid hB
        clear hB
        by_cases hlt : k < rs.size
        · have hkl : k < (reachS g).length := by rw [← HRZ.out]; exact hlt
          obtain ⟨f, hf⟩ : ∃ f, f = (reachS g)[k]'hkl := ⟨_, rfl⟩
          have hfl : f < g.length := hf ▸ HRL.out _ (List.getElem_mem hkl)
          have hfr : f ∈ reachS g := hf ▸ List.getElem_mem hkl
          obtain ⟨hz0, hcut⟩ := namesAt_cut HV.out HRL.out hkl
          have hex : rs.extract k (k + 1) = g[f].1 := by
            have e : rs.extract k (k + 1) = (namesAt g (reachS g)).extract k (k + 1) := congrArg (fun b : ByteArray => b.extract k (k + 1)) HRE.out
            rw [e, hcut]; congr 2; exact hf.symm
          obtain ⟨L, hL⟩ : ∃ L, L = prevN g f g.length := ⟨_, rfl⟩
          have hLl : ∀ i ∈ L, i < g.length := fun i hi => prevN_lt (Nat.le_refl _) i (hL ▸ hi)
          have hLn : L.length ≤ 26 := by
            rw [hL]
            have := List.length_filter_le (fun j => decide (f ∈ nxt g j)) (List.range g.length)
            rw [List.length_range] at this
            have e : (prevN g f g.length).length ≤ g.length := this
            omega
          obtain ⟨ps, hps⟩ : ∃ ps, ps = namesAt g L := ⟨_, rfl⟩
          have hpz : ps.size = L.length := by rw [hps]; exact namesAt_size HV.out _ hLl
          have hpe : prevVal g (rs.extract k (k + 1)) = ps := by
            rw [hps, hL, hex, prevVal_some HV.out (posOf_name HV.out hfl), prevs_all HV.out hfl]
          have hpr := HPV.out wr HGR.out (rs.extract k (k + 1))
          rw [hpe] at hpr
          have HPR := Lib.hid hpr
          obtain ⟨hb, hhb⟩ : ∃ hb, hb = hasB fs (rs.extract k (k + 1)) := ⟨_, rfl⟩
          have hhb2 : hb = frB g n f := by
            rw [hhb, hex, HFE.out, hasB_namesAt HV.out HFL.out hfl, HFD.out]
            unfold frontL
            rw [Bool.eq_iff_iff, decide_eq_true_iff, List.mem_filter]
            exact ⟨fun h => h.2, fun h => ⟨hfr, h⟩⟩
          have HHAS := Lib.hid (fun W => (hhb ▸ sjHas_any fs (rs.extract k (k + 1)) W (by omega) : Calls Tryz.prog 23 #[.string fs, .string (rs.extract k (k + 1))] W fun e w' => e = .returned (.bool hb) ∧ W = w'))
          have HHB := Lib.hid hhb2
          obtain ⟨nd, hnd⟩ : ∃ nd, nd = domB g nm (rs.extract k (k + 1)) := ⟨_, rfl⟩
          have hnd2 : nd = dmB g n f := by
            rw [hnd, hex, domB_name HV.out HL.out hfl, decide_eq_true ((mem_reach HV.out).2 ((mem_reachS' HV.out).1 hfr)), Bool.true_and]
          have HND := Lib.hid (fun W (h : Gr W A1 g) => (hnd ▸ HDM.out W h (rs.extract k (k + 1)) : Calls Tryz.prog 20 #[.slice A1 g.length c1, .string nm, .string (rs.extract k (k + 1))] W fun e w' => e = .returned (.bool nd) ∧ Below W.heap.size W w'))
          have HND2 := Lib.hid hnd2
          have hsame : ((rs.extract k (k + 1)).toList == nm.toList) = decide (f = n) := by
            rw [Bool.eq_iff_iff, decide_eq_true_iff, beq_toList, hex, HNME.out, nthName_at hnl]
            exact ⟨fun h => name_inj HV.out hfl hnl h, fun h => by subst h; rfl⟩
          obtain ⟨sm, hsm⟩ : ∃ sm, sm = decide (f = n) := ⟨_, rfl⟩
          rw [← hsm] at hsame
          have HSM := Lib.hid hsm
          have HSAME := Lib.hid hsame
          have HLL := Lib.hid hLl
          have HPS2 := Lib.hid hps
          have HPZ := Lib.hid hpz
          have HLE := Lib.hid hL
          have hk1 : k + 1 ≤ rs.size := by omega
          have hp26 : ps.size ≤ 26 := by omega
          clear hf hfr hcut hz0 hex hL hLl hps hpz hpe hpr hhb hhb2 hnd hnd2 hsame hsm
          go_wp2_with fail
          refine HPR.out.mono ?_
          rintro e w11 ⟨rfl, b11⟩
          have HG11 := Lib.hid (HGR.out.below b11)
          have HB11 := Lib.hid (HBR.out.trans (b11.mono HBR.out.size))
          clear b11
          go_wp2_with fail
          go_loopw [26, 145] (fun nv iv wr => ∃ (j : Nat) (c : Bool), j ≤ ps.size ∧ iv = .int .i64 j ∧ nv = .bool c ∧ Hid (c = innB g n f j) ∧ Below w11.heap.size w11 wr) (fun _ iv _ => ps.size - (intOf iv).toNat)
          case atStart => exact ⟨0, false, Nat.zero_le _, rfl, rfl, rfl, Below.refl _ _⟩
          case round =>
            obtain ⟨j, c, hj, rfl, rfl, HC, hB5⟩ := hrel
            have HG5' := Lib.hid (HG11.out.below hB5)
            have HB5' := Lib.hid hB5
            clear hB5
            by_cases hjd : j < ps.size
            · have hjl : j < L.length := by rw [← HPZ.out]; exact hjd
              have hjl2 : j < (prevN g f g.length).length := by rw [← HLE.out]; exact hjl
              obtain ⟨hz1, hcut⟩ := namesAt_cut HV.out HLL.out hjl
              have hpx : ps.extract j (j + 1) = g[L[j]].1 := by
                have e : ps.extract j (j + 1) = (namesAt g L).extract j (j + 1) := congrArg (fun b : ByteArray => b.extract j (j + 1)) HPS2.out
                rw [e, hcut]
              have heq : L[j]'hjl = (prevN g f g.length)[j]'hjl2 := by congr 1
              obtain ⟨dd, hdd⟩ : ∃ dd, dd = domB g nm (ps.extract j (j + 1)) := ⟨_, rfl⟩
              have hdd2 : dd = (decide ((prevN g f g.length)[j] ∈ reach g) && dmB g n (prevN g f g.length)[j]) := by
                rw [hdd, hpx, domB_name HV.out HL.out hz1, heq]
              have HDD := Lib.hid ((hdd ▸ HDM.out wr HG5'.out (ps.extract j (j + 1)) : Calls Tryz.prog 20 #[.slice A1 g.length c1, .string nm, .string (ps.extract j (j + 1))] wr fun e w' => e = .returned (.bool dd) ∧ Below wr.heap.size wr w'))
              have HN2 := Lib.hid (show innB g n f (j + 1) = (c || dd) by rw [innB_next hjl2, ← HC.out, ← hdd2])
              have hj1 : j + 1 ≤ ps.size := by omega
              clear hcut hz1 hpx heq hdd hdd2
              cases c with
              | true =>
                go_wp2_with fail
                go_roundw
                case rel => exact ⟨j + 1, true, by omega, by go_num, rfl, HN2.out.symm, HB5'.out⟩
                case measure => simp [intOf]; omega
              | false =>
                go_wp2_with fail
                refine HDD.out.mono ?_
                rintro e w12 ⟨rfl, b12⟩
                have HB12 := Lib.hid (HB5'.out.trans (b12.mono HB5'.out.size))
                clear b12
                go_wp2_with fail
                go_roundw
                case rel => exact ⟨j + 1, dd, by omega, by go_num, rfl, HN2.out.symm, HB12.out⟩
                case measure => simp [intOf]; omega
            · have hje : j = (prevN g f g.length).length := by rw [← HLE.out, ← HPZ.out]; omega
              have hend : hb = (c && (sm || !nd)) := by
                rw [HHB.out, HC.out, hje, innB_all HV.out, HSM.out, HND2.out]; try rfl
              have HBN := Lib.hid (HB11.out.trans (HB5'.out.mono HB11.out.size))
              have q9 := HSAME.out
              clear hje
              have hcase : (c = false ∧ hb = false) ∨ (c = true ∧ sm = true ∧ hb = true) ∨ (c = true ∧ sm = false ∧ hb = !nd) := by
                cases c <;> cases sm <;> simp [hend]
              clear hend
              rcases hcase with ⟨rfl, e⟩ | ⟨rfl, e1, e⟩ | ⟨rfl, e1, e⟩
              · rw [e] at HHAS
                clear e
                go_wp2_with fail
                refine (HHAS.out wr).mono ?_
                rintro e w12 ⟨rfl, rfl⟩
                go_wp2_with fail
                go_roundw
                case rel => exact ⟨k + 1, by omega, by go_num, HBN.out⟩
                case measure => simp [intOf]; omega
              · rw [e] at HHAS
                rw [e1] at q9
                clear e e1
                go_wp2_with fail
                refine (HHAS.out wr).mono ?_
                rintro e w12 ⟨rfl, rfl⟩
                go_wp2_with fail
                go_roundw
                case rel => exact ⟨k + 1, by omega, by go_num, HBN.out⟩
                case measure => simp [intOf]; omega
              · rw [e] at HHAS
                rw [e1] at q9
                clear e e1
                have HND3 := Lib.hid (HND.out wr HG5'.out)
                cases nd
                all_goals
                  go_wp2_with fail
                  refine (HHAS.out wr).mono ?_
                  rintro e w12 ⟨rfl, rfl⟩
                  go_wp2_with fail
                  refine HND3.out.mono ?_
                  rintro e w13 ⟨rfl, b13⟩
                  have HB13 := Lib.hid (HBN.out.trans (b13.mono HBN.out.size))
                  clear b13
                  go_wp2_with fail
                  go_roundw
                  case rel => exact ⟨k + 1, by omega, by go_num, HB13.out⟩
                  case measure => simp [intOf]; omega
        · go_wp2_with fail
          go_ret
          exact ⟨rfl, below_trans_self HB10.out HBR.out⟩
end Go.Proofs.YtklnhbfpmmdhjabGreat
