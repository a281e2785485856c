/-
  The law FnFrontierWays, walked.
-/
import Derived.Test.YtklnhbfpmmdhjaaPrevN
import Derived.Test.YtklnhbfpmmdhjaaFrontier
import Derived.Test.YtklnhbfpmmdhjaaDominates
import Derived.Test.YtklnhbfpmmdhjaaDomLaws
namespace Go.Proofs.Ytklnhbfpmmdhjaa
open Go.RowKit Go.Sort

/-- Of the first k of some blocks, those that are reached. -/
def liveF (g : List Bl) (l : List Nat) (k : Nat) : List Nat := (l.take k).filter fun i => decide (i ∈ reach g)
theorem liveF_no {g : List Bl} {l : List Nat} {k : Nat} (h : k < l.length) (hn : l[k] ∉ reach g) : liveF g l (k + 1) = liveF g l k := by
  unfold liveF; rw [filter_take h, if_neg (by simpa using hn), List.append_nil]
theorem liveF_yes {g : List Bl} {l : List Nat} {k : Nat} (h : k < l.length) (hn : l[k] ∈ reach g) : liveF g l (k + 1) = liveF g l k ++ [l[k]] := by
  unfold liveF; rw [filter_take h, if_pos (by simpa using hn)]

theorem two_mem {a b : Nat} (hab : a ≠ b) : ∀ {l : List Nat}, a ∈ l → b ∈ l → 2 ≤ l.length
  | [], h, _ => by simp at h
  | [x], h, k => by simp at h k; omega
  | _ :: _ :: _, _, _ => by simp

theorem front_mem {g : List Bl} (hv : validB g = true) {n f : Nat} (h : f ∈ frontL g n) : Rch g [] f ∧ ∃ i, Rch g [] i ∧ Dm g n i ∧ f ∈ nxt g i ∧ (f = n ∨ ¬ Dm g n f) := by
  obtain ⟨h1, h2⟩ := List.mem_filter.1 h
  refine ⟨(mem_reachS' hv).1 h1, ?_⟩
  unfold frB at h2
  rw [Bool.and_eq_true_iff, List.any_eq_true, Bool.or_eq_true_iff, decide_eq_true_iff, Bool.not_eq_true'] at h2
  obtain ⟨⟨i, hi, hd⟩, hq⟩ := h2
  rw [Bool.and_eq_true_iff, dmB_iff hv, decide_eq_true_iff] at hd
  have : dmB g n f = false ↔ ¬ Dm g n f := by rw [← dmB_iff hv]; simp
  rw [this] at hq
  exact ⟨i, (mem_reachS' hv).1 hi, hd.1, hd.2, hq⟩

theorem front_count {g : List Bl} (hv : validB g = true) {n f : Nat} (h : f ∈ frontL g n) : 1 ≤ (liveF g (prevN g f g.length) (prevN g f g.length).length).length ∧ (f ≠ 0 → 2 ≤ (liveF g (prevN g f g.length) (prevN g f g.length).length).length) := by
  obtain ⟨hf, i, hi, hd, hn, hq⟩ := front_mem hv h
  have hm : ∀ q, q ∈ liveF g (prevN g f g.length) (prevN g f g.length).length ↔ Rch g [] q ∧ f ∈ nxt g q := fun q => by
    unfold liveF prevN
    rw [List.take_length, List.mem_filter, List.mem_filter, List.mem_range, decide_eq_true_iff, decide_eq_true_iff, mem_reach hv]
    exact ⟨fun k => ⟨k.2, k.1.2⟩, fun k => ⟨⟨k.1.lt hv, k.2⟩, k.1⟩⟩
  refine ⟨List.length_pos_of_mem ((hm i).2 ⟨hi, hn⟩), fun h0 => ?_⟩
  obtain ⟨j, hji, hj, hjn⟩ := front_two hf h0 hi hd hn hq
  exact two_mem hji ((hm j).2 ⟨hj, hjn⟩) ((hm i).2 ⟨hi, hn⟩)

theorem front_none {g : List Bl} {s : ByteArray} (h : liveB g s = false) : frontV g s = ⟨#[]⟩ := by
  unfold liveB at h
  unfold frontV
  cases hl : liveOf g s with
  | none => rfl
  | some n => rw [hl] at h; cases h

theorem liveB_name {g : List Bl} (hv : validB g = true) {x : Nat} (hx : x < g.length) : liveB g (nthName g x) = decide (x ∈ reach g) := by
  unfold liveB
  rw [nthName_at hx, liveOf_at hv hx]
  by_cases h : x ∈ reach g
  · rw [if_pos h, decide_eq_true h]; rfl
  · rw [if_neg h, decide_eq_false h]; rfl

set_option maxRecDepth 100000 in
set_option maxHeartbeats 3200000 in
theorem frontierWays_walk (A : Option Addr) (la ca : Nat) (w : World) (hA : Bytes w A la) (h1 : la ≤ ca) (h3 : ca ≤ 9223372036854775807) :
    Calls Try.prog 10 #[.slice A la ca] w fun e w' => e = .returned (.bool true) ∧ Below w.heap.size w w' := by
  by_cases g1 : (1048576 : Int) < la
  · clear hA
    go_enter Try.func10, Try.ntmps10
    go_wp2_with fail
    go_ret
    exact ⟨rfl, Below.refl _ _⟩
  have HA := Lib.hid (drawFrontierOf_any A la ca w hA h1 h3)
  clear hA
  go_enter Try.func10, Try.ntmps10
  go_wp2_with fail
  refine HA.out.mono ?_
  intro e w1 hd1
  obtain ⟨A1, c1, g, nm, rfl, hc1, gg, hn1, hnm, b1⟩ := drawnPlace_of hd1
  have HB1 := Lib.hid b1
  have HG := Lib.hid gg
  clear hd1 b1 gg
  obtain ⟨fs, hfs⟩ : ∃ x, x = frontV g nm := ⟨_, rfl⟩
  obtain ⟨lo, hlo⟩ : ∃ x, x = liveB g nm := ⟨_, rfl⟩
  have HPI := Lib.hid (fun W (h : Gr W A1 g) => (hfs ▸ hlo ▸ implFrontier_any A1 c1 g nm W h (by omega) : Calls Try.prog 36 #[.slice A1 g.length c1, .string nm] W fun e w' => e = .returned (.tuple #[.string fs, .bool lo]) ∧ Below W.heap.size W w'))
  have HPS := Lib.hid (fun W (h : Gr W A1 g) => (hfs ▸ hlo ▸ specFrontier_any A1 c1 g nm W h (by omega) hc1 : Calls Try.prog 37 #[.slice A1 g.length c1, .string nm] W fun e w' => e = .returned (.tuple #[.string fs, .bool lo]) ∧ Below W.heap.size W w'))
  have HFS := Lib.hid hfs
  have HLO := Lib.hid hlo
  clear hfs hlo
  go_wp2_with fail
  refine (HPI.out w1 HG.out).mono ?_
  rintro e w2 ⟨rfl, b2⟩
  have HG2 := Lib.hid (HG.out.below b2)
  have HB2 := Lib.hid (below_trans_self HB1.out b2)
  clear b2
  go_wp2_with fail
  refine (HPS.out w2 HG2.out).mono ?_
  rintro e w3 ⟨rfl, b3⟩
  have HG3 := Lib.hid (HG2.out.below b3)
  have HB3 := Lib.hid (below_trans_self HB2.out b3)
  clear b3
  cases lo with
  | false =>
    have q0 : fs.toList = [] := by rw [HFS.out, front_none HLO.out.symm, Lib.toList_data]
    go_wp2_with fail
    go_ret
    exact ⟨rfl, HB3.out⟩
  | true =>
    obtain ⟨n, hl⟩ : ∃ n, liveOf g nm = some n := by
      have := HLO.out
      unfold liveB at this
      cases h : liveOf g nm with
      | none => rw [h] at this; cases this
      | some n => exact ⟨n, rfl⟩
    have hv := (live_name hl).1
    have h26 := (valid_iff.1 hv).2.1
    have hpos := (valid_iff.1 hv).1
    obtain ⟨F, hF⟩ : ∃ F, F = frontL g n := ⟨_, rfl⟩
    have hFl : (∀ x ∈ F, x < g.length) ∧ F.length ≤ 26 := hF ▸ front_lt hv n
    have hfe : fs = namesAt g F := by rw [HFS.out, hF]; unfold frontV; rw [hl]
    have hfz : fs.size = F.length := by rw [hfe]; exact namesAt_size hv _ hFl.1
    have HCNT := Lib.hid (fun f (h : f ∈ F) => front_count hv (show f ∈ frontL g n from hF ▸ h))
    have HV := Lib.hid hv
    have HFL := Lib.hid hFl.1
    have HFE := Lib.hid hfe
    have HFZ := Lib.hid hfz
    have hf26 : fs.size ≤ 26 := by have := hFl.2; omega
    clear hl hv hF hFl hfe hfz
    go_wp2_with fail
    go_loopw [43] (fun iv wr => ∃ (k : Nat), k ≤ fs.size ∧ iv = .int .i64 k ∧ Below w3.heap.size w3 wr) (fun iv _ => fs.size - (intOf iv).toNat)
    case atStart => exact ⟨0, Nat.zero_le _, rfl, Below.refl _ _⟩
    case round =>
      obtain ⟨k, hk, rfl, hB⟩ := hrel
      have HGR := Lib.hid (HG3.out.below hB)
      have HBR := Lib.hid hB
      clear hB
      by_cases hlt : k < fs.size
      · have hkl : k < F.length := by rw [← HFZ.out]; exact hlt
        obtain ⟨f, hf⟩ : ∃ f, f = F[k]'hkl := ⟨_, rfl⟩
        have hfm : f ∈ F := hf ▸ List.getElem_mem hkl
        have hfl := HFL.out f hfm
        obtain ⟨hz0, hcut⟩ := namesAt_cut HV.out HFL.out hkl
        have hex : fs.extract k (k + 1) = nthName g f := by
          rw [nthName_at hfl]
          have e : fs.extract k (k + 1) = (namesAt g F).extract k (k + 1) := congrArg (fun b : ByteArray => b.extract k (k + 1)) HFE.out
          rw [e, hcut]; congr 2; exact hf.symm
        obtain ⟨L, hL⟩ : ∃ L, L = prevN g f g.length := ⟨_, rfl⟩
        have hLl : ∀ i ∈ L, i < g.length := fun i hi => prevN_lt (Nat.le_refl _) i (hL ▸ hi)
        have hLn : L.length ≤ 26 := by
          rw [hL]
          have := List.length_filter_le (fun j => decide (f ∈ nxt g j)) (List.range g.length)
          rw [List.length_range] at this
          have e : (prevN g f g.length).length ≤ g.length := this
          omega
        obtain ⟨hc1', hc2'⟩ := HCNT.out f hfm
        rw [← hL] at hc1' hc2'
        obtain ⟨ps, hps⟩ : ∃ ps, ps = namesAt g L := ⟨_, rfl⟩
        have hpz : ps.size = L.length := by rw [hps]; exact namesAt_size HV.out _ hLl
        have hpe : prevVal g (fs.extract k (k + 1)) = ps := by
          rw [hps, hL, hex, nthName_at hfl, prevVal_some HV.out (posOf_name HV.out hfl), prevs_all HV.out hfl]
        have hpr := implPrev_any A1 c1 g (fs.extract k (k + 1)) wr HGR.out (by omega)
        rw [hpe] at hpr
        have HPR := Lib.hid hpr
        have HEX := Lib.hid hex
        have HLL := Lib.hid hLl
        have HPS2 := Lib.hid hps
        have HPZ := Lib.hid hpz
        have HC2 := Lib.hid hc2'
        have hk1 : k + 1 ≤ fs.size := by omega
        have hp26 : ps.size ≤ 26 := by omega
        clear hf hfm hcut hz0 hex hL hLl hps hpz hpe hpr hc2'
        go_wp2_with fail
        refine HPR.out.mono ?_
        rintro e w4 ⟨rfl, b4⟩
        have HG4 := Lib.hid (HGR.out.below b4)
        have HB4 := Lib.hid (HBR.out.trans (b4.mono HBR.out.size))
        clear b4
        go_wp2_with fail
        go_loopw [12, 58] (fun nv iv wr => ∃ (j c : Nat), j ≤ ps.size ∧ iv = .int .i64 j ∧ nv = .int .i64 c ∧ Hid (c = (liveF g L j).length) ∧ Below w4.heap.size w4 wr) (fun _ iv _ => ps.size - (intOf iv).toNat)
        case atStart => exact ⟨0, 0, Nat.zero_le _, rfl, rfl, rfl, Below.refl _ _⟩
        case round =>
          obtain ⟨j, c, hj, rfl, rfl, HC, hB5⟩ := hrel
          have HG5 := Lib.hid (HG4.out.below hB5)
          have HB5 := Lib.hid hB5
          have hcj : c ≤ j := by
            rw [HC.out]
            have := List.length_filter_le (fun i => decide (i ∈ reach g)) (L.take j)
            have := List.length_take_le j L
            unfold liveF; omega
          clear hB5
          by_cases hjd : j < ps.size
          · have hjl : j < L.length := by rw [← HPZ.out]; exact hjd
            obtain ⟨x, hx⟩ : ∃ x, x = L[j]'hjl := ⟨_, rfl⟩
            have hxl : x < g.length := HLL.out x (hx ▸ List.getElem_mem hjl)
            obtain ⟨hz1, hcut⟩ := namesAt_cut HV.out HLL.out hjl
            have hpx : ps.extract j (j + 1) = nthName g x := by
              rw [nthName_at hxl]
              have e : ps.extract j (j + 1) = (namesAt g L).extract j (j + 1) := congrArg (fun b : ByteArray => b.extract j (j + 1)) HPS2.out
              rw [e, hcut]; congr 2; exact hx.symm
            obtain ⟨lb, hlb⟩ : ∃ lb, lb = decide (x ∈ reach g) := ⟨_, rfl⟩
            have cD : ∀ d os, Calls Try.prog 39 #[.slice A1 g.length c1, .string (ps.extract j (j + 1)), .string (ps.extract j (j + 1))] (grow (redrawn wr d) os) fun e w'' => e = .returned (.bool lb) ∧ ∃ p : Regrown, w'' = grow (redrawn wr p.d) p.os := fun d os => by
              have := implDominates_any A1 c1 g (ps.extract j (j + 1)) (ps.extract j (j + 1)) (grow (redrawn wr d) os) (gr_grown HG5.out d os) (by omega)
              have e : domB g (ps.extract j (j + 1)) (ps.extract j (j + 1)) = lb := by rw [domB_self, hpx, liveB_name HV.out hxl, hlb]
              rw [e] at this
              exact Calls.regrown_of this
            have hj1 : j + 1 ≤ ps.size := by omega
            have HX := Lib.hid hx
            have HLB := Lib.hid hlb
            clear hx hcut hz1 hpx hlb
            cases lb with
            | false =>
              have HC3 : Hid (c = (liveF g L (j + 1)).length) := by
                have hno : L[j]'hjl ∉ reach g := by rw [← HX.out]; exact of_decide_eq_false HLB.out.symm
                show c = (liveF g L (j + 1)).length
                rw [liveF_no hjl hno]; exact HC.out
              go_wp2_with fail
              refine wp_region_quiet_below (by kernel_rfl) (by kernel_rfl) ?_
              repeat (any_goals (first | go_big_quiet_step (with_reducible exact cD _ _) | quiet_step (with_reducible exact cD _ _)))
              all_goals (refine wpQuiet_nil ?_; intro _ hw'; obtain ⟨⟨dq, osq⟩, hw''⟩ := hw'; subst hw'')
              have hb3 := below_regrown wr dq osq
              generalize grow (redrawn wr dq) osq = w5 at hb3 ⊢
              have HB6 := Lib.hid (HB5.out.trans (hb3.mono HB5.out.size))
              clear cD hb3
              go_wp2_with fail
              go_roundw
              case rel => exact ⟨j + 1, c, by omega, by go_num, rfl, HC3.out, HB6.out⟩
              case measure => simp [intOf]; omega
            | true =>
              have HC3 : Hid (c + 1 = (liveF g L (j + 1)).length) := by
                have hyes : L[j]'hjl ∈ reach g := by rw [← HX.out]; exact of_decide_eq_true HLB.out.symm
                show c + 1 = (liveF g L (j + 1)).length
                rw [liveF_yes hjl hyes, List.length_append, HC.out]; rfl
              go_wp2_with fail
              refine wp_region_quiet_below (by kernel_rfl) (by kernel_rfl) ?_
              repeat (any_goals (first | go_big_quiet_step (with_reducible exact cD _ _) | quiet_step (with_reducible exact cD _ _)))
              all_goals (refine wpQuiet_nil ?_; intro _ hw'; obtain ⟨⟨dq, osq⟩, hw''⟩ := hw'; subst hw'')
              have hb3 := below_regrown wr dq osq
              generalize grow (redrawn wr dq) osq = w5 at hb3 ⊢
              have HB6 := Lib.hid (HB5.out.trans (hb3.mono HB5.out.size))
              clear cD hb3
              go_wp2_with fail
              go_roundw
              case rel => exact ⟨j + 1, c + 1, by omega, by go_num, by go_num, HC3.out, HB6.out⟩
              case measure => simp [intOf]; omega
          · have hje : j = L.length := by rw [← HPZ.out]; omega
            rw [← hje, ← HC.out] at hc1'
            have HC2' := Lib.hid HC2.out
            have hc2 : f ≠ 0 → 2 ≤ c := fun h => by have := HC2.out h; rw [← hje, ← HC.out] at this; exact this
            obtain ⟨b, off, t0, t1, hA1, hb, hc0, _, he0, _⟩ := gr_at HG5.out hpos
            have x0 : wr.cell? ⟨b, off, none⟩ = some (.string t0) := by simpa using hc0
            have r1 : decide ((c : Int) < 1) = false := decide_eq_false (by omega)
            have HBN := Lib.hid (HB4.out.trans (HB5.out.mono HB4.out.size))
            have hgi : (0 : Int) < (g.length : Int) := by omega
            by_cases hc : 2 ≤ c
            · have r2 : decide ((c : Int) < 2) = false := decide_eq_false (by omega)
              clear hje hc2 hc0 he0
              subst hA1
              go_wp2_with fail
              go_quiet (fail)
              have HB6 := Lib.hid (HBN.out.trans ((below_drewN wr nq).mono HBN.out.size))
              go_wp2_with fail
              go_roundw
              case rel => exact ⟨k + 1, by omega, by go_num, HB6.out⟩
              case measure => simp [intOf]; omega
            · have hf0 : f = 0 := by
                by_cases e : f = 0
                · exact e
                · exact absurd (hc2 e) hc
              have r2 : decide ((c : Int) < 2) = true := decide_eq_true (by omega)
              have q1 : ((fs.extract k (k + 1)).toList == t0.toList) = true := by
                rw [HEX.out, hf0, nthName_at hpos, he0]; simp
              have q2 : ((fs.extract k (k + 1)).toList != t0.toList) = false := by
                rw [HEX.out, hf0, nthName_at hpos, he0]; simp
              clear hje hc2 hc0 he0 hf0
              subst hA1
              go_wp2_with fail
              go_quiet (fail)
              have HB6 := Lib.hid (HBN.out.trans ((below_drewN wr nq).mono HBN.out.size))
              go_wp2_with fail
              go_roundw
              case rel => exact ⟨k + 1, by omega, by go_num, HB6.out⟩
              case measure => simp [intOf]; omega
      · go_wp2_with fail
        go_ret
        exact ⟨rfl, below_trans_self HB3.out HBR.out⟩
end Go.Proofs.Ytklnhbfpmmdhjaa
