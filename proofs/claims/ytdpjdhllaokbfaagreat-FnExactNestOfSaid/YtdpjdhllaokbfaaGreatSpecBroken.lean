/-
  The model's first broken part.
-/
import Derived.Test.YtdpjdhllaokbfaaGreatSpecPartsOf
namespace Go.Proofs.YtdpjdhllaokbfaaGreat
open Go.RowKit Go.Sort

theorem allP_outer (xs : List NI) : allP xs = (outerP xs).flatMap fun r => r :: allP r.2.2 := by
  induction xs with
  | nil => rw [allP_nil]; rfl
  | cons x xs ih =>
    rw [allP_cons, ih]
    have e : outerP (x :: xs) = outerN x ++ outerP xs := rfl
    rw [e, List.flatMap_append]
    congr 1
    cases x with
    | blk i => rw [partsN_blk]; rfl
    | part P D W => rw [partsN_part]; simp [outerN]
theorem parts_eq {g : List Bl} {m : Nat} {W C : List Nat} (hW : ∀ x ∈ W, x < g.length) (hm : (cutL W C).length ≤ m) : prtL g (cutL W C) W = (outerP (nestF g m (cutL W C))).map (·.1) := by
  rw [prtL_cut hW]
  cases m with
  | zero =>
    have e : cutL W C = [] := List.eq_nil_of_length_eq_zero (by omega)
    rw [e]; rfl
  | succ m => rw [prtL_outer]
theorem cut_rest {W C P D : List Nat} (h : ∀ x ∈ P, x ∈ cutL W C) : cutL P (C ++ D) = restL P D := by
  unfold restL
  have e : cutL P (C ++ D) = P.filter fun x => decide (x ∉ C ++ D) := rfl
  rw [e]
  refine List.filter_congr fun x hx => ?_
  have := (mem_cutL.1 (h x hx)).2
  rw [decide_eq_decide, List.mem_append]
  exact ⟨fun h k => h (.inr k), fun h k => by rcases k with k | k <;> contradiction⟩
/-- What is known of a part among some reached blocks. -/
theorem outer_known {g : List Bl} (hv : validB g = true) {m : Nat} {W C : List Nat} (hW : ∀ x ∈ W, x ∈ reachS g) {r : PT} (h : r ∈ outerP (nestF g (m + 1) (cutL W C))) :
    (∀ x ∈ r.1, x ∈ cutL W C) ∧ r.1.Pairwise (· < ·) ∧ 0 < r.1.length ∧ r.2.1 = doorsL g r.1 ∧ 0 < (doorsL g r.1).length ∧ ((doorsL g r.1).length = 1 → r.2.2 = nestF g m (cutL r.1 (C ++ doorsL g r.1))) ∧ ((doorsL g r.1).length ≠ 1 → r.2.2 = []) ∧ (cutL r.1 (C ++ doorsL g r.1)).length < (cutL W C).length := by
  have hS : ∀ x ∈ cutL W C, x < g.length := fun x hx => reach_ok hv _ (hW x (mem_cutL.1 hx).1)
  obtain ⟨j, hj, e, h1, h2, h3, h4⟩ := mem_outer h
  have hsub : ∀ x ∈ r.1, x ∈ cutL W C := fun x hx => by rw [e] at hx; exact partL_sub hS hx
  have hpos : 0 < r.1.length := List.length_pos_iff.2 h1
  have hd : ∃ d, d ∈ doorsL g r.1 := by
    have hm := List.getElem_mem hpos
    exact door_some hv hm ((mem_reachP hv).1 (hW _ (mem_cutL.1 (hsub _ hm)).1))
  obtain ⟨d, hd⟩ := hd
  have hc := cut_rest (D := doorsL g r.1) hsub
  refine ⟨hsub, by rw [e]; exact partL_up g _ j, hpos, h3, List.length_pos_of_mem hd, fun h => by rw [h4, if_pos h, hc], fun h => by rw [h4, if_neg h], ?_⟩
  rw [hc, e]
  rw [e] at hd
  exact restL_len hS hd

/-- The first broken one of some parts and those within them. -/
def brkL (rs : List PT) : Option PT := (rs.flatMap fun r => r :: allP r.2.2).find? fun r => decide (1 < r.2.1.length)
theorem brkL_outer (xs : List NI) : brkL (outerP xs) = brokenO xs := by unfold brkL brokenO; rw [← allP_outer]
theorem brkL_cons (r : PT) (rs : List PT) : brkL (r :: rs) = if 1 < r.2.1.length then some r else (brokenO r.2.2).or (brkL rs) := by
  unfold brkL brokenO
  rw [List.flatMap_cons, List.cons_append, List.find?_cons, List.find?_append]
  by_cases h : 1 < r.2.1.length
  · rw [decide_eq_true h, if_pos h]
  · rw [decide_eq_false h, if_neg h]

def BrkGoes (A : Option Addr) (cap : Nat) (g : List Bl) (m : Nat) : Prop := ∀ (W C : List Nat) (sW sC : ByteArray) (w : World), Gr w A g → W.Pairwise (· < ·) → (∀ x ∈ W, x ∈ reachS g) → (∀ x ∈ C, x < g.length) → (cutL W C).length ≤ m → C.length + 26 * m ≤ 900 → sW = namesAt g W → sC = namesAt g C →
  Calls Tryz.prog 57 #[.slice A g.length cap, .string sW, .string sC] w fun e w' => e = .returned (.string (textO (fun r => namesAt g r.1) (brokenO (nestF g m (cutL W C))))) ∧ Below w.heap.size w w'

set_option maxRecDepth 100000 in
set_option maxHeartbeats 4000000 in
theorem l10Broken_step (A : Option Addr) (cap : Nat) (g : List Bl) (hn : g.length + tot g ≤ 1048576) (hv : validB g = true) (m : Nat) (IH : 0 < m → BrkGoes A cap g (m - 1)) : BrkGoes A cap g m := by
  intro W C sW sC w hg hup hWr hC hm hCm hsW hsC
  have hW : ∀ x ∈ W, x < g.length := fun x hx => reach_ok hv _ (hWr x hx)
  have hCl : C.length ≤ 1000 := by omega
  have h26 := (valid_iff.1 hv).2.1
  have HL := Lib.hid (l10Parts_any A cap g W C sW sC w hg hn hv hup hW hC hCl hsW hsC)
  rw [parts_eq hW hm, List.map_map] at HL
  obtain ⟨rs, hrs⟩ : ∃ rs, rs = outerP (nestF g m (cutL W C)) := ⟨_, rfl⟩
  rw [← brkL_outer, ← hrs]
  rw [← hrs] at HL
  have hm0 : 0 < rs.length → 0 < m := fun h => by
    rcases Nat.eq_zero_or_pos m with e | e
    · rw [hrs, e] at h; simp [nestF, outerP] at h
    · exact e
  have hkn : ∀ r ∈ rs, (∀ x ∈ r.1, x ∈ cutL W C) ∧ r.1.Pairwise (· < ·) ∧ 0 < r.1.length ∧ r.2.1 = doorsL g r.1 ∧ 0 < (doorsL g r.1).length ∧ ((doorsL g r.1).length = 1 → r.2.2 = nestF g (m - 1) (cutL r.1 (C ++ doorsL g r.1))) ∧ ((doorsL g r.1).length ≠ 1 → r.2.2 = []) ∧ (cutL r.1 (C ++ doorsL g r.1)).length < (cutL W C).length := fun r hr => by
    have hm1 := hm0 (List.length_pos_of_mem hr)
    obtain ⟨m', rfl⟩ : ∃ m', m = m' + 1 := ⟨m - 1, by omega⟩
    rw [hrs] at hr
    exact outer_known hv hWr hr
  have hrl : rs.length ≤ 26 := by
    have h1 := outerP_len (nestF g m (cutL W C))
    have h2 := wtL_length (nestF g m (cutL W C))
    have h3 : ((outerP (nestF g m (cutL W C))).map (·.1)).length ≤ 26 := by
      rw [← parts_eq hW hm]
      exact Nat.le_trans (prtL_len _ _ _) (Nat.le_trans (nodup_lt_len _ _ (hup.imp fun h => Nat.ne_of_lt h) hW) h26)
    rw [List.length_map, ← hrs] at h3
    exact h3
  have HG := Lib.hid hg
  have HV := Lib.hid hv
  have HKN := Lib.hid hkn
  have HWR := Lib.hid hWr
  have HC := Lib.hid hC
  have HSC := Lib.hid hsC
  have HSCs : sC.size = C.length := by rw [hsC, namesAt_size hv C hC]
  have HIH := Lib.hid IH
  have HM0 := Lib.hid hm0
  clear hg hv hkn hWr hC hsC hsW hup hW IH hm0 hrs
  go_enter Tryz.func57, Tryz.ntmps57
  go_wp2_with fail
  refine HL.out.mono ?_
  rintro e w1 ⟨v, rfl, how, b1⟩
  obtain ⟨LA, lc, rfl, hls⟩ := own_strs how
  have HLS := Lib.hid hls
  have HB1 := Lib.hid b1
  have HT1 : Hid (Below w1.heap.size w1 w1) := Below.refl _ _
  clear hls b1 how HL
  have hlm : (rs.map ((fun x => namesAt g x) ∘ fun x => x.1)).length = rs.length := List.length_map _
  go_wp2_with fail
  go_loopw [16] (fun iv wr => ∃ (k : Nat), k ≤ rs.length ∧ iv = .int .i64 k ∧ Hid (brkL rs = brkL (rs.drop k)) ∧ Hid (Below w.heap.size w wr) ∧ Hid (Below w1.heap.size w1 wr)) (fun iv _ => rs.length - (intOf iv).toNat)
  case atStart => exact ⟨0, Nat.zero_le _, rfl, (show brkL rs = brkL (rs.drop 0) by rw [List.drop_zero]), HB1.out, HT1.out⟩
  case round =>
    obtain ⟨k, hk, rfl, HBR, HB, HT⟩ := hrel
    by_cases hlt : k < rs.length
    · obtain ⟨b, off, rfl, hb, hc⟩ := (HLS.out.below HT.out) (by rw [List.length_map]; omega)
      have x0 := hc k (by rw [List.length_map]; omega)
      obtain ⟨r, hr⟩ : ∃ r, r = rs[k] := ⟨_, rfl⟩
      have hget : (rs.map ((fun x => namesAt g x) ∘ fun x => x.1))[k]'(by rw [List.length_map]; exact hlt) = namesAt g r.1 := by rw [List.getElem_map, ← hr]; rfl
      rw [hget] at x0
      obtain ⟨k1, k2, k3, k4, k5, k6, k7, k8⟩ := HKN.out r (hr ▸ List.getElem_mem hlt)
      have hrc := brkL_cons r (rs.drop (k + 1))
      rw [show r :: rs.drop (k + 1) = rs.drop k by rw [hr]; exact (List.drop_eq_getElem_cons hlt).symm, k4] at hrc
      have hPl : ∀ x ∈ r.1, x < g.length := fun x hx => reach_ok HV.out _ (HWR.out x (mem_cutL.1 (k1 x hx)).1)
      have hP26 : r.1.length ≤ 26 := Nat.le_trans (nodup_lt_len _ _ (k2.imp fun h => Nat.ne_of_lt h) hPl) h26
      have hDl : ∀ x ∈ doorsL g r.1, x < g.length := fun x hx => hPl x (doorsL_sub hx)
      have hD26 : (doorsL g r.1).length ≤ 26 := Nat.le_trans (List.length_filter_le _ _) hP26
      obtain ⟨pt, hpt⟩ : ∃ pt, pt = namesAt g r.1 := ⟨_, rfl⟩
      have HD := Lib.hid (fun w (h : Gr w A g) => l10Doors_any A cap g r.1 pt w h hn HV.out hPl (by omega) hpt)
      obtain ⟨dt, hdt⟩ : ∃ dt, dt = namesAt g (doorsL g r.1) := ⟨_, rfl⟩
      have hds : dt.size = (doorsL g r.1).length := by rw [hdt, namesAt_size HV.out _ hDl]
      rw [← hdt] at HD
      rw [← hpt] at x0
      have hmp := HM0.out (by omega)
      by_cases h1 : 1 < (doorsL g r.1).length
      · have h1s : 1 < dt.size := by omega
        have h1i : (1 : Int) < dt.size := by omega
        have HR := Lib.hid (show pt = textO (fun r => namesAt g r.1) (brkL rs) by rw [HBR.out, hrc, if_pos h1, hpt]; rfl)
        clear hc hb hget k1 k2 k3 k4 k5 k6 k7 k8 hrc hPl hDl hpt hdt hds h1 hr
        go_wp2_with fail
        refine (HD.out wr (HG.out.below HB.out)).mono ?_
        rintro e w2 ⟨rfl, b2⟩
        have HB2 := Lib.hid (HB.out.trans (b2.mono HB.out.size))
        clear b2
        go_wp2_with fail
        go_ret
        exact ⟨ret_string HR.out, HB2.out⟩
      · have h11 : (doorsL g r.1).length = 1 := by omega
        have h1s : ¬ 1 < dt.size := by omega
        have h1i : ¬ (1 : Int) < dt.size := by omega
        have z1 : sC.size + dt.size ≤ 1048576 := by omega
        have hcut := k6 h11
        obtain ⟨o, ho⟩ : ∃ o, o = brokenO r.2.2 := ⟨_, rfl⟩
        have HI := Lib.hid (fun w (h : Gr w A g) => HIH.out hmp r.1 (C ++ doorsL g r.1) pt (sC ++ dt) w h k2 (fun x hx => HWR.out x (mem_cutL.1 (k1 x hx)).1)
          (fun x hx => by rcases List.mem_append.1 hx with h | h; exact HC.out x h; exact hDl x h) (by omega) (by rw [List.length_append]; omega) hpt (by rw [namesAt_append, ← hdt, ← HSC.out]))
        rw [← hcut, ← ho] at HI
        rw [if_neg h1, ← ho] at hrc
        have hgood : ∀ q, o = some q → ∃ x xs, q.1 = x :: xs ∧ ∀ y ∈ q.1, y < g.length := fun q hq => by
          rw [ho, hcut] at hq
          have hq2 := List.mem_of_find?_eq_some hq
          have hG := nest_good (m - 1) (cutL r.1 (C ++ doorsL g r.1)) (fun x hx => hPl x (mem_cutL.1 hx).1) q hq2
          cases e : q.1 with
          | nil => have := hG.pos; rw [e] at this; simp at this
          | cons x xs => exact ⟨x, xs, rfl, by rw [← e]; exact hG.lt⟩
        clear hc hb hget k1 k2 k3 k4 k5 k6 k7 k8 hPl hDl hpt hdt hds h1 hr hcut ho h11
        cases o with
        | none =>
          have HI2 : Hid (∀ w, Gr w A g → Calls Tryz.prog 57 #[.slice A g.length cap, .string pt, .string (sC ++ dt)] w fun e w' => e = .returned (.string ⟨#[]⟩) ∧ Below w.heap.size w w') := HI
          have HR := Lib.hid (show brkL rs = brkL (rs.drop (k + 1)) by rw [HBR.out, hrc]; rfl)
          clear HI hgood hrc
          go_wp2_with fail
          refine (HD.out wr (HG.out.below HB.out)).mono ?_
          rintro e w2 ⟨rfl, b2⟩
          have HB2 := Lib.hid (HB.out.trans (b2.mono HB.out.size))
          have HT2 := Lib.hid (HT.out.trans (b2.mono HT.out.size))
          clear b2
          go_wp2_with fail
          refine (HI2.out w2 (HG.out.below HB2.out)).mono ?_
          rintro e w3 ⟨rfl, b3⟩
          have HB3 := Lib.hid (HB2.out.trans (b3.mono HB2.out.size))
          have HT3 := Lib.hid (HT2.out.trans (b3.mono HT2.out.size))
          clear b3
          go_wp2_with fail
          go_roundw
          case rel => exact ⟨k + 1, by omega, by go_num, HR.out, HB3.out, HT3.out⟩
          case measure => simp [intOf]; omega
        | some q =>
          obtain ⟨x, xs, e, hql⟩ := hgood q rfl
          obtain ⟨qt, hqt⟩ : ∃ qt, qt = namesAt g q.1 := ⟨_, rfl⟩
          have HI2 : Hid (∀ w, Gr w A g → Calls Tryz.prog 57 #[.slice A g.length cap, .string pt, .string (sC ++ dt)] w fun e w' => e = .returned (.string qt) ∧ Below w.heap.size w w') := by rw [hqt]; exact HI
          have HR := Lib.hid (show qt = textO (fun r => namesAt g r.1) (brkL rs) by rw [HBR.out, hrc, hqt]; rfl)
          have q0 : qt.toList.isEmpty = false := emp_no (by rw [hqt, namesAt_size HV.out _ hql, e]; simp)
          clear HI hgood hrc e hql hqt
          go_wp2_with fail
          refine (HD.out wr (HG.out.below HB.out)).mono ?_
          rintro e w2 ⟨rfl, b2⟩
          have HB2 := Lib.hid (HB.out.trans (b2.mono HB.out.size))
          clear b2
          go_wp2_with fail
          refine (HI2.out w2 (HG.out.below HB2.out)).mono ?_
          rintro e w3 ⟨rfl, b3⟩
          have HB3 := Lib.hid (HB2.out.trans (b3.mono HB2.out.size))
          clear b3
          go_wp2_with fail
          go_ret
          exact ⟨ret_string HR.out, HB3.out⟩
    · have HR := Lib.hid (show (⟨#[]⟩ : ByteArray) = textO (fun r => namesAt g r.1) (brkL rs) by rw [HBR.out, List.drop_of_length_le (by omega)]; rfl)
      go_wp2_with fail
      go_ret
      exact ⟨ret_string HR.out, HB.out⟩
theorem l10Broken_any (A : Option Addr) (cap : Nat) (g : List Bl) (hn : g.length + tot g ≤ 1048576) (hv : validB g = true) : ∀ m, BrkGoes A cap g m
  | 0 => l10Broken_step A cap g hn hv 0 fun h => absurd h (Nat.lt_irrefl 0)
  | m + 1 => l10Broken_step A cap g hn hv (m + 1) fun _ => l10Broken_any A cap g hn hv m
end Go.Proofs.YtdpjdhllaokbfaaGreat
