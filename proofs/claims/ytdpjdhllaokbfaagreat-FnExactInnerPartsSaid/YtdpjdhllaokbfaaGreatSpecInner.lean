/-
  The model's InnerParts.
-/
import Derived.Test.YtdpjdhllaokbfaaGreatSpecLevel
namespace Go.Proofs.YtdpjdhllaokbfaaGreat
open Go.RowKit Go.Sort

/-- The part whose only door a block is, among some parts and those within them. -/
def innL (i : Nat) (rs : List PT) : Option PT := (rs.flatMap fun r => r :: allP r.2.2).find? fun r => decide (r.2.1 = [i])
def innA (i : Nat) (xs : List NI) : Option PT := (allP xs).find? fun r => decide (r.2.1 = [i])
theorem innL_outer (i : Nat) (xs : List NI) : innL i (outerP xs) = innA i xs := by unfold innL innA; rw [← allP_outer]
theorem innL_cons (i : Nat) (r : PT) (rs : List PT) : innL i (r :: rs) = if r.2.1 = [i] then some r else (innA i r.2.2).or (innL i rs) := by
  unfold innL innA
  rw [List.flatMap_cons, List.cons_append, List.find?_cons, List.find?_append]
  by_cases h : r.2.1 = [i]
  · rw [decide_eq_true h, if_pos h]
  · rw [decide_eq_false h, if_neg h]
theorem innA_none {i : Nat} {xs : List NI} (h : ∀ q ∈ allP xs, q.2.1 ≠ [i]) : innA i xs = none := by
  unfold innA
  rw [List.find?_eq_none]
  exact fun q hq => by simpa using h q hq
theorem innL_none {i : Nat} {rs : List PT} (h : ∀ r ∈ rs, r.2.1 ≠ [i] ∧ ∀ q ∈ allP r.2.2, q.2.1 ≠ [i]) : innL i rs = none := by
  unfold innL
  rw [List.find?_eq_none]
  intro q hq
  obtain ⟨r, hr, hq⟩ := List.mem_flatMap.1 hq
  obtain ⟨h1, h2⟩ := h r hr
  rcases List.mem_cons.1 hq with rfl | hq
  · simpa using h1
  · simpa using h2 q hq
theorem doors_name {g : List Bl} (hv : validB g = true) {D : List Nat} (hD : ∀ x ∈ D, x < g.length) {i : Nat} (hi : i < g.length) : namesAt g D = nthName g i ↔ D = [i] := by
  constructor
  · intro h
    have hs : D.length = 1 := by rw [← namesAt_size hv D hD, h]; exact nth_size hv hi
    match D, hs with
    | [d], _ =>
      rw [namesAt_one, nthName_at (hD d List.mem_cons_self), nthName_at hi] at h
      rw [name_inj hv _ hi h]
  · intro h; rw [h, namesAt_one]

def FindPost (g : List Bl) (i : Nat) : Option PT → Ending → Prop
  | none, e => e = .returned (.tuple #[.string ⟨#[]⟩, .string ⟨#[]⟩])
  | some r, e => ∃ (C' : List Nat) (m' : Nat), e = .returned (.tuple #[.string (namesAt g r.1), .string (namesAt g C')]) ∧ r.2.2 = nestF g m' (cutL r.1 (C' ++ [i])) ∧ (cutL r.1 (C' ++ [i])).length ≤ m' ∧ C'.length ≤ 900 ∧ (∀ x ∈ C', x < g.length) ∧ (∀ x ∈ r.1, x ∈ reachS g) ∧ r.1.Pairwise (· < ·) ∧ 0 < r.1.length
def FindGoes (A : Option Addr) (cap : Nat) (g : List Bl) (i : Nat) (nm : ByteArray) (m : Nat) : Prop := ∀ (W C : List Nat) (sW sC : ByteArray) (w : World), Gr w A g → W.Pairwise (· < ·) → (∀ x ∈ W, x ∈ reachS g) → (∀ x ∈ C, x < g.length) → (cutL W C).length ≤ m → C.length + 26 * m ≤ 900 → sW = namesAt g W → sC = namesAt g C →
  Calls Tryz.prog 49 #[.slice A g.length cap, .string nm, .string sW, .string sC] w fun e w' => FindPost g i (innA i (nestF g m (cutL W C))) e ∧ Below w.heap.size w w'

set_option maxRecDepth 100000 in
set_option maxHeartbeats 4000000 in
theorem l10Find_step (A : Option Addr) (cap : Nat) (g : List Bl) (i : Nat) (nm : ByteArray) (hn : g.length + tot g ≤ 1048576) (hv : validB g = true) (hi : i < g.length) (hnm : nm = nthName g i) (m : Nat) (IH : 0 < m → FindGoes A cap g i nm (m - 1)) : FindGoes A cap g i nm m := by
  intro W C sW sC w hg hup hWr hC hm hCm hsW hsC
  have hW : ∀ x ∈ W, x < g.length := fun x hx => reach_ok hv _ (hWr x hx)
  have hS : ∀ x ∈ cutL W C, x < g.length := cut_lt hW
  have hWn : W.Nodup := hup.imp fun h => Nat.ne_of_lt h
  have hSn : (cutL W C).Nodup := hWn.filter _
  have hCl : C.length ≤ 1000 := by omega
  have h26 := (valid_iff.1 hv).2.1
  have hW26 : W.length ≤ 26 := Nat.le_trans (nodup_lt_len _ _ hWn hW) h26
  obtain ⟨c, hc, _⟩ := valid_one hv (List.getElem_mem hi)
  have hnc : nm = ⟨#[c]⟩ := by rw [hnm, nthName_at hi, hc]
  have hn1 : nm.size = 1 := by rw [hnc]; rfl
  have l0 : 0 < nm.size := by omega
  have i0 : (0 : Int) < nm.size := by omega
  have HL := Lib.hid (l10Parts_any A cap g W C sW sC w hg hn hv hup hW hC hCl hsW hsC)
  rw [parts_eq hW hm, List.map_map] at HL
  obtain ⟨rs, hrs⟩ : ∃ rs, rs = outerP (nestF g m (cutL W C)) := ⟨_, rfl⟩
  rw [← innL_outer, ← hrs]
  rw [← hrs] at HL
  have hm0 : 0 < rs.length → 0 < m := fun h => by
    rcases Nat.eq_zero_or_pos m with e | e
    · rw [hrs, e] at h; simp [nestF, outerP] at h
    · exact e
  have hkn : ∀ r ∈ rs, (∀ x ∈ r.1, x ∈ cutL W C) ∧ r.1.Pairwise (· < ·) ∧ 0 < r.1.length ∧ r.2.1 = doorsL g r.1 ∧ 0 < (doorsL g r.1).length ∧ ((doorsL g r.1).length = 1 → r.2.2 = nestF g (m - 1) (cutL r.1 (C ++ doorsL g r.1))) ∧ ((doorsL g r.1).length ≠ 1 → r.2.2 = []) ∧ (cutL r.1 (C ++ doorsL g r.1)).length < (cutL W C).length := fun r hr => by
    have hm1 := hm0 (List.length_pos_of_mem hr)
    obtain ⟨m', rfl⟩ : ∃ m', m = m' + 1 := ⟨m - 1, by omega⟩
    rw [hrs] at hr
    exact outer_known hv hWr hr
  have hap : rs.Pairwise fun r q => ∀ x ∈ r.1, x ∉ q.1 := by
    have h1 := prtL_apart hS hSn
    rw [← prtL_cut hW, parts_eq hW hm, ← hrs, List.pairwise_map] at h1
    exact h1
  have hin : ∀ r ∈ rs, ∀ q ∈ allP r.2.2, q.2.1 = [i] → i ∈ r.1 := fun r hr q hq hx => by
    obtain ⟨k1, _, _, _, _, k6, k7, _⟩ := hkn r hr
    by_cases h : (doorsL g r.1).length = 1
    · rw [k6 h] at hq
      have hG := nest_good _ _ (fun x hx => hS x (k1 x (mem_cutL.1 hx).1)) q hq
      rw [hG.doors] at hx
      have hiq : i ∈ q.1 := doorsL_sub (by rw [hx]; exact List.mem_cons_self)
      exact (mem_cutL.1 (nest_within _ _ (fun x hx => hS x (k1 x (mem_cutL.1 hx).1)) q hq i hiq)).1
    · rw [k7 h, allP_nil] at hq; cases hq
  have hrl : rs.length ≤ 26 := by
    have h3 : ((outerP (nestF g m (cutL W C))).map (·.1)).length ≤ 26 := by
      rw [← parts_eq hW hm]
      exact Nat.le_trans (prtL_len _ _ _) hW26
    rw [List.length_map, ← hrs] at h3
    exact h3
  have HG := Lib.hid hg
  have HV := Lib.hid hv
  have HI := Lib.hid hi
  have HNM := Lib.hid hnm
  have HKN := Lib.hid hkn
  have HWR := Lib.hid hWr
  have HC := Lib.hid hC
  have HSC := Lib.hid hsC
  have HSCs : sC.size = C.length := by rw [hsC, namesAt_size hv C hC]
  have HIH := Lib.hid IH
  have HM0 := Lib.hid hm0
  have HAP := Lib.hid hap
  have HIN := Lib.hid hin
  have HF : Hid (∀ (s : ByteArray) (hs : s.size ≤ 4611686018427387904) (w : World), Calls Tryz.prog 60 #[.string s, .int .u8 (nm[0]'l0).toNat] w fun e w' => e = .returned (.int .i64 (Lib.indexByte s.data.toList c)) ∧ w = w') := fun s hs w => by
    have := find_any s c w hs
    rw [one_get' hnc l0]; exact this
  have HIX := Lib.hid (fun (L : List Nat) (hL : ∀ x ∈ L, x < g.length) => idx_namesAt hv hL hi hc)
  clear hg hv hi hkn hWr hC hsC hsW hup hW IH hm0 hrs hap hin hS hSn hWn hc hnc hnm
  go_enter Tryz.func49, Tryz.ntmps49
  go_wp2_with fail
  refine HL.out.mono ?_
  rintro e w1 ⟨v, rfl, how, b1⟩
  obtain ⟨LA, lc, rfl, hls⟩ := own_strs how
  have HLS := Lib.hid hls
  have HB1 := Lib.hid b1
  have HT1 : Hid (Below w1.heap.size w1 w1) := Below.refl _ _
  clear hls b1 how HL
  have hlm : (rs.map ((fun x => namesAt g x) ∘ fun x => x.1)).length = rs.length := List.length_map _
  go_wp2_with fail
  go_loopw [18] (fun iv wr => ∃ (k : Nat), k ≤ rs.length ∧ iv = .int .i64 k ∧ Hid (innL i rs = innL i (rs.drop k)) ∧ Hid (Below w.heap.size w wr) ∧ Hid (Below w1.heap.size w1 wr)) (fun iv _ => rs.length - (intOf iv).toNat)
  case atStart => exact ⟨0, Nat.zero_le _, rfl, (show innL i rs = innL i (rs.drop 0) by rw [List.drop_zero]), HB1.out, HT1.out⟩
  case round =>
    obtain ⟨k, hk, rfl, HBR, HB, HT⟩ := hrel
    by_cases hlt : k < rs.length
    · obtain ⟨b, off, rfl, hb, hc⟩ := (HLS.out.below HT.out) (by rw [List.length_map]; omega)
      have x0 := hc k (by rw [List.length_map]; omega)
      obtain ⟨r, hr⟩ : ∃ r, r = rs[k] := ⟨_, rfl⟩
      have hget : (rs.map ((fun x => namesAt g x) ∘ fun x => x.1))[k]'(by rw [List.length_map]; exact hlt) = namesAt g r.1 := by rw [List.getElem_map, ← hr]; rfl
      rw [hget] at x0
      have hrm : r ∈ rs := hr ▸ List.getElem_mem hlt
      obtain ⟨k1, k2, k3, k4, k5, k6, k7, k8⟩ := HKN.out r hrm
      have hrc := innL_cons i r (rs.drop (k + 1))
      rw [show r :: rs.drop (k + 1) = rs.drop k by rw [hr]; exact (List.drop_eq_getElem_cons hlt).symm] at hrc
      have hPr : ∀ x ∈ r.1, x ∈ reachS g := fun x hx => HWR.out x (mem_cutL.1 (k1 x hx)).1
      have hPl : ∀ x ∈ r.1, x < g.length := fun x hx => reach_ok HV.out _ (hPr x hx)
      have hP26 : r.1.length ≤ 26 := Nat.le_trans (nodup_lt_len _ _ (k2.imp fun h => Nat.ne_of_lt h) hPl) h26
      have hDl : ∀ x ∈ doorsL g r.1, x < g.length := fun x hx => hPl x (doorsL_sub hx)
      have hD26 : (doorsL g r.1).length ≤ 26 := Nat.le_trans (List.length_filter_le _ _) hP26
      obtain ⟨pt, hpt⟩ : ∃ pt, pt = namesAt g r.1 := ⟨_, rfl⟩
      have hps : pt.size ≤ 26 := by rw [hpt, namesAt_size HV.out _ hPl]; exact hP26
      have HD := Lib.hid (fun w (h : Gr w A g) => l10Doors_any A cap g r.1 pt w h hn HV.out hPl (by omega) hpt)
      obtain ⟨dt, hdt⟩ : ∃ dt, dt = namesAt g (doorsL g r.1) := ⟨_, rfl⟩
      have hds : dt.size = (doorsL g r.1).length := by rw [hdt, namesAt_size HV.out _ hDl]
      rw [← hdt] at HD
      rw [← hpt] at x0
      have hmp := HM0.out (by omega)
      have hnd := doors_name HV.out hDl HI.out
      rw [← hdt, ← HNM.out] at hnd
      by_cases hdi : doorsL g r.1 = [i]
      · have q0 : (dt.toList == nm.toList) = true := beq_toList.2 (hnd.2 hdi)
        have HR := Lib.hid (show innL i rs = some r by rw [HBR.out, hrc, k4, if_pos hdi])
        have HW2 := Lib.hid (show r.2.2 = nestF g (m - 1) (cutL r.1 (C ++ [i])) by have := k6 (by rw [hdi]; rfl); rw [hdi] at this; exact this)
        have HLE := Lib.hid (show (cutL r.1 (C ++ [i])).length ≤ m - 1 by have := k8; rw [hdi] at this; omega)
        have HPT := Lib.hid hpt
        have HPR := Lib.hid hPr
        have HK2 := Lib.hid k2
        clear hc hb hget k1 k2 k4 k5 k6 k7 k8 hrc hPl hDl hpt hdt hds hr hrm hnd hdi hPr
        go_wp2_with fail
        refine (HD.out wr (HG.out.below HB.out)).mono ?_
        rintro e w2 ⟨rfl, b2⟩
        have HB2 := Lib.hid (HB.out.trans (b2.mono HB.out.size))
        clear b2
        go_wp2_with fail
        go_ret2
        refine ⟨?_, HB2.out⟩
        rw [HR.out]
        exact ⟨C, m - 1, by rw [← HPT.out, ← HSC.out]; rfl, HW2.out, HLE.out, by omega, HC.out, HPR.out, HK2.out, k3⟩
      · have q0 : (dt.toList == nm.toList) = false := by
          cases hq : (dt.toList == nm.toList) with
          | false => rfl
          | true => exact absurd (hnd.1 (beq_toList.1 hq)) hdi
        rw [k4, if_neg hdi] at hrc
        by_cases hgo : (doorsL g r.1).length = 1 ∧ i ∈ r.1
        · obtain ⟨hd1, hir⟩ := hgo
          have hd1i : (dt.size : Int) = 1 := by omega
          have hcut := k6 hd1
          obtain ⟨z, hz⟩ : ∃ z, z = Lib.indexByte pt.data.toList c := ⟨_, rfl⟩
          have hz0 : 0 ≤ z := by rw [hz, hpt]; exact (HIX.out r.1 hPl).2 hir
          have HFP : Hid (∀ w, Calls Tryz.prog 60 #[.string pt, .int .u8 (nm[0]'l0).toNat] w fun e w' => e = .returned (.int .i64 z) ∧ w = w') := fun w => by rw [hz]; exact HF.out pt (by omega) w
          obtain ⟨o, ho⟩ : ∃ o, o = innA i r.2.2 := ⟨_, rfl⟩
          have HI := Lib.hid (fun w (h : Gr w A g) => HIH.out hmp r.1 (C ++ doorsL g r.1) pt (sC ++ dt) w h k2 hPr
            (fun x hx => by rcases List.mem_append.1 hx with h | h; exact HC.out x h; exact hDl x h) (by omega) (by rw [List.length_append]; omega) hpt (by rw [namesAt_append, ← hdt, ← HSC.out]))
          rw [← hcut, ← ho] at HI
          have hz1 : innL i (rs.drop (k + 1)) = none := innL_none fun q hq => by
            obtain ⟨j, hj, e⟩ := List.getElem_of_mem hq
            rw [List.getElem_drop] at e
            rw [List.length_drop] at hj
            have hj2 : k + 1 + j < rs.length := by omega
            have h1 := List.pairwise_iff_getElem.1 HAP.out k (k + 1 + j) hlt hj2 (by omega) i (hr ▸ hir)
            rw [e] at h1
            have hqm := List.mem_of_mem_drop hq
            obtain ⟨_, _, _, q4, _⟩ := HKN.out q hqm
            refine ⟨fun h => h1 ?_, fun q2 hq2 h2 => h1 (HIN.out q hqm q2 hq2 h2)⟩
            rw [q4] at h
            exact doorsL_sub (by rw [h]; exact List.mem_cons_self)
          have HR := Lib.hid (show innL i rs = o by rw [HBR.out, hrc, hz1, ← ho, Option.or_none])
          have z1 : sC.size + dt.size ≤ 1048576 := by omega
          clear hc hb hget k1 k2 k3 k4 k5 k6 k7 k8 hrc hPl hDl hpt hdt hds hr hz hir hcut hd1 hz1 hrm hnd hdi hPr ho
          go_wp2_with fail
          refine (HD.out wr (HG.out.below HB.out)).mono ?_
          rintro e w2 ⟨rfl, b2⟩
          have HB2 := Lib.hid (HB.out.trans (b2.mono HB.out.size))
          clear b2
          go_wp2_with fail
          refine (HFP.out _).mono ?_
          rintro e w3 ⟨rfl, rfl⟩
          go_wp2_with fail
          refine (HI.out w2 (HG.out.below HB2.out)).mono ?_
          rintro e w3 ⟨hp, b3⟩
          have HB3 := Lib.hid (HB2.out.trans (b3.mono HB2.out.size))
          clear b3
          cases o with
          | none =>
            have he : e = .returned (.tuple #[.string ⟨#[]⟩, .string ⟨#[]⟩]) := hp
            subst he
            clear hp
            go_wp2_with fail
            go_ret2
            exact ⟨by rw [HR.out]; rfl, HB3.out⟩
          | some q =>
            obtain ⟨C', m', he, h2, h3, h4, h5, h6, h7, h8⟩ := hp
            subst he
            have HH := Lib.hid (And.intro h2 (And.intro h3 (And.intro h4 (And.intro h5 (And.intro h6 (And.intro h7 h8))))))
            clear h2 h3 h4 h5 h6 h7 h8
            go_wp2_with fail
            go_ret2
            refine ⟨?_, HB3.out⟩
            rw [HR.out]
            exact ⟨C', m', rfl, HH.out⟩
        · have hz1 : innA i r.2.2 = none := innA_none fun q hq h => by
            refine hgo ⟨?_, HIN.out r hrm q hq h⟩
            refine Decidable.byContradiction fun hne => ?_
            rw [k7 hne, allP_nil] at hq; cases hq
          have HR := Lib.hid (show innL i rs = innL i (rs.drop (k + 1)) by rw [HBR.out, hrc, hz1]; rfl)
          by_cases hd1 : (doorsL g r.1).length = 1
          · have hir : i ∉ r.1 := fun h => hgo ⟨hd1, h⟩
            have hd1i : (dt.size : Int) = 1 := by omega
            obtain ⟨z, hz⟩ : ∃ z, z = Lib.indexByte pt.data.toList c := ⟨_, rfl⟩
            have hz0 : ¬ 0 ≤ z := by rw [hz, hpt]; exact fun h => hir ((HIX.out r.1 hPl).1 h)
            have HFP : Hid (∀ w, Calls Tryz.prog 60 #[.string pt, .int .u8 (nm[0]'l0).toNat] w fun e w' => e = .returned (.int .i64 z) ∧ w = w') := fun w => by rw [hz]; exact HF.out pt (by omega) w
            clear hc hb hget k1 k2 k3 k4 k5 k6 k7 k8 hrc hPl hDl hpt hdt hds hr hz hir hd1 hz1 hrm hnd hdi hPr hgo
            go_wp2_with fail
            refine (HD.out wr (HG.out.below HB.out)).mono ?_
            rintro e w2 ⟨rfl, b2⟩
            have HB2 := Lib.hid (HB.out.trans (b2.mono HB.out.size))
            have HT2 := Lib.hid (HT.out.trans (b2.mono HT.out.size))
            clear b2
            go_wp2_with fail
            refine (HFP.out _).mono ?_
            rintro e w3 ⟨rfl, rfl⟩
            go_wp2_with fail
            go_roundw
            case rel => exact ⟨k + 1, by omega, by go_num, HR.out, HB2.out, HT2.out⟩
            case measure => simp [intOf]; omega
          · have hd1i : ¬ (dt.size : Int) = 1 := by omega
            clear hc hb hget k1 k2 k3 k4 k5 k6 k7 k8 hrc hPl hDl hpt hdt hds hr hd1 hz1 hrm hnd hdi hPr hgo
            go_wp2_with fail
            refine (HD.out wr (HG.out.below HB.out)).mono ?_
            rintro e w2 ⟨rfl, b2⟩
            have HB2 := Lib.hid (HB.out.trans (b2.mono HB.out.size))
            have HT2 := Lib.hid (HT.out.trans (b2.mono HT.out.size))
            clear b2
            go_wp2_with fail
            go_roundw
            case rel => exact ⟨k + 1, by omega, by go_num, HR.out, HB2.out, HT2.out⟩
            case measure => simp [intOf]; omega
    · have HR := Lib.hid (show innL i rs = none by rw [HBR.out, List.drop_of_length_le (by omega)]; rfl)
      go_wp2_with fail
      go_ret2
      exact ⟨by rw [HR.out]; rfl, HB.out⟩
theorem l10Find_any (A : Option Addr) (cap : Nat) (g : List Bl) (i : Nat) (nm : ByteArray) (hn : g.length + tot g ≤ 1048576) (hv : validB g = true) (hi : i < g.length) (hnm : nm = nthName g i) : ∀ m, FindGoes A cap g i nm m
  | 0 => l10Find_step A cap g i nm hn hv hi hnm 0 fun h => absurd h (Nat.lt_irrefl 0)
  | m + 1 => l10Find_step A cap g i nm hn hv hi hnm (m + 1) fun _ => l10Find_any A cap g i nm hn hv hi hnm m
end Go.Proofs.YtdpjdhllaokbfaaGreat
