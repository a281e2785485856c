/-
  The model's LevelOf.
-/
import Derived.Test.YtdpjdhllaokbfaaGreatSpecNested
namespace Go.Proofs.YtdpjdhllaokbfaaGreat
open Go.RowKit Go.Sort

theorem nest_within {g : List Bl} : ∀ (m : Nat) (S : List Nat), (∀ x ∈ S, x < g.length) → ∀ q ∈ allP (nestF g m S), ∀ x ∈ q.1, x ∈ S
  | 0, S, _, q, h, x, hx => by unfold nestF at h; rw [allP_nil] at h; cases h
  | m + 1, S, hS, q, h, x, hx => by
    rw [allP_outer] at h
    obtain ⟨r, hr, hq⟩ := List.mem_flatMap.1 h
    obtain ⟨j, _, e, _, _, _, e5⟩ := mem_outer hr
    have hsub : ∀ x ∈ r.1, x ∈ S := fun x hx => by rw [e] at hx; exact partL_sub hS hx
    rcases List.mem_cons.1 hq with rfl | hq
    · exact hsub x hx
    · rw [e5] at hq
      by_cases hd : (doorsL g r.1).length = 1
      · rw [if_pos hd] at hq
        exact hsub x (restL_sub (nest_within m _ (fun x hx => hS x (hsub x (restL_sub hx))) q hq x hx))
      · rw [if_neg hd, allP_nil] at hq; cases hq
theorem prtL_apart {g : List Bl} {S : List Nat} (hS : ∀ x ∈ S, x < g.length) (hn : S.Nodup) : (prtL g S S).Pairwise fun P Q => ∀ x ∈ P, x ∉ Q := by
  unfold prtL
  refine List.Pairwise.filterMap (firstO g S) ?_ hn
  intro a a' hne P hP Q hQ x hx hx'
  have h1 : P ∈ prtL g S [a] := List.mem_filterMap.2 ⟨a, List.mem_singleton.2 rfl, hP⟩
  have h2 : Q ∈ prtL g S [a'] := List.mem_filterMap.2 ⟨a', List.mem_singleton.2 rfl, hQ⟩
  obtain ⟨j, hj, e, _, hh⟩ := mem_prtL.1 h1
  obtain ⟨j', hj', e', _, hh'⟩ := mem_prtL.1 h2
  rw [List.mem_singleton] at hj hj'
  subst hj hj'
  rw [e] at hx hh
  rw [e'] at hx' hh'
  rw [← partL_same hS hx, partL_same hS hx', hh'] at hh
  exact hne (Option.some.inj hh).symm
/-- How many parts hold a block. -/
def levL (i : Nat) (rs : List PT) : Nat := (rs.flatMap fun r => r :: allP r.2.2).countP fun r => decide (i ∈ r.1)
theorem levL_outer (i : Nat) (xs : List NI) : levL i (outerP xs) = (allP xs).countP fun r => decide (i ∈ r.1) := by unfold levL; rw [← allP_outer]
theorem levL_cons (i : Nat) (r : PT) (rs : List PT) : levL i (r :: rs) = (if i ∈ r.1 then 1 else 0) + (allP r.2.2).countP (fun r => decide (i ∈ r.1)) + levL i rs := by
  unfold levL
  rw [List.flatMap_cons, List.cons_append, List.countP_cons, List.countP_append]
  by_cases h : i ∈ r.1
  · simp [h]; omega
  · simp [h]
theorem levL_zero {i : Nat} {rs : List PT} (h : ∀ r ∈ rs, i ∉ r.1 ∧ ∀ q ∈ allP r.2.2, i ∉ q.1) : levL i rs = 0 := by
  unfold levL
  rw [List.countP_eq_zero]
  intro q hq
  obtain ⟨r, hr, hq⟩ := List.mem_flatMap.1 hq
  obtain ⟨h1, h2⟩ := h r hr
  rcases List.mem_cons.1 hq with rfl | hq
  · simpa using h1
  · simpa using h2 q hq

def LevGoes (A : Option Addr) (cap : Nat) (g : List Bl) (i : Nat) (nm : ByteArray) (m : Nat) : Prop := ∀ (W C : List Nat) (sW sC : ByteArray) (w : World), Gr w A g → W.Pairwise (· < ·) → (∀ x ∈ W, x ∈ reachS g) → (∀ x ∈ C, x < g.length) → (cutL W C).length ≤ m → C.length + 26 * m ≤ 900 → sW = namesAt g W → sC = namesAt g C → (∀ q ∈ allP (nestF g m (cutL W C)), ¬ 1 < q.2.1.length) →
  Calls Tryz.prog 54 #[.slice A g.length cap, .string nm, .string sW, .string sC] w fun e w' => e = .returned (.int .i64 (((allP (nestF g m (cutL W C))).countP fun r => decide (i ∈ r.1) : Nat) : Int)) ∧ Below w.heap.size w w'

set_option maxRecDepth 100000 in
set_option maxHeartbeats 4000000 in
theorem l10Level_step (A : Option Addr) (cap : Nat) (g : List Bl) (i : Nat) (nm : ByteArray) (hn : g.length + tot g ≤ 1048576) (hv : validB g = true) (hi : i < g.length) (hnm : nm = nthName g i) (m : Nat) (IH : 0 < m → LevGoes A cap g i nm (m - 1)) : LevGoes A cap g i nm m := by
  intro W C sW sC w hg hup hWr hC hm hCm hsW hsC hnb
  have hW : ∀ x ∈ W, x < g.length := fun x hx => reach_ok hv _ (hWr x hx)
  have hS : ∀ x ∈ cutL W C, x < g.length := cut_lt hW
  have hWn : W.Nodup := hup.imp fun h => Nat.ne_of_lt h
  have hSn : (cutL W C).Nodup := hWn.filter _
  have hCl : C.length ≤ 1000 := by omega
  have h26 := (valid_iff.1 hv).2.1
  have hW26 : W.length ≤ 26 := Nat.le_trans (nodup_lt_len _ _ hWn hW) h26
  have hcut26 : (cutL W C).length ≤ W.length := List.length_filter_le _ _
  have hwt := nest_wt (g := g) m (cutL W C) hS hSn
  obtain ⟨c, hc, _⟩ := valid_one hv (List.getElem_mem hi)
  have hnc : nm = ⟨#[c]⟩ := by rw [hnm, nthName_at hi, hc]
  have hn1 : nm.size = 1 := by rw [hnc]; rfl
  have l0 : 0 < nm.size := by omega
  have i0 : (0 : Int) < nm.size := by omega
  have HL := Lib.hid (l10Parts_any A cap g W C sW sC w hg hn hv hup hW hC hCl hsW hsC)
  rw [parts_eq hW hm, List.map_map] at HL
  obtain ⟨rs, hrs⟩ : ∃ rs, rs = outerP (nestF g m (cutL W C)) := ⟨_, rfl⟩
  rw [← levL_outer, ← hrs]
  rw [← hrs] at HL
  have hm0 : 0 < rs.length → 0 < m := fun h => by
    rcases Nat.eq_zero_or_pos m with e | e
    · rw [hrs, e] at h; simp [nestF, outerP] at h
    · exact e
  have hkn : ∀ r ∈ rs, (∀ x ∈ r.1, x ∈ cutL W C) ∧ r.1.Pairwise (· < ·) ∧ 0 < r.1.length ∧ r.2.1 = doorsL g r.1 ∧ 0 < (doorsL g r.1).length ∧ ((doorsL g r.1).length = 1 → r.2.2 = nestF g (m - 1) (cutL r.1 (C ++ doorsL g r.1))) ∧ ((doorsL g r.1).length ≠ 1 → r.2.2 = []) ∧ (cutL r.1 (C ++ doorsL g r.1)).length < (cutL W C).length := fun r hr => by
    have hm1 := hm0 (List.length_pos_of_mem hr)
    obtain ⟨m', rfl⟩ : ∃ m', m = m' + 1 := ⟨m - 1, by omega⟩
    rw [hrs] at hr
    exact outer_known hv hWr hr
  have hall : ∀ r ∈ rs, ∀ q, q = r ∨ q ∈ allP r.2.2 → q ∈ allP (nestF g m (cutL W C)) := fun r hr q hq => by
    rw [allP_outer]
    exact List.mem_flatMap.2 ⟨r, hrs ▸ hr, List.mem_cons.2 hq⟩
  have hap : rs.Pairwise fun r q => ∀ x ∈ r.1, x ∉ q.1 := by
    have h1 := prtL_apart hS hSn
    rw [← prtL_cut hW, parts_eq hW hm, ← hrs, List.pairwise_map] at h1
    exact h1
  have hin : ∀ r ∈ rs, ∀ q ∈ allP r.2.2, ∀ x ∈ q.1, x ∈ r.1 := fun r hr q hq x hx => by
    obtain ⟨k1, _, _, _, _, k6, k7, _⟩ := hkn r hr
    by_cases h : (doorsL g r.1).length = 1
    · rw [k6 h] at hq
      exact (mem_cutL.1 (nest_within _ _ (fun x hx => hS x (k1 x (mem_cutL.1 hx).1)) q hq x hx)).1
    · rw [k7 h, allP_nil] at hq; cases hq
  have hcnt : ∀ r ∈ rs, (allP r.2.2).countP (fun r => decide (i ∈ r.1)) ≤ 1000 := fun r hr => by
    have h1 := (mem_wt 60 (nestF g m (cutL W C)) (by omega) r (hall r hr r (.inl rfl))).1
    have h2 := allP_len 60 r.2.2 h1
    have h3 := List.countP_le_length (p := fun r : PT => decide (i ∈ r.1)) (l := allP r.2.2)
    omega
  have hrl : rs.length ≤ 26 := by
    have h3 : ((outerP (nestF g m (cutL W C))).map (·.1)).length ≤ 26 := by
      rw [← parts_eq hW hm]
      exact Nat.le_trans (prtL_len _ _ _) hW26
    rw [List.length_map, ← hrs] at h3
    exact h3
  have HG := Lib.hid hg
  have HV := Lib.hid hv
  have HKN := Lib.hid hkn
  have HWR := Lib.hid hWr
  have HC := Lib.hid hC
  have HSC := Lib.hid hsC
  have HSCs : sC.size = C.length := by rw [hsC, namesAt_size hv C hC]
  have HIH := Lib.hid IH
  have HM0 := Lib.hid hm0
  have HNB := Lib.hid hnb
  have HALL := Lib.hid hall
  have HAP := Lib.hid hap
  have HIN := Lib.hid hin
  have HCNT := Lib.hid hcnt
  have HF : Hid (∀ (s : ByteArray) (hs : s.size ≤ 4611686018427387904) (w : World), Calls Tryz.prog 60 #[.string s, .int .u8 (nm[0]'l0).toNat] w fun e w' => e = .returned (.int .i64 (Lib.indexByte s.data.toList c)) ∧ w = w') := fun s hs w => by
    have := find_any s c w hs
    rw [one_get' hnc l0]; exact this
  have HIX := Lib.hid (fun (L : List Nat) (hL : ∀ x ∈ L, x < g.length) => idx_namesAt hv hL hi hc)
  clear hg hv hkn hWr hC hsC hsW hup hW IH hm0 hrs hnb hall hap hin hcnt hwt hS hSn hWn hc hnc hnm
  go_enter Tryz.func54, Tryz.ntmps54
  go_wp2_with fail
  refine HL.out.mono ?_
  rintro e w1 ⟨v, rfl, how, b1⟩
  obtain ⟨LA, lc, rfl, hls⟩ := own_strs how
  have HLS := Lib.hid hls
  have HB1 := Lib.hid b1
  have HT1 : Hid (Below w1.heap.size w1 w1) := Below.refl _ _
  clear hls b1 how HL
  have hlm : (rs.map ((fun x => namesAt g x) ∘ fun x => x.1)).length = rs.length := List.length_map _
  go_wp2_with fail
  go_loopw [16] (fun iv wr => ∃ (k : Nat), k ≤ rs.length ∧ iv = .int .i64 k ∧ Hid (levL i rs = levL i (rs.drop k)) ∧ Hid (Below w.heap.size w wr) ∧ Hid (Below w1.heap.size w1 wr)) (fun iv _ => rs.length - (intOf iv).toNat)
  case atStart => exact ⟨0, Nat.zero_le _, rfl, (show levL i rs = levL i (rs.drop 0) by rw [List.drop_zero]), HB1.out, HT1.out⟩
  case round =>
    obtain ⟨k, hk, rfl, HBR, HB, HT⟩ := hrel
    by_cases hlt : k < rs.length
    · obtain ⟨b, off, rfl, hb, hc⟩ := (HLS.out.below HT.out) (by rw [List.length_map]; omega)
      have x0 := hc k (by rw [List.length_map]; omega)
      obtain ⟨r, hr⟩ : ∃ r, r = rs[k] := ⟨_, rfl⟩
      have hget : (rs.map ((fun x => namesAt g x) ∘ fun x => x.1))[k]'(by rw [List.length_map]; exact hlt) = namesAt g r.1 := by rw [List.getElem_map, ← hr]; rfl
      rw [hget] at x0
      have hrm : r ∈ rs := hr ▸ List.getElem_mem hlt
      obtain ⟨k1, k2, k3, k4, k5, k6, k7, k8⟩ := HKN.out r hrm
      have hrc := levL_cons i r (rs.drop (k + 1))
      rw [show r :: rs.drop (k + 1) = rs.drop k by rw [hr]; exact (List.drop_eq_getElem_cons hlt).symm] at hrc
      have hPl : ∀ x ∈ r.1, x < g.length := fun x hx => reach_ok HV.out _ (HWR.out x (mem_cutL.1 (k1 x hx)).1)
      have hP26 : r.1.length ≤ 26 := Nat.le_trans (nodup_lt_len _ _ (k2.imp fun h => Nat.ne_of_lt h) hPl) h26
      have hDl : ∀ x ∈ doorsL g r.1, x < g.length := fun x hx => hPl x (doorsL_sub hx)
      have hD26 : (doorsL g r.1).length ≤ 26 := Nat.le_trans (List.length_filter_le _ _) hP26
      obtain ⟨pt, hpt⟩ : ∃ pt, pt = namesAt g r.1 := ⟨_, rfl⟩
      have hps : pt.size ≤ 26 := by rw [hpt, namesAt_size HV.out _ hPl]; exact hP26
      have HD := Lib.hid (fun w (h : Gr w A g) => l10Doors_any A cap g r.1 pt w h hn HV.out hPl (by omega) hpt)
      obtain ⟨dt, hdt⟩ : ∃ dt, dt = namesAt g (doorsL g r.1) := ⟨_, rfl⟩
      have hds : dt.size = (doorsL g r.1).length := by rw [hdt, namesAt_size HV.out _ hDl]
      rw [← hdt] at HD
      rw [← hpt] at x0
      have hmp := HM0.out (by omega)
      obtain ⟨z, hz⟩ : ∃ z, z = Lib.indexByte pt.data.toList c := ⟨_, rfl⟩
      have hzi : 0 ≤ z ↔ i ∈ r.1 := by rw [hz, hpt]; exact HIX.out r.1 hPl
      have HFP : Hid (∀ w, Calls Tryz.prog 60 #[.string pt, .int .u8 (nm[0]'l0).toNat] w fun e w' => e = .returned (.int .i64 z) ∧ w = w') := fun w => by rw [hz]; exact HF.out pt (by omega) w
      by_cases hz0 : 0 ≤ z
      · have hir := hzi.1 hz0
        have hd1 : (doorsL g r.1).length = 1 := by
          have := HNB.out r (HALL.out r hrm r (.inl rfl))
          rw [k4] at this; omega
        have hcut := k6 hd1
        obtain ⟨n, hnn⟩ : ∃ n, n = (allP r.2.2).countP fun r => decide (i ∈ r.1) := ⟨_, rfl⟩
        have hn1000 : n ≤ 1000 := by rw [hnn]; exact HCNT.out r hrm
        have HI := Lib.hid (fun w (h : Gr w A g) => HIH.out hmp r.1 (C ++ doorsL g r.1) pt (sC ++ dt) w h k2 (fun x hx => HWR.out x (mem_cutL.1 (k1 x hx)).1)
          (fun x hx => by rcases List.mem_append.1 hx with h | h; exact HC.out x h; exact hDl x h) (by omega) (by rw [List.length_append]; omega) hpt (by rw [namesAt_append, ← hdt, ← HSC.out])
          (fun q hq => HNB.out q (HALL.out r hrm q (.inr (by rw [hcut]; exact hq)))))
        rw [← hcut, ← hnn] at HI
        have hz1 : levL i (rs.drop (k + 1)) = 0 := levL_zero fun q hq => by
          obtain ⟨j, hj, e⟩ := List.getElem_of_mem hq
          rw [List.getElem_drop] at e
          rw [List.length_drop] at hj
          have hj2 : k + 1 + j < rs.length := by omega
          have h1 := List.pairwise_iff_getElem.1 HAP.out k (k + 1 + j) hlt hj2 (by omega) i (hr ▸ hir)
          rw [e] at h1
          exact ⟨h1, fun q2 hq2 h2 => h1 (HIN.out q (List.mem_of_mem_drop hq) q2 hq2 i h2)⟩
        have HR := Lib.hid (show levL i rs = n + 1 by rw [HBR.out, hrc, if_pos hir, hz1, hnn]; omega)
        have z1 : sC.size + dt.size ≤ 1048576 := by omega
        clear hc hb hget k1 k2 k3 k4 k5 k6 k7 k8 hrc hPl hDl hpt hdt hds hr hz hzi hir hd1 hcut hnn hz1 hrm
        go_wp2_with fail
        refine (HFP.out _).mono ?_
        rintro e w2 ⟨rfl, rfl⟩
        go_wp2_with fail
        refine (HD.out wr (HG.out.below HB.out)).mono ?_
        rintro e w2 ⟨rfl, b2⟩
        have HB2 := Lib.hid (HB.out.trans (b2.mono HB.out.size))
        clear b2
        go_wp2_with fail
        refine (HI.out w2 (HG.out.below HB2.out)).mono ?_
        rintro e w3 ⟨rfl, b3⟩
        have HB3 := Lib.hid (HB2.out.trans (b3.mono HB2.out.size))
        clear b3
        go_wp2_with fail
        go_ret
        exact ⟨ret_int (by rw [HR.out]; omega), HB3.out⟩
      · have hir : i ∉ r.1 := fun h => hz0 (hzi.2 h)
        have hc0 : (allP r.2.2).countP (fun r => decide (i ∈ r.1)) = 0 := by
          rw [List.countP_eq_zero]
          intro q hq
          have h1 := HIN.out r hrm q hq i
          simpa using fun h => hir (h1 h)
        have HR := Lib.hid (show levL i rs = levL i (rs.drop (k + 1)) by rw [HBR.out, hrc, if_neg hir, hc0]; omega)
        clear hc hb hget k1 k2 k3 k4 k5 k6 k7 k8 hrc hPl hDl hpt hdt hds hr hz hzi hir hc0 hrm HD
        go_wp2_with fail
        refine (HFP.out _).mono ?_
        rintro e w2 ⟨rfl, rfl⟩
        go_wp2_with fail
        go_roundw
        case rel => exact ⟨k + 1, by omega, by go_num, HR.out, HB.out, HT.out⟩
        case measure => simp [intOf]; omega
    · have HR := Lib.hid (show (0 : Int) = ((levL i rs : Nat) : Int) by rw [HBR.out, List.drop_of_length_le (by omega)]; rfl)
      go_wp2_with fail
      go_ret
      exact ⟨ret_int HR.out, HB.out⟩
theorem l10Level_any (A : Option Addr) (cap : Nat) (g : List Bl) (i : Nat) (nm : ByteArray) (hn : g.length + tot g ≤ 1048576) (hv : validB g = true) (hi : i < g.length) (hnm : nm = nthName g i) : ∀ m, LevGoes A cap g i nm m
  | 0 => l10Level_step A cap g i nm hn hv hi hnm 0 fun h => absurd h (Nat.lt_irrefl 0)
  | m + 1 => l10Level_step A cap g i nm hn hv hi hnm (m + 1) fun _ => l10Level_any A cap g i nm hn hv hi hnm m
theorem levelV_dead {g : List Bl} {s : ByteArray} (h : liveOf g s = none) : levelV g s = -1 := by
  unfold levelV
  by_cases hv : validB g = true
  · rw [named_liveP hv, h]; rfl
  · have : nestedB g = false := by unfold nestedB; rw [Bool.eq_false_iff.2 hv]; rfl
    rw [this]; simp
theorem levelV_not {g : List Bl} {s : ByteArray} (h : nestedB g = false) : levelV g s = -1 := by unfold levelV; rw [h]; simp
theorem levelV_live {g : List Bl} {s : ByteArray} {i : Nat} (hl : liveOf g s = some i) (h : nestedB g = true) : levelV g s = (((allP (nestF g 26 (reachS g))).countP fun r => decide (i ∈ r.1) : Nat) : Int) := by
  obtain ⟨hv, hp, hr⟩ := liveOf_is hl
  obtain ⟨hi, hnm⟩ := posOf_is hp
  unfold levelV
  rw [named_liveP hv, hl, h, if_neg (by simp)]
  congr 1
  unfold nestG
  refine List.countP_congr fun r hr => ?_
  have hG := nest_good 26 (reachS g) (reach_ok hv) r hr
  rw [← hnm, ← nthName_at hi, hasB_is hv hG.lt hi]
theorem nested_none {g : List Bl} (h : nestedB g = true) : validB g = true ∧ ∀ q ∈ allP (nestF g 26 (reachS g)), ¬ 1 < q.2.1.length := by
  unfold nestedB at h
  rw [Bool.and_eq_true] at h
  refine ⟨h.1, fun q hq => ?_⟩
  have h2 := h.2
  rw [brokenV_yes h.1] at h2
  unfold brokenO at h2
  rw [Option.isNone_iff_eq_none, List.find?_eq_none] at h2
  simpa using h2 q hq
set_option maxRecDepth 100000 in
theorem specLevel_any (A : Option Addr) (cap : Nat) (g : List Bl) (s : ByteArray) (w : World) (hg : Gr w A g) (hn : g.length + tot g ≤ 1048576) (hcap : g.length ≤ cap) :
    Calls Tryz.prog 30 #[.slice A g.length cap, .string s] w fun e w' => e = .returned (.int .i64 (levelV g s)) ∧ Below w.heap.size w w' := by
  have HN := Lib.hid (specNested_any A cap g w hg hn hcap)
  have HL := Lib.hid (fun w (h : Gr w A g) => l3Live_any A cap g s w h hn hcap)
  have HG := Lib.hid hg
  clear hg
  cases hnb : nestedB g with
  | false =>
    rw [hnb] at HN
    have HE := Lib.hid (levelV_not (s := s) hnb)
    clear hnb
    go_enter Tryz.func30, Tryz.ntmps30
    go_wp2_with fail
    refine HN.out.mono ?_
    rintro e w1 ⟨rfl, b1⟩
    go_wp2_with fail
    go_ret
    exact ⟨ret_int HE.out.symm, b1⟩
  | true =>
    rw [hnb] at HN
    cases hl : liveOf g s with
    | none =>
      rw [hl] at HL
      have HL2 : Hid (∀ w, Gr w A g → Calls Tryz.prog 44 #[.slice A g.length cap, .string s] w fun e w' => e = .returned (.int .i64 (-1)) ∧ Below w.heap.size w w') := HL
      have HE := Lib.hid (levelV_dead hl)
      clear hnb hl HL
      go_enter Tryz.func30, Tryz.ntmps30
      go_wp2_with fail
      refine HN.out.mono ?_
      rintro e w1 ⟨rfl, b1⟩
      have HB1 := Lib.hid b1
      clear b1
      go_wp2_with fail
      refine (HL2.out w1 (HG.out.below HB1.out)).mono ?_
      rintro e w2 ⟨rfl, b2⟩
      have HB2 := Lib.hid (HB1.out.trans (b2.mono HB1.out.size))
      clear b2
      go_wp2_with fail
      go_ret
      exact ⟨ret_int HE.out.symm, HB2.out⟩
    | some i =>
      obtain ⟨hv, hp, _⟩ := liveOf_is hl
      obtain ⟨hi, hnm⟩ := posOf_is hp
      rw [hl] at HL
      have HL2 : Hid (∀ w, Gr w A g → Calls Tryz.prog 44 #[.slice A g.length cap, .string s] w fun e w' => e = .returned (.int .i64 (i : Int)) ∧ Below w.heap.size w w') := HL
      have HE := Lib.hid (levelV_live hl hnb)
      have hnn := (nested_none hnb).2
      obtain ⟨rs, hrs⟩ : ∃ rs, rs = namesAt g (reachS g) := ⟨_, rfl⟩
      have HR1 := Lib.hid (fun w (h : Gr w A g) => (l1Reached_any A cap g w h hn hv).mono fun e w' h => show e = .returned (.string rs) ∧ Below w.heap.size w w' from hrs ▸ h)
      have HP1 := Lib.hid (fun w (h : Gr w A g) => l10Level_any A cap g i s hn hv hi (by rw [nthName_at hi, hnm]) 26 (reachS g) [] rs ⟨#[]⟩ w h (reachS_up g) (fun _ h => h) (fun x hx => by cases hx) (by rw [cutL_nil]; exact reachS_len hv) (by simp) hrs rfl (by rw [cutL_nil]; exact hnn))
      rw [cutL_nil] at HP1
      have hil : ¬ ((i : Int) < 0) := by omega
      clear hnb hl HL hv hp hi hnm hnn hrs
      go_enter Tryz.func30, Tryz.ntmps30
      go_wp2_with fail
      refine HN.out.mono ?_
      rintro e w1 ⟨rfl, b1⟩
      have HB1 := Lib.hid b1
      clear b1
      go_wp2_with fail
      refine (HL2.out w1 (HG.out.below HB1.out)).mono ?_
      rintro e w2 ⟨rfl, b2⟩
      have HB2 := Lib.hid (HB1.out.trans (b2.mono HB1.out.size))
      clear b2
      go_wp2_with fail
      refine (HR1.out w2 (HG.out.below HB2.out)).mono ?_
      rintro e w3 ⟨rfl, b3⟩
      have HB3 := Lib.hid (HB2.out.trans (b3.mono HB2.out.size))
      clear b3
      go_wp2_with fail
      refine (HP1.out w3 (HG.out.below HB3.out)).mono ?_
      rintro e w4 ⟨rfl, b4⟩
      have HB4 := Lib.hid (HB3.out.trans (b4.mono HB3.out.size))
      clear b4
      go_wp2_with fail
      go_ret
      exact ⟨ret_int HE.out.symm, HB4.out⟩
end Go.Proofs.YtdpjdhllaokbfaaGreat
