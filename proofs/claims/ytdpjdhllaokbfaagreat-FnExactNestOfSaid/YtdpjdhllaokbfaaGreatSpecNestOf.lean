/-
  The model's NestOf.
-/
import Derived.Test.YtdpjdhllaokbfaaGreatSpecLevel
import Derived.Test.YtdpjdhllaokbfaaGreatNestText
namespace Go.Proofs.YtdpjdhllaokbfaaGreat
open Go.RowKit Go.Sort

theorem cutL_apart {W C : List Nat} (h : ∀ x ∈ W, x ∉ C) : cutL W C = W := by unfold cutL; rw [List.filter_eq_self]; intro x hx; simpa using h x hx
def NstGoes (A : Option Addr) (cap : Nat) (g : List Bl) (m : Nat) : Prop := ∀ (W C : List Nat) (sW sC : ByteArray) (w : World), Gr w A g → W.Pairwise (· < ·) → (∀ x ∈ W, x ∈ reachS g) → (∀ x ∈ C, x < g.length) → (∀ x ∈ W, x ∉ C) → W.length ≤ m → C.length + 26 * m ≤ 900 → sW = namesAt g W → sC = namesAt g C → (∀ q ∈ allP (nestF g m W), ¬ 1 < q.2.1.length) →
  Calls Tryz.prog 52 #[.slice A g.length cap, .string sW, .string sC] w fun e w' => e = .returned (.string (txL g (nestF g m W))) ∧ Below w.heap.size w w'
/-- The items of the first k blocks. -/
def itK (g : List Bl) (m : Nat) (W : List Nat) (k : Nat) : List NI := (W.take k).filterMap (itemO g W (nestF g m))
theorem itK_succ {g : List Bl} {m : Nat} {W : List Nat} {k : Nat} (hk : k < W.length) : itK g m W (k + 1) = itK g m W k ++ (itemO g W (nestF g m) W[k]).toList := by
  unfold itK
  rw [List.take_succ_eq_append_getElem hk, List.filterMap_append]
  cases h : itemO g W (nestF g m) W[k] with
  | none => simp [h]
  | some r => simp [h]
theorem itK_all (g : List Bl) (m : Nat) (W : List Nat) : itK g m W W.length = nestF g (m + 1) W := by unfold itK; rw [List.take_length, nestF_succ]

set_option maxRecDepth 100000 in
set_option maxHeartbeats 4000000 in
theorem l10Nest_step (A : Option Addr) (cap : Nat) (g : List Bl) (hn : g.length + tot g ≤ 1048576) (hv : validB g = true) (m : Nat) (IH : NstGoes A cap g m) : NstGoes A cap g (m + 1) := by
  intro W C sW sC w hg hup hWr hC hWC hm hCm hsW hsC hnb
  have hW : ∀ x ∈ W, x < g.length := fun x hx => reach_ok hv _ (hWr x hx)
  have hcw : cutL W C = W := cutL_apart hWC
  have hCl : C.length ≤ 1000 := by omega
  have h26 := (valid_iff.1 hv).2.1
  have hWn : W.Nodup := hup.imp fun h => Nat.ne_of_lt h
  have hW26 : W.length ≤ 26 := Nat.le_trans (nodup_lt_len _ _ hWn hW) h26
  have hWs : sW.size = W.length := by rw [hsW, namesAt_size hv W hW]
  have hok : okL g (nestF g (m + 1) W) := nest_ok hv (m + 1) W fun x hx => ⟨hW x hx, (mem_reachP hv).1 (hWr x hx)⟩
  have htw := txL_wt hv hok
  have hwt := nest_wt (g := g) (m + 1) W hW hWn
  have htot : (txL g (nestF g (m + 1) W)).size ≤ 156 := by omega
  have hpre : ∀ k, k ≤ W.length → (txL g (itK g m W k)).size ≤ 156 := fun k hk => by
    have e : nestF g (m + 1) W = itK g m W k ++ (W.drop k).filterMap (itemO g W (nestF g m)) := by
      unfold itK
      rw [← List.filterMap_append, List.take_append_drop, nestF_succ]
    rw [e, txL_append, ByteArray.size_append] at htot
    omega
  have HPT := Lib.hid (fun w (h : Gr w A g) i (hi : i < g.length) nm (hnm : nm = nthName g i) => l10Part_any A cap g i W C nm sW sC w h hn hv hi hnm hW hC (by omega) hCl hsW hsC)
  rw [hcw] at HPT
  have HG := Lib.hid hg
  have HV := Lib.hid hv
  have HW := Lib.hid hW
  have HWR := Lib.hid hWr
  have HWC := Lib.hid hWC
  have HC := Lib.hid hC
  have HUP := Lib.hid hup
  have HSWE := Lib.hid hsW
  have HSC := Lib.hid hsC
  have HSCs : sC.size = C.length := by rw [hsC, namesAt_size hv C hC]
  have HIH := Lib.hid IH
  have HNB := Lib.hid hnb
  have HPRE := Lib.hid hpre
  clear hg hv hW hWr hWC hC hup hsW hsC IH hnb hpre hok htw hwt htot hWn hcw
  go_enter Tryz.func52, Tryz.ntmps52
  go_wp2_with fail
  go_loopw [7, 8, 17] (fun ov sv iv wr => ∃ (k : Nat) (seen : ByteArray), k ≤ W.length ∧ iv = .int .i64 k ∧ ov = .string (txL g (itK g m W k)) ∧ sv = .string seen ∧ Hid (seen = namesAt g (prtL g W (W.take k)).flatten) ∧ seen.size ≤ 26 * k ∧ Hid (Below w.heap.size w wr)) (fun _ _ iv _ => W.length - (intOf iv).toNat)
  case atStart => exact ⟨0, _, Nat.zero_le _, rfl, by unfold itK; rw [List.take_zero, List.filterMap_nil, txL_nil], rfl, (show (⟨#[]⟩ : ByteArray) = _ from rfl), Nat.zero_le _, Below.refl _ _⟩
  case round =>
    obtain ⟨k, seen, hk, rfl, rfl, rfl, HSN, hss, HB⟩ := hrel
    obtain ⟨out, hout⟩ : ∃ out, out = txL g (itK g m W k) := ⟨_, rfl⟩
    have hos : out.size ≤ 156 := hout ▸ HPRE.out k hk
    have HOUT := Lib.hid hout
    rw [← hout]
    clear hout
    by_cases hlt : k < W.length
    · have hks : k + 1 ≤ sW.size := by omega
      have hki : (k : Int) < sW.size := by omega
      obtain ⟨i, hi'⟩ : ∃ i, i = W[k] := ⟨_, rfl⟩
      have hiW : i ∈ W := hi' ▸ List.getElem_mem hlt
      have hil : i < g.length := HW.out _ hiW
      obtain ⟨c, hc, _⟩ := valid_one HV.out (List.getElem_mem hil)
      have hex : sW.extract k (k + 1) = nthName g i := by
        rw [HSWE.out, nthName_at hil]
        simp only [hi']
        exact (namesAt_cut HV.out HW.out hlt).2
      have hexc : sW.extract k (k + 1) = ⟨#[c]⟩ := by rw [hex, nthName_at hil, hc]
      have hes : (sW.extract k (k + 1)).size = 1 := by rw [hexc]; rfl
      have l0 : 0 < (sW.extract k (k + 1)).size := by omega
      have i0 : (0 : Int) < (sW.extract k (k + 1)).size := by omega
      obtain ⟨pt, hpt⟩ : ∃ pt, pt = namesAt g (partL g W i) := ⟨_, rfl⟩
      have HP := Lib.hid ((HPT.out wr (HG.out.below HB.out) i hil (sW.extract k (k + 1)) hex).mono fun e w' h => show e = .returned (.string pt) ∧ Below wr.heap.size wr w' from hpt ▸ h)
      have hpl : ∀ x ∈ partL g W i, x < g.length := fun x hx => HW.out x (partL_sub HW.out hx)
      have hpz : pt.size = (partL g W i).length := by rw [hpt, namesAt_size HV.out _ hpl]
      have hpz2 : pt.size ≤ 26 := by rw [hpz]; exact Nat.le_trans (nodup_lt_len _ _ (partL_nodup g W i) hpl) h26
      have hfl : ∀ x ∈ (prtL g W (W.take k)).flatten, x < g.length := fun x hx => by
        obtain ⟨P, hP, hx⟩ := List.mem_flatten.1 hx
        obtain ⟨j, _, e, _⟩ := mem_prtL.1 hP
        rw [e] at hx
        exact HW.out x (partL_sub HW.out hx)
      obtain ⟨z, hz⟩ : ∃ z, z = Lib.indexByte seen.data.toList c := ⟨_, rfl⟩
      have hzi : 0 ≤ z ↔ i ∈ (prtL g W (W.take k)).flatten := by rw [hz, HSN.out]; exact idx_namesAt HV.out hfl hil hc
      have HF : Hid (∀ w, Calls Tryz.prog 60 #[.string seen, .int .u8 ((sW.extract k (k + 1))[0]'l0).toNat] w fun e w' => e = .returned (.int .i64 z) ∧ w = w') := fun w => by
        rw [one_get' hexc l0, hz]
        exact find_any seen c w (by omega)
      have HPK := Lib.hid (show prtL g W (W.take (k + 1)) = prtL g W (W.take k) ++ (firstO g W i).toList by rw [prtL_succ hlt]; simp only [hi'])
      have HIK := Lib.hid (show itK g m W (k + 1) = itK g m W k ++ (itemO g W (nestF g m) i).toList by rw [itK_succ hlt]; simp only [hi'])
      by_cases hp0 : partL g W i = []
      · have hpe : pt.size = 0 := by rw [hpz, hp0]; rfl
        have q0 : pt.toList.isEmpty = true := emp_yes hpe
        have HPK2 := Lib.hid (show prtL g W (W.take (k + 1)) = prtL g W (W.take k) by rw [HPK.out]; unfold firstO; rw [if_pos hp0]; simp)
        have hzn : ¬ 0 ≤ z := fun h => by
          obtain ⟨P, hP, hx⟩ := List.mem_flatten.1 (hzi.1 h)
          obtain ⟨j, _, e, hne, _⟩ := mem_prtL.1 hP
          rw [e] at hx hne
          rw [← partL_same HW.out hx, hp0] at hne
          exact hne rfl
        have HTX := Lib.hid (show txL g (itK g m W (k + 1)) = out ++ sW.extract k (k + 1) by
          rw [HIK.out]; unfold itemO; rw [if_pos hp0, Option.toList_some, txL_snoc, txN_blk, ← HOUT.out, hex])
        have z1 : out.size + (sW.extract k (k + 1)).size ≤ 1048576 := by omega
        clear hc hex hexc hpt hz hzi hfl hp0 hpz hpe hi' HPK HIK hpl hiW
        go_wp2_with fail
        refine HP.out.mono ?_
        rintro e w2 ⟨rfl, b2⟩
        have HB2 := Lib.hid (HB.out.trans (b2.mono HB.out.size))
        clear b2
        go_wp2_with fail
        refine (HF.out _).mono ?_
        rintro e w9 ⟨rfl, rfl⟩
        go_wp2_with fail
        go_roundw
        case rel => exact ⟨k + 1, seen, by omega, by go_num, by rw [HTX.out], rfl, by rw [HPK2.out]; exact HSN.out, by omega, HB2.out⟩
        case measure => simp [intOf]; omega
      · have hpe : pt.size ≠ 0 := by rw [hpz]; exact fun h => hp0 (List.eq_nil_of_length_eq_zero h)
        have q0 : pt.toList.isEmpty = false := emp_no hpe
        have hmet : i ∈ (prtL g W (W.take k)).flatten ↔ (partL g W i).head? ≠ some i := by
          have := met_iff HW.out (fun _ h => h) HUP.out hlt (by rw [← hi']; exact hp0)
          simp only [← hi'] at this
          exact this
        by_cases hz0' : 0 ≤ z
        · have hh : ¬ (partL g W i).head? = some i := hmet.1 (hzi.1 hz0')
          have HPK2 := Lib.hid (show prtL g W (W.take (k + 1)) = prtL g W (W.take k) by rw [HPK.out]; unfold firstO; rw [if_neg hp0, if_neg hh]; simp)
          have HTX := Lib.hid (show txL g (itK g m W (k + 1)) = out by
            rw [HIK.out]; unfold itemO; rw [if_neg hp0, if_neg hh, Option.toList_none, List.append_nil, ← HOUT.out])
          clear hc hex hexc hpt hz hzi hfl hp0 hpz hpe hi' HPK HIK hmet hh hpl hiW
          go_wp2_with fail
          refine HP.out.mono ?_
          rintro e w2 ⟨rfl, b2⟩
          have HB2 := Lib.hid (HB.out.trans (b2.mono HB.out.size))
          clear b2
          go_wp2_with fail
          refine (HF.out _).mono ?_
          rintro e w9 ⟨rfl, rfl⟩
          go_wp2_with fail
          go_roundw
          case rel => exact ⟨k + 1, seen, by omega, by go_num, by rw [HTX.out], rfl, by rw [HPK2.out]; exact HSN.out, by omega, HB2.out⟩
          case measure => simp [intOf]; omega
        · have hh : (partL g W i).head? = some i := by
            refine Decidable.byContradiction fun h => ?_
            exact hz0' (hzi.2 (hmet.2 h))
          have hrm := outer_has (m := m) HW.out hp0
          have hsub : ∀ x ∈ partL g W i, x ∈ W := fun x hx => partL_sub HW.out hx
          have hrall : ∀ q, q ∈ allP (if (doorsL g (partL g W i)).length = 1 then nestF g m (restL (partL g W i) (doorsL g (partL g W i))) else []) → q ∈ allP (nestF g (m + 1) W) := fun q hq => by
            rw [allP_outer]
            exact List.mem_flatMap.2 ⟨_, hrm, List.mem_cons_of_mem _ hq⟩
          have hd1 : (doorsL g (partL g W i)).length = 1 := by
            have h1 := HNB.out _ (outerP_all hrm)
            have hm := List.getElem_mem (List.length_pos_iff.2 hp0)
            obtain ⟨d, hd⟩ := door_some HV.out hm ((mem_reachP HV.out).1 (HWR.out _ (hsub _ hm)))
            have := List.length_pos_of_mem hd
            have h2 : ¬ 1 < (doorsL g (partL g W i)).length := h1
            omega
          obtain ⟨d, hd⟩ : ∃ d, doorsL g (partL g W i) = [d] := by
            match hq : doorsL g (partL g W i), hd1 with
            | [d], _ => exact ⟨d, rfl⟩
          obtain ⟨P, hPd⟩ : ∃ P, P = partL g W i := ⟨_, rfl⟩
          rw [← hPd] at hd hd1 hrall hsub hpl hpz
          have hdm : d ∈ P := doorsL_sub (g := g) (by rw [hd]; exact List.mem_cons_self)
          have hdl : d < g.length := hpl d hdm
          obtain ⟨dt, hdt⟩ : ∃ dt, dt = namesAt g (doorsL g P) := ⟨_, rfl⟩
          have hdn : dt = nthName g d := by rw [hdt, hd, namesAt_one]
          have hds : dt.size = 1 := by rw [hdn]; exact nth_size HV.out hdl
          have HD := Lib.hid (fun w (h : Gr w A g) => l10Doors_any A cap g P pt w h hn HV.out hpl (by rw [← hpz]; omega) (by rw [hpt, hPd]))
          rw [← hdt] at HD
          obtain ⟨inn, hinn⟩ : ∃ inn, inn = txL g (nestF g m (restL P [d])) := ⟨_, rfl⟩
          have HI := Lib.hid (fun w (h : Gr w A g) (rest : ByteArray) (hrest : rest = namesAt g (restL P [d])) => (HIH.out (restL P [d]) (C ++ [d]) rest (sC ++ dt) w h (restL_up (by rw [hPd]; exact partL_up g W i)) (fun x hx => HWR.out x (hsub x (restL_sub hx)))
            (fun x hx => by rcases List.mem_append.1 hx with h | h; exact HC.out x h; rw [List.mem_singleton.1 h]; exact hdl)
            (fun x hx hc => by rcases List.mem_append.1 hc with h | h; exact HWC.out x (hsub x (restL_sub hx)) h; exact (mem_restL.1 hx).2 h)
            (by have := restL_len HW.out (i := i) (d := d) (by rw [← hPd, hd]; exact List.mem_cons_self); rw [← hPd, hd] at this; omega)
            (by rw [List.length_append, List.length_singleton]; omega) hrest (by rw [namesAt_append, namesAt_one, ← HSC.out, ← hdn])
            (fun q hq => HNB.out q (hrall q (by rw [if_pos hd1, hd]; exact hq)))).mono fun e w' h => show e = .returned (.string inn) ∧ Below w.heap.size w w' from hinn ▸ h)
          have HTX := Lib.hid (show txL g (itK g m W (k + 1)) = out ++ ⟨#[123]⟩ ++ dt ++ inn ++ ⟨#[125]⟩ by
            rw [HIK.out]; unfold itemO
            rw [if_neg hp0, if_pos hh, Option.toList_some, txL_snoc, txN_part, ← HOUT.out, ← hPd, hd, if_pos (by rfl), ← hinn, List.headD_cons, ← hdn]
            simp only [ba_append_assoc])
          have hts : (out ++ ⟨#[123]⟩ ++ dt ++ inn ++ ⟨#[125]⟩).size ≤ 156 := by rw [← HTX.out]; exact HPRE.out (k + 1) (by omega)
          rw [ByteArray.size_append, ByteArray.size_append, ByteArray.size_append, ByteArray.size_append] at hts
          have hy1 : (⟨#[123]⟩ : ByteArray).size = 1 := rfl
          have hy2 : (⟨#[125]⟩ : ByteArray).size = 1 := rfl
          have HPK2 := Lib.hid (show prtL g W (W.take (k + 1)) = prtL g W (W.take k) ++ [P] by rw [HPK.out]; unfold firstO; rw [if_neg hp0, if_pos hh, ← hPd]; rfl)
          have HSN2 := Lib.hid (show seen ++ pt = namesAt g (prtL g W (W.take (k + 1))).flatten by
            rw [HPK2.out, List.flatten_append, namesAt_append, ← HSN.out, hpt, hPd]; simp)
          have z1 : seen.size + pt.size ≤ 1048576 := by omega
          have z2 : sC.size + dt.size ≤ 1048576 := by omega
          have z3 : out.size + (⟨#[123]⟩ : ByteArray).size ≤ 1048576 := by omega
          have z4 : (out ++ ⟨#[123]⟩).size + dt.size ≤ 1048576 := by rw [ByteArray.size_append]; omega
          have z5 : (out ++ ⟨#[123]⟩ ++ dt).size + inn.size ≤ 1048576 := by rw [ByteArray.size_append, ByteArray.size_append]; omega
          have z6 : (out ++ ⟨#[123]⟩ ++ dt ++ inn).size + (⟨#[125]⟩ : ByteArray).size ≤ 1048576 := by rw [ByteArray.size_append, ByteArray.size_append, ByteArray.size_append]; omega
          have HPP := Lib.hid (show pt = namesAt g P by rw [hpt, hPd])
          have HPL := Lib.hid hpl
          have HDN := Lib.hid hdn
          have HDL := Lib.hid hdl
          have hP26 : P.length ≤ 26 := by omega
          clear hc hex hexc hpt hz hzi hfl hp0 hpe hi' HPK HIK hmet hh hpl hiW hrm hsub hrall hd1 hd hdm hdl hdt hdn hinn hts hPd
          go_wp2_with fail
          refine HP.out.mono ?_
          rintro e w2 ⟨rfl, b2⟩
          have HB2 := Lib.hid (HB.out.trans (b2.mono HB.out.size))
          clear b2
          go_wp2_with fail
          refine (HF.out _).mono ?_
          rintro e w9 ⟨rfl, rfl⟩
          go_wp2_with fail
          refine (HD.out w2 (HG.out.below HB2.out)).mono ?_
          rintro e w3 ⟨rfl, b3⟩
          have HB3 := Lib.hid (HB2.out.trans (b3.mono HB2.out.size))
          clear b3
          go_wp2_with fail
          go_loopw [13, 35] (fun rv jv wr => ∃ (j : Nat), j ≤ P.length ∧ jv = .int .i64 j ∧ rv = .string (namesAt g (restL (P.take j) [d])) ∧ wr = w3) (fun _ jv _ => P.length - (intOf jv).toNat)
          case atStart => exact ⟨0, Nat.zero_le _, rfl, rfl, rfl⟩
          case round =>
            obtain ⟨j, hj, rfl, rfl, rfl⟩ := hrel
            obtain ⟨rt, hrt⟩ : ∃ rt, rt = namesAt g (restL (P.take j) [d]) := ⟨_, rfl⟩
            have hrl : ∀ x ∈ restL (P.take j) [d], x < g.length := fun x hx => HPL.out x (List.mem_of_mem_take (restL_sub hx))
            have hrs : rt.size ≤ 26 := by
              rw [hrt, namesAt_size HV.out _ hrl]
              exact Nat.le_trans (List.length_filter_le _ _) (by rw [List.length_take]; omega)
            have HRT := Lib.hid hrt
            rw [← hrt]
            clear hrt hrl
            by_cases hjl : j < P.length
            · have hjs : j + 1 ≤ pt.size := by omega
              have hji : (j : Int) < pt.size := by omega
              have hpj : P[j] < g.length := HPL.out _ (List.getElem_mem hjl)
              obtain ⟨y, hy⟩ : ∃ y, y = P[j] := ⟨_, rfl⟩
              have hyl : y < g.length := hy ▸ hpj
              have hxy : pt.extract j (j + 1) = nthName g y := by
                rw [HPP.out, nthName_at hyl]
                simp only [hy]
                exact (namesAt_cut HV.out HPL.out hjl).2
              have hRS := show restL (P.take (j + 1)) [d] = restL (P.take j) [d] ++ (if y = d then [] else [y]) by
                unfold restL
                rw [List.take_succ_eq_append_getElem hjl, ← hy, List.filter_append, List.filter_cons]
                by_cases e : y = d
                · simp [e]
                · simp [e]
              by_cases e : y = d
              · have q5 : ((pt.extract j (j + 1)).toList == dt.toList) = true := beq_toList.2 (by rw [hxy, HDN.out, e])
                have HR2 := Lib.hid (show rt = namesAt g (restL (P.take (j + 1)) [d]) by rw [hRS, if_pos e, List.append_nil, HRT.out])
                clear hxy hRS hy e hpj
                go_wp2_with fail
                go_roundw
                case rel => exact ⟨j + 1, by omega, by go_num, by rw [HR2.out], trivial⟩
                case measure => simp [intOf]; omega
              · have q5 : ((pt.extract j (j + 1)).toList == dt.toList) = false := by
                  cases hq : ((pt.extract j (j + 1)).toList == dt.toList) with
                  | false => rfl
                  | true =>
                    have h1 := beq_toList.1 hq
                    rw [hxy, HDN.out, nthName_at hyl, nthName_at HDL.out] at h1
                    exact absurd (name_inj HV.out hyl HDL.out h1) e
                have hys : (pt.extract j (j + 1)).size = 1 := by rw [hxy]; exact nth_size HV.out hyl
                have z9 : rt.size + (pt.extract j (j + 1)).size ≤ 1048576 := by omega
                have HR2 := Lib.hid (show rt ++ pt.extract j (j + 1) = namesAt g (restL (P.take (j + 1)) [d]) by rw [hRS, if_neg e, namesAt_append, namesAt_one, HRT.out, hxy])
                clear hxy hRS hy e hpj
                go_wp2_with fail
                go_roundw
                case rel => exact ⟨j + 1, by omega, by go_num, by rw [HR2.out], trivial⟩
                case measure => simp [intOf]; omega
            · have HI2 := Lib.hid (HI.out wr (HG.out.below HB3.out) rt (by rw [HRT.out, List.take_of_length_le (by omega)]))
              go_wp2_with fail
              refine HI2.out.mono ?_
              rintro e w4 ⟨rfl, b4⟩
              have HB4 := Lib.hid (HB3.out.trans (b4.mono HB3.out.size))
              clear b4
              go_wp2_with fail
              go_roundw
              case rel => exact ⟨k + 1, seen ++ pt, by omega, by go_num, by rw [HTX.out], rfl, HSN2.out, by rw [ByteArray.size_append]; omega, HB4.out⟩
              case measure => simp [intOf]; omega
    · have HE := Lib.hid (show out = txL g (nestF g (m + 1) W) by rw [HOUT.out, ← itK_all]; congr 2; omega)
      have hki : ¬ (k : Int) < W.length := by omega
      go_wp2_with fail
      go_ret
      exact ⟨ret_string HE.out, HB.out⟩
theorem l10Nest_zero (A : Option Addr) (cap : Nat) (g : List Bl) : NstGoes A cap g 0 := by
  intro W C sW sC w hg hup hWr hC hWC hm hCm hsW hsC hnb
  have e : W = [] := List.eq_nil_of_length_eq_zero (by omega)
  subst e
  have hs : sW = ⟨#[]⟩ := hsW
  subst hs
  have HE := Lib.hid (show (⟨#[]⟩ : ByteArray) = txL g (nestF g 0 []) by unfold nestF; rw [txL_nil])
  clear hg hup hWr hC hWC hm hCm hsW hsC hnb
  go_enter Tryz.func52, Tryz.ntmps52
  go_wp2_with fail
  go_loopw [7, 17] (fun ov iv wr => iv = .int .i64 0 ∧ ov = .string ⟨#[]⟩ ∧ wr = w) (fun _ _ _ => 0)
  case atStart => exact ⟨rfl, rfl, rfl⟩
  case round =>
    obtain ⟨rfl, rfl, rfl⟩ := hrel
    go_wp2_with fail
    go_ret
    exact ⟨ret_string HE.out, Below.refl _ _⟩
theorem l10Nest_any (A : Option Addr) (cap : Nat) (g : List Bl) (hn : g.length + tot g ≤ 1048576) (hv : validB g = true) : ∀ m, NstGoes A cap g m
  | 0 => l10Nest_zero A cap g
  | m + 1 => l10Nest_step A cap g hn hv m (l10Nest_any A cap g hn hv m)
end Go.Proofs.YtdpjdhllaokbfaaGreat
