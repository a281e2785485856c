/-
  The model's list of parts.
-/
import Derived.Test.YtdpjdhllaokbfaaGreatSpecDoors
import Derived.Test.YtdpjdhllaokbfaaGreatOwnStr
namespace Go.Proofs.YtdpjdhllaokbfaaGreat
open Go.RowKit Go.Sort

/-- The parts among some blocks, each where its first block stands. -/
def firstO (g : List Bl) (S : List Nat) (i : Nat) : Option (List Nat) := if partL g S i = [] then none else if (partL g S i).head? = some i then some (partL g S i) else none
def prtL (g : List Bl) (S W : List Nat) : List (List Nat) := W.filterMap (firstO g S)
theorem prtL_succ {g : List Bl} {S W : List Nat} {k : Nat} (hk : k < W.length) : prtL g S (W.take (k + 1)) = prtL g S (W.take k) ++ (firstO g S W[k]).toList := by
  unfold prtL
  rw [List.take_succ_eq_append_getElem hk, List.filterMap_append]
  cases h : firstO g S W[k] with
  | none => simp [h]
  | some r => simp [h]
theorem mem_prtL {g : List Bl} {S W : List Nat} {P : List Nat} : P ∈ prtL g S W ↔ ∃ j ∈ W, P = partL g S j ∧ P ≠ [] ∧ P.head? = some j := by
  unfold prtL
  rw [List.mem_filterMap]
  constructor
  · rintro ⟨j, hj, h⟩
    unfold firstO at h
    by_cases h1 : partL g S j = []
    · rw [if_pos h1] at h; cases h
    · rw [if_neg h1] at h
      by_cases h2 : (partL g S j).head? = some j
      · rw [if_pos h2] at h
        have := Option.some.inj h
        subst this
        exact ⟨j, hj, rfl, h1, h2⟩
      · rw [if_neg h2] at h; cases h
  · rintro ⟨j, hj, e, h1, h2⟩
    subst e
    exact ⟨j, hj, by unfold firstO; rw [if_neg h1, if_pos h2]⟩
/-- Whether a block's part has been met. -/
theorem met_iff {g : List Bl} {W : List Nat} {S : List Nat} (hS : ∀ x ∈ S, x < g.length) (hSW : ∀ x ∈ S, x ∈ W) (hup : W.Pairwise (· < ·)) {k : Nat} (hk : k < W.length) (hp : partL g S W[k] ≠ []) : W[k] ∈ (prtL g S (W.take k)).flatten ↔ (partL g S W[k]).head? ≠ some W[k] := by
  rw [List.mem_flatten]
  constructor
  · rintro ⟨P, hP, hx⟩ hh
    obtain ⟨j, hj, e, _, h2⟩ := mem_prtL.1 hP
    rw [e] at hx h2
    have e2 := partL_same hS hx
    rw [e2, h2] at hh
    have e3 := Option.some.inj hh
    obtain ⟨m, hm, e4⟩ := List.getElem_of_mem hj
    rw [List.length_take] at hm
    rw [List.getElem_take] at e4
    have := List.pairwise_iff_getElem.1 hup m k (by omega) hk (by omega)
    omega
  · intro hh
    cases hq : partL g S W[k] with
    | nil => exact absurd hq hp
    | cons h hs =>
      have hh2 : h ∈ partL g S W[k] := by rw [hq]; exact List.mem_cons_self
      have hself := partL_self hS hh2
      have e := partL_same hS hh2
      have hlt : h < W[k] := by
        have hup2 := partL_up g S W[k]
        rw [hq] at hself hup2 hh
        rcases List.mem_cons.1 hself with e2 | h2
        · exact absurd (by rw [← e2]; rfl) hh
        · exact (List.pairwise_cons.1 hup2).1 _ h2
      obtain ⟨m, hm, e4⟩ := List.getElem_of_mem (hSW h (partL_sub hS hh2))
      have hmk : m < k := by
        rcases Nat.lt_or_ge m k with h | h
        · exact h
        · rcases Nat.eq_or_lt_of_le h with e5 | h5
          · subst e5; omega
          · have := List.pairwise_iff_getElem.1 hup k m hk hm h5; omega
      refine ⟨partL g S h, mem_prtL.2 ⟨h, ?_, rfl, by rw [e]; exact hp, by rw [e, hq]; rfl⟩, by rw [e]; exact hself⟩
      rw [← e4]
      exact List.mem_take_iff_getElem.2 ⟨m, by omega, rfl⟩
theorem prtL_outer {g : List Bl} {m : Nat} {S : List Nat} : (outerP (nestF g (m + 1) S)).map (·.1) = prtL g S S := by
  rw [nestF_succ]
  unfold prtL
  have key : ∀ T : List Nat, (outerP (T.filterMap (itemO g S (nestF g m)))).map (·.1) = T.filterMap (firstO g S) := by
    intro T
    induction T with
    | nil => rfl
    | cons t T ih =>
      unfold itemO firstO at *
      by_cases h1 : partL g S t = []
      · rw [List.filterMap_cons_some (b := .blk t) (by rw [if_pos h1]), List.filterMap_cons_none (by rw [if_pos h1])]
        exact ih
      · by_cases h2 : (partL g S t).head? = some t
        · rw [List.filterMap_cons_some (b := .part (partL g S t) (doorsL g (partL g S t)) (if (doorsL g (partL g S t)).length = 1 then nestF g m (restL (partL g S t) (doorsL g (partL g S t))) else [])) (by rw [if_neg h1, if_pos h2]), List.filterMap_cons_some (b := partL g S t) (by rw [if_neg h1, if_pos h2])]
          show partL g S t :: _ = _
          rw [← ih]; rfl
        · rw [List.filterMap_cons_none (by rw [if_neg h1, if_neg h2]), List.filterMap_cons_none (by rw [if_neg h1, if_neg h2])]
          exact ih
  exact key S
theorem prtL_cut {g : List Bl} {W C : List Nat} (hW : ∀ x ∈ W, x < g.length) : prtL g (cutL W C) W = prtL g (cutL W C) (cutL W C) := by
  have hS : ∀ x ∈ cutL W C, x < g.length := fun x hx => hW x (mem_cutL.1 hx).1
  have key : ∀ T : List Nat, (∀ x ∈ T, x ∈ W) → T.filterMap (firstO g (cutL W C)) = (T.filter fun x => decide (x ∉ C)).filterMap (firstO g (cutL W C)) := by
    intro T
    induction T with
    | nil => intro _; rfl
    | cons t T ih =>
      intro hT
      have h1 := ih fun x hx => hT x (List.mem_cons_of_mem _ hx)
      by_cases hc : t ∈ C
      · rw [List.filter_cons, if_neg (by simp [hc]), List.filterMap_cons_none, h1]
        unfold firstO
        rw [if_pos]
        refine (partL_nil hS).2 fun h => ?_
        exact (mem_cutL.1 h.mem).2 hc
      · rw [List.filter_cons, if_pos (by simp [hc]), List.filterMap_cons, List.filterMap_cons, h1]
  unfold prtL
  exact key W fun _ h => h

set_option maxRecDepth 100000 in
set_option maxHeartbeats 4000000 in
theorem l10Parts_any (A : Option Addr) (cap : Nat) (g : List Bl) (W C : List Nat) (sW sC : ByteArray) (w : World) (hg : Gr w A g) (hn : g.length + tot g ≤ 1048576) (hv : validB g = true) (hup : W.Pairwise (· < ·)) (hW : ∀ x ∈ W, x < g.length) (hC : ∀ x ∈ C, x < g.length) (hCl : C.length ≤ 1000) (hsW : sW = namesAt g W) (hsC : sC = namesAt g C) :
    Calls Tryz.prog 36 #[.slice A g.length cap, .string sW, .string sC] w fun e w' => ∃ v, e = .returned v ∧ OwnStr w' w.heap.size v ((prtL g (cutL W C) W).map (namesAt g)) ∧ Below w.heap.size w w' := by
  obtain ⟨i0, hi, hz0, hz1, hz2⟩ := info_parts info_str
  have b0 := (Below.refl w.heap.size w).alloc (Nat.le_refl _) (.cells #[] 9)
  have HOW := Lib.hid (World.ownsRow_made (base := w.heap.size) (e := 9) (size := 1) w #[] 0 (Nat.le_refl _) (Nat.zero_le _) rfl)
  have h26 := (valid_iff.1 hv).2.1
  have hWn : W.Nodup := hup.imp fun h => Nat.ne_of_lt h
  have hWl : W.length ≤ 26 := Nat.le_trans (nodup_lt_len _ _ hWn hW) h26
  have hS : ∀ x ∈ cutL W C, x < g.length := cut_lt hW
  obtain ⟨S, hSd⟩ : ∃ S, S = cutL W C := ⟨_, rfl⟩
  have hWs : sW.size = W.length := by rw [hsW, namesAt_size hv W hW]
  have HPT := Lib.hid (fun w (h : Gr w A g) i (hi : i < g.length) nm (hnm : nm = nthName g i) => l10Part_any A cap g i W C nm sW sC w h hn hv hi hnm hW hC (by omega) hCl hsW hsC)
  rw [← hSd] at HPT hS ⊢
  have HSW := Lib.hid (show ∀ x ∈ S, x ∈ W from fun x hx => (mem_cutL.1 (hSd ▸ hx)).1)
  have HS := Lib.hid hS
  have HG := Lib.hid hg
  have HV := Lib.hid hv
  have HW := Lib.hid hW
  have HUP := Lib.hid hup
  have HSWE := Lib.hid hsW
  have HB0 := Lib.hid b0
  clear hg hv hW hC hup hsW hsC hSd hS hCl hWn b0
  go_enter Tryz.func36, Tryz.ntmps36
  go_wp2_with fail
  go_loopw [7, 8, 14] (fun ov sv iv wr => ∃ (k : Nat) (v : Value) (seen : ByteArray), v = ov ∧ k ≤ W.length ∧ iv = .int .i64 k ∧ sv = .string seen ∧ Hid (seen = namesAt g (prtL g S (W.take k)).flatten) ∧ seen.size ≤ 26 * k ∧ Hid (OwnStr wr w.heap.size v ((prtL g S (W.take k)).map (namesAt g))) ∧ Hid (Below w.heap.size w wr)) (fun _ _ iv _ => W.length - (intOf iv).toNat)
  case atStart => exact ⟨0, _, _, rfl, Nat.zero_le _, rfl, rfl, (show (⟨#[]⟩ : ByteArray) = _ from rfl), Nat.zero_le _, HOW.out, HB0.out⟩
  case round =>
    obtain ⟨k, v, seen, rfl, hk, rfl, rfl, HSN, hss, HO, HB⟩ := hrel
    have hsz := HB.out.size
    by_cases hlt : k < W.length
    · have hks : k + 1 ≤ sW.size := by omega
      have hki : (k : Int) < sW.size := by omega
      obtain ⟨i, hi'⟩ : ∃ i, i = W[k] := ⟨_, rfl⟩
      have hil : i < g.length := hi' ▸ HW.out _ (List.getElem_mem hlt)
      obtain ⟨c, hc, _⟩ := valid_one HV.out (List.getElem_mem hil)
      have hex : sW.extract k (k + 1) = nthName g i := by
        rw [HSWE.out, nthName_at hil]
        simp only [hi']
        exact (namesAt_cut HV.out HW.out hlt).2
      have hbyte : sW[k]'(by omega) = c := by
        obtain ⟨_, _, e⟩ := namesAt_byte HV.out HW.out hlt
        have e2 : g[W[k]]'(HW.out _ (List.getElem_mem hlt)) = g[i] := by congr 1; exact hi'.symm
        rw [e2, hc] at e
        have e3 : (namesAt g W)[k]'(by rw [← HSWE.out]; omega) = sW[k]'(by omega) := by congr 1; exact HSWE.out.symm
        rw [e3] at e
        injection e with e; simpa using e.symm
      obtain ⟨pt, hpt⟩ : ∃ pt, pt = namesAt g (partL g S i) := ⟨_, rfl⟩
      have HP := Lib.hid ((HPT.out wr (HG.out.below HB.out) i hil (sW.extract k (k + 1)) hex).mono fun e w' h => show e = .returned (.string pt) ∧ Below wr.heap.size wr w' from hpt ▸ h)
      have hpl : ∀ x ∈ partL g S i, x < g.length := fun x hx => HS.out x (partL_sub HS.out hx)
      have hpz : pt.size = (partL g S i).length := by rw [hpt, namesAt_size HV.out _ hpl]
      have hpz2 : pt.size ≤ 26 := by rw [hpz]; exact Nat.le_trans (nodup_lt_len _ _ (partL_nodup g S i) hpl) h26
      have hfl : ∀ x ∈ (prtL g S (W.take k)).flatten, x < g.length := fun x hx => by
        obtain ⟨P, hP, hx⟩ := List.mem_flatten.1 hx
        obtain ⟨j, _, e, _⟩ := mem_prtL.1 hP
        rw [e] at hx
        exact HS.out x (partL_sub HS.out hx)
      obtain ⟨z, hz⟩ : ∃ z, z = Lib.indexByte seen.data.toList c := ⟨_, rfl⟩
      have hzi : 0 ≤ z ↔ i ∈ (prtL g S (W.take k)).flatten := by rw [hz, HSN.out]; exact idx_namesAt HV.out hfl hil hc
      have HF : Hid (∀ w, Calls Tryz.prog 60 #[.string seen, .int .u8 (sW[k]'(by omega)).toNat] w fun e w' => e = .returned (.int .i64 z) ∧ w = w') := fun w => by
        rw [hbyte, hz]
        exact find_any seen c w (by omega)
      have HPK := Lib.hid (show prtL g S (W.take (k + 1)) = prtL g S (W.take k) ++ (firstO g S i).toList by rw [prtL_succ hlt]; simp only [hi'])
      obtain ⟨R, hR⟩ : ∃ R, R = prtL g S (W.take k) := ⟨_, rfl⟩
      have hRl : R.length ≤ 26 := by
        rw [hR]; unfold prtL
        refine Nat.le_trans (List.length_filterMap_le _ _) ?_
        rw [List.length_take]; omega
      by_cases hp0 : partL g S i = []
      · have hpe : pt.size = 0 := by rw [hpz, hp0]; rfl
        have q0 : pt.toList.isEmpty = true := emp_yes hpe
        have HPK2 := Lib.hid (show prtL g S (W.take (k + 1)) = prtL g S (W.take k) by rw [HPK.out]; unfold firstO; rw [if_pos hp0]; simp)
        clear hbyte hc hex hpt hz hzi hfl hR hp0 hpz hpe hi' HPK HF hpl
        go_wp2_with fail
        refine HP.out.mono ?_
        rintro e w2 ⟨rfl, b2⟩
        have HB2 := Lib.hid (HB.out.trans (b2.mono HB.out.size))
        have HO2 := Lib.hid (ownRow_below HO.out b2)
        clear b2
        go_wp2_with fail
        go_roundw
        case rel => exact ⟨k + 1, v, seen, rfl, by omega, by go_num, rfl, by rw [HPK2.out]; exact HSN.out, by omega, by rw [HPK2.out]; exact HO2.out, HB2.out⟩
        case measure => simp [intOf]; omega
      · have hpe : pt.size ≠ 0 := by rw [hpz]; exact fun h => hp0 (List.eq_nil_of_length_eq_zero h)
        have q0 : pt.toList.isEmpty = false := emp_no hpe
        have hmet : i ∈ (prtL g S (W.take k)).flatten ↔ (partL g S i).head? ≠ some i := by
          have := met_iff HS.out HSW.out HUP.out hlt (by rw [← hi']; exact hp0)
          simp only [← hi'] at this
          exact this
        by_cases hz0' : z < 0
        · have hh : (partL g S i).head? = some i := by
            refine Decidable.byContradiction fun h => ?_
            have := hzi.2 (hmet.2 h); omega
          have HPK2 := Lib.hid (show prtL g S (W.take (k + 1)) = R ++ [partL g S i] by rw [HPK.out, hR]; unfold firstO; rw [if_neg hp0, if_pos hh]; rfl)
          have HMP := Lib.hid (show (R ++ [partL g S i]).map (namesAt g) = R.map (namesAt g) ++ [pt] by rw [List.map_append, hpt]; rfl)
          have HSN2 := Lib.hid (show seen ++ pt = namesAt g (prtL g S (W.take (k + 1))).flatten by
            rw [HPK2.out, List.flatten_append, namesAt_append, hR, ← HSN.out, hpt]; simp)
          have HOR : Hid (OwnStr wr w.heap.size v (R.map (namesAt g))) := by rw [hR]; exact HO.out
          have z1 : seen.size + pt.size ≤ 1048576 := by omega
          have hRm : (R.map (namesAt g)).length = R.length := List.length_map _
          clear hbyte hc hex hpt hz hzi hfl hR hp0 hpz hpe hi' HPK hmet hh HO hpl
          go_wp2_with fail
          refine HP.out.mono ?_
          rintro e w8 ⟨rfl, b8⟩
          have HB8 := Lib.hid (HB.out.trans (b8.mono HB.out.size))
          have HO8 := Lib.hid (ownRow_below HOR.out b8)
          clear b8
          go_wp2_with fail
          refine (HF.out _).mono ?_
          rintro e w9 ⟨rfl, rfl⟩
          have hszq := HB8.out.size
          go_wp2_with (at_builtin; refine wpList_append_own _ rfl _ _ 24 rfl w.heap.size 9 i0 (.string ⟨#[]⟩) 1 16 Tryz.underlying24 hi hz0 hz1 hz2 rfl (by decide) _ _ _ rfl (HO8.out.alloc _) ⟨w8.heap.size, 0, none⟩ 1 1 [.string pt] rfl rfl ?c1 ?c2 ?c3 ?c4 ?c5 ?_)
          case c1 =>
            intro j u hj
            match j, hj with
            | 0, hj =>
              have hu : Value.string pt = u := by simpa using hj
              rw [← hu]
              simp [Addr.add]
          case c2 => intro u hu; have hu' : u = .string pt := by simpa using hu
                     subst hu'; rfl
          case c3 => unfold maxLen; omega
          case c4 => omega
          case c5 => simp; omega
          intro v' w9 hown' hgrow _
          have hsz := (HO8.out.alloc (.cells #[.string pt] 9)).lt
          have hB9 := (HB8.out.alloc hszq (.cells #[.string pt] 9)).grown hgrow (by simp; omega) (fun j hj => (hsz j hj).1)
          have HO9 : Hid (OwnStr w9 w.heap.size v' (R.map (namesAt g) ++ [pt])) := by
            show w9.ownsRow w.heap.size 9 1 v' (R.map (namesAt g) ++ [pt]).length ((R.map (namesAt g) ++ [pt]).map Value.string)
            rw [List.length_append, List.map_append, List.length_map, List.map_map]; exact hown'
          have HB9 := Lib.hid hB9
          clear hown' hsz hgrow hB9
          go_wp2_with fail
          go_roundw
          case rel => exact ⟨k + 1, v', seen ++ pt, rfl, by omega, by go_num, rfl, HSN2.out, by rw [ByteArray.size_append]; omega, by rw [HPK2.out, HMP.out]; exact HO9.out, HB9.out⟩
          case measure => simp [intOf]; omega
        · have hh : ¬ (partL g S i).head? = some i := hmet.1 (hzi.1 (by omega))
          have HPK2 := Lib.hid (show prtL g S (W.take (k + 1)) = prtL g S (W.take k) by rw [HPK.out]; unfold firstO; rw [if_neg hp0, if_neg hh]; simp)
          clear hbyte hc hex hpt hz hzi hfl hR hp0 hpz hpe hi' HPK hmet hh hpl
          go_wp2_with fail
          refine HP.out.mono ?_
          rintro e w2 ⟨rfl, b2⟩
          have HB2 := Lib.hid (HB.out.trans (b2.mono HB.out.size))
          have HO2 := Lib.hid (ownRow_below HO.out b2)
          clear b2
          go_wp2_with fail
          refine (HF.out _).mono ?_
          rintro e w9 ⟨rfl, rfl⟩
          go_wp2_with fail
          go_roundw
          case rel => exact ⟨k + 1, v, seen, rfl, by omega, by go_num, rfl, by rw [HPK2.out]; exact HSN.out, by omega, by rw [HPK2.out]; exact HO2.out, HB2.out⟩
          case measure => simp [intOf]; omega
    · have HE := Lib.hid (show OwnStr wr w.heap.size v ((prtL g S W).map (namesAt g)) by have := HO.out; rwa [List.take_of_length_le (by omega)] at this)
      have hki : ¬ (k : Int) < W.length := by omega
      go_wp2_with fail
      go_ret
      exact ⟨v, rfl, HE.out, HB.out⟩
end Go.Proofs.YtdpjdhllaokbfaaGreat
