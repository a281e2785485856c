/-
  Contracts of the model's WildJumps and IsTame.
-/
import Derived.Test.YtdolbmonmkjajaaGreatSpecBack
import Derived.Maps.AppendAt
namespace Go.Proofs.YtdolbmonmkjajaaGreat
open Go.RowKit Go.Sort Go.Deep

attribute [local go_sem] Oper.semAt_some

theorem jumpsOf1_len {g : List Bl} (hv : validB g = true) {K : Nat → Bool} {i : Nat} (hi : i < g.length) : (jumpsOf1 g K i).length ≤ 2 := by
  unfold jumpsOf1
  rw [List.length_map]
  have := List.length_filter_le (fun t => K (kindN g i t)) (nxt g i)
  have := nxt_two' hv hi
  have := nxt_length hi
  omega

theorem flat_len {f : Nat → List (Nat × Nat)} : ∀ {l : List Nat}, (∀ i ∈ l, (f i).length ≤ 2) → (l.flatMap f).length ≤ 2 * l.length
  | [], _ => by simp
  | i :: l, h => by
    have ih := flat_len (l := l) fun j hj => h j (List.mem_cons_of_mem _ hj)
    have := h i (by simp)
    rw [List.flatMap_cons, List.length_append, List.length_cons]
    omega

theorem jumpL_len {g : List Bl} (hv : validB g = true) (K : Nat → Bool) : (jumpL g K).length ≤ 52 := by
  have h1 := flat_len (f := jumpsOf1 g K) (l := wayOrd g) fun i hi => jumpsOf1_len (K := K) hv (wayOrd_lt hv i hi)
  have h2 := wayOrd_len hv
  have h3 := (valid_iff.1 hv).2.1
  unfold jumpL
  omega

theorem jumpL_lt {g : List Bl} (hv : validB g = true) {K : Nat → Bool} {j : Nat × Nat} (hj : j ∈ jumpL g K) : j.1 < g.length ∧ j.2 < g.length := by
  obtain ⟨h1, h2, _⟩ := (mem_jumpL hv).1 hj
  exact ⟨h1.lt hv, nxt_lt hv (h1.lt hv) h2⟩

theorem wild_kind (g : List Bl) (i t : Nat) : wildK (kindN g i t) = (!dmB g t i && backK (kindN g i t)) := by
  unfold kindN
  by_cases h : placeN g i < placeN g t
  · rw [if_pos h]; simp [wildK, backK]
  · rw [if_neg h]
    cases dmB g t i <;> simp [wildK, backK]

theorem wild_filter (g : List Bl) : jumpL g wildK = (jumpL g backK).filter fun j => !dmB g j.2 j.1 := by
  unfold jumpL
  rw [List.filter_flatMap]
  congr 1
  funext i
  unfold jumpsOf1
  rw [List.filter_map, List.filter_filter]
  congr 1
  refine List.filter_congr fun t _ => ?_
  exact wild_kind g i t

theorem jt_parts {g : List Bl} (hv : validB g = true) {j : Nat × Nat} (h1 : j.1 < g.length) (h2 : j.2 < g.length) : (jt g j).size = 2 ∧ (jt g j).extract 0 1 = nthName g j.1 ∧ (jt g j).extract 1 2 = nthName g j.2 := by
  have hz : (jt g j).size = 2 := rfl
  refine ⟨hz, ?_, ?_⟩
  · rw [ex_byte _ (a := 0) (b := 1) (by omega) (by omega) (by omega), nthName_at h1, letC_name hv h1]; rfl
  · rw [ex_byte _ (a := 1) (b := 2) (by omega) (by omega) (by omega), nthName_at h2, letC_name hv h2]; rfl

theorem ret_vb {v : Value} {a b : Bool} (h : a = b) : Ending.returned (.tuple #[v, .bool a]) = .returned (.tuple #[v, .bool b]) := by rw [h]

set_option maxRecDepth 100000 in
set_option maxHeartbeats 4000000 in
theorem specWild_any (A : Option Addr) (cap : Nat) (g : List Bl) (w : World) (hg : Gr w A g) (hn : g.length + tot g ≤ 1048576) (hcap : g.length ≤ cap) :
    Calls Tryz.prog 37 #[.slice A g.length cap] w (JumpsPost wildK w g) := by
  unfold JumpsPost
  obtain ⟨i0, hi, hz0, hz1, hz2⟩ := info_parts info_str
  have b0 := (Below.refl w.heap.size w).alloc (Nat.le_refl _) (.cells #[] 9)
  have HC := Lib.hid (specBack_any A cap g _ (hg.below b0) hn hcap)
  have HOW := Lib.hid (World.ownsRow_made (base := w.heap.size) (e := 9) (size := 1) w #[] 0 (Nat.le_refl _) (Nat.zero_le _) rfl)
  obtain ⟨L, hL⟩ : ∃ L, L = if validB g = true then jumpL g backK else [] := ⟨_, rfl⟩
  have HLV := Lib.hid (show ∀ j ∈ L, validB g = true ∧ j.1 < g.length ∧ j.2 < g.length from fun j hj => by
    rw [hL] at hj
    by_cases hv : validB g = true
    · rw [if_pos hv] at hj; exact ⟨hv, jumpL_lt hv hj⟩
    · rw [if_neg hv] at hj; simp at hj)
  have hLl : L.length ≤ 52 := by
    rw [hL]
    by_cases hv : validB g = true
    · rw [if_pos hv]; exact jumpL_len hv backK
    · rw [if_neg hv]; simp
  have HW := Lib.hid (show (if validB g = true then jumpL g wildK else []) = L.filter fun j => !dmB g j.2 j.1 by
    rw [hL]
    by_cases hv : validB g = true
    · rw [if_pos hv, if_pos hv]; exact wild_filter g
    · rw [if_neg hv, if_neg hv]; rfl)
  rw [HW.out]
  unfold JumpsPost at HC
  rw [← hL] at HC
  have HG := Lib.hid hg
  have HB0 := Lib.hid b0
  clear hg b0 hL HW
  go_enter Tryz.func37, Tryz.ntmps37
  go_wp2_with fail
  refine HC.out.mono ?_
  rintro e w1 ⟨v, rfl, hown, b1⟩
  obtain ⟨A2, cap2, rfl, -⟩ := own_strs hown
  have hlm : (L.map (jt g)).length = L.length := List.length_map _
  have HLS := Lib.hid hown
  have HO1 : Hid (OwnJ w1 g w.heap.size (.slice (some ⟨w.heap.size, 0, none⟩) 0 0) []) := ownRow_below HOW.out b1
  have HB1 := Lib.hid (below_trans_self HB0.out b1)
  have HNE1 := Lib.hid (show (Value.slice A2 (L.map (jt g)).length cap2).ownBlock = none ∨ (Value.slice A2 (L.map (jt g)).length cap2).ownBlock ≠ (Value.slice (some ⟨w.heap.size, 0, none⟩) 0 0).ownBlock from by
    cases h : (Value.slice A2 (L.map (jt g)).length cap2).ownBlock with
    | none => exact .inl rfl
    | some b =>
      refine .inr fun e => ?_
      have h1 := (hown.lt b h).1
      have h2 : b = w.heap.size := by simpa [Value.ownBlock] using e
      simp at h1
      omega)
  clear b1 hown
  go_wp2_with fail
  go_loopw [4, 17] (fun pv iv wr => ∃ (k : Nat) (P : List (Nat × Nat)), k ≤ L.length ∧ iv = .int .i64 k ∧ P.length ≤ k ∧ Hid (P = (L.take k).filter fun j => !dmB g j.2 j.1) ∧ Hid (OwnJ wr g w.heap.size pv P) ∧ Hid (OwnStr wr (w.alloc (.cells #[] 9)).heap.size (.slice A2 (L.map (jt g)).length cap2) (L.map (jt g))) ∧
      Hid ((Value.slice A2 (L.map (jt g)).length cap2).ownBlock = none ∨ (Value.slice A2 (L.map (jt g)).length cap2).ownBlock ≠ pv.ownBlock) ∧ Hid (Below w.heap.size w wr)) (fun _ iv _ => L.length - (intOf iv).toNat)
  case atStart => exact ⟨0, [], Nat.zero_le _, rfl, Nat.zero_le _, (show ([] : List (Nat × Nat)) = (L.take 0).filter fun j => !dmB g j.2 j.1 by simp), HO1.out, HLS.out, HNE1.out, HB1.out⟩
  case round =>
    obtain ⟨k, P, hk, rfl, hPl, HP, HOWN, HLW, HNE, HB⟩ := hrel
    by_cases hlt : k < L.length
    · obtain ⟨b, off, rfl, hb, hc⟩ := HLW.out.strs (by omega)
      have x0 := hc k (by omega)
      obtain ⟨j, hj⟩ : ∃ j, j = L[k] := ⟨_, rfl⟩
      obtain ⟨txt, htx⟩ : ∃ txt, txt = jt g j := ⟨_, rfl⟩
      have hget : (L.map (jt g))[k]'(by omega) = txt := by rw [List.getElem_map, htx, hj]
      rw [hget] at x0
      obtain ⟨hv, h1, h2⟩ := HLV.out j (hj ▸ List.getElem_mem hlt)
      obtain ⟨hz, e1, e2⟩ := jt_parts hv h1 h2
      rw [← htx] at hz e1 e2
      have l1 : 1 ≤ txt.size := by omega
      have l2 : (1 : Int) ≤ txt.size := by omega
      have hga := HG.out.below HB.out
      have cD : ∀ d os, Calls Tryz.prog 76 #[.slice A g.length cap, .string (txt.extract 1 2), .string (txt.extract 0 1)] (grow (redrawn wr d) os) fun e w'' => e = .returned (.bool (dmB g j.2 j.1)) ∧ ∃ p : Regrown, w'' = grow (redrawn wr p.d) p.os := fun d os =>
        Calls.regrown_of (l3Dominates_any A cap g _ _ j.2 j.1 (grow (redrawn wr d) os) (gr_grown hga d os) (by omega) hv h2 h1 e2 e1)
      have HFT : Hid ((L.take (k + 1)).filter (fun j => !dmB g j.2 j.1) = (L.take k).filter (fun j => !dmB g j.2 j.1) ++ (if (!dmB g j.2 j.1) = true then [j] else [])) := by
        show _ = _
        rw [List.take_succ_eq_append_getElem hlt, List.filter_append, ← hj, List.filter_cons, List.filter_nil]
      have HTX := Lib.hid htx
      clear hc hb hget htx hj e1 e2 hga h1 h2 hv
      cases hd : dmB g j.2 j.1 with
      | false =>
        rw [hd] at cD HFT
        have HP2 := Lib.hid (show P ++ [j] = (L.take (k + 1)).filter fun j => !dmB g j.2 j.1 by rw [HFT.out, HP.out]; rfl)
        clear hd
        go_wp2_with fail
        refine wp_region_quiet_below (by kernel_rfl) (by kernel_rfl) ?_
        repeat (any_goals (first | go_big_quiet_step (with_reducible exact cD _ _) | quiet_step (with_reducible exact cD _ _)))
        all_goals (refine wpQuiet_nil ?_; intro _ hw'; obtain ⟨⟨dq, osq⟩, hw''⟩ := hw'; subst hw'')
        have hb2 := below_regrown wr dq osq
        generalize grow (redrawn wr dq) osq = w2 at hb2 ⊢
        have HB2 := Lib.hid (below_trans_self HB.out hb2)
        have HO2 := Lib.hid (own_below HOWN.out hb2)
        have HL2 := Lib.hid (own_below HLW.out hb2)
        have hszq := HB2.out.size
        have hPm : (P.map (jt g)).length = P.length := List.length_map _
        clear cD hb2 x0
        go_wp2_with (at_builtin; refine wpList_append_own_at _ rfl _ _ 34 rfl w.heap.size 9 i0 (.string ⟨#[]⟩) 1 16 Tryz.underlying34 hi hz0 hz1 hz2 rfl (by decide) _ _ _ rfl (HO2.out.alloc _) ⟨w2.heap.size, 0, none⟩ 1 1 [.string txt] rfl rfl ?c1 ?c2 ?c3 ?c4 ?c5 ?_)
        case c1 =>
          intro j u hj
          match j, hj with
          | 0, hj =>
            have hu : Value.string txt = u := by simpa using hj
            rw [← hu]
            simp [Addr.add]
        case c2 => intro u hu; have hu' : u = .string txt := by simpa using hu
                   subst hu'; rfl
        case c3 => unfold maxLen; omega
        case c4 => omega
        case c5 => simp; omega
        intro v' w5 hown' hgrow _ hat
        have hsz := (HO2.out.alloc (.cells #[.string txt] 9)).lt
        have hB5 := (HB2.out.alloc hszq (.cells #[.string txt] 9)).grown hgrow (by simp; omega) (fun j hj => (hsz j hj).1)
        have hLlt := HL2.out.lt
        have HL5 := Lib.hid ((HL2.out.alloc (.cells #[.string txt] 9)).kept hgrow HNE.out)
        have HNE5 := Lib.hid (show (Value.slice (some ⟨b, off, none⟩) (L.map (jt g)).length cap2).ownBlock = none ∨ (Value.slice (some ⟨b, off, none⟩) (L.map (jt g)).length cap2).ownBlock ≠ v'.ownBlock from by
          rcases hat with q | q
          · rw [q]; exact HNE.out
          · refine .inr fun e => ?_
            rw [q] at e
            have := (hLlt _ e).2
            first | omega | (rw [World.size_alloc] at this; omega))
        have HB5 := Lib.hid hB5
        have HO5 : Hid (OwnJ w5 g w.heap.size v' (P ++ [j])) := by
          show w5.ownsRow w.heap.size 9 1 v' ((P ++ [j]).map (jt g)).length (((P ++ [j]).map (jt g)).map Value.string)
          rw [List.map_append, List.length_append, List.length_map, List.map_append, List.map_map, List.map_singleton, ← HTX.out]; exact hown'
        clear hown' hsz hgrow hB5 hat hLlt
        go_wp2_with fail
        go_roundw
        case rel => exact ⟨k + 1, P ++ [j], by omega, by go_num, by simp; omega, HP2.out, HO5.out, HL5.out, HNE5.out, HB5.out⟩
        case measure => simp [intOf]; omega
      | true =>
        rw [hd] at cD HFT
        have HP2 := Lib.hid (show P = (L.take (k + 1)).filter fun j => !dmB g j.2 j.1 by rw [HFT.out, HP.out]; simp)
        clear hd
        go_wp2_with fail
        refine wp_region_quiet_below (by kernel_rfl) (by kernel_rfl) ?_
        repeat (any_goals (first | go_big_quiet_step (with_reducible exact cD _ _) | quiet_step (with_reducible exact cD _ _)))
        all_goals (refine wpQuiet_nil ?_; intro _ hw'; obtain ⟨⟨dq, osq⟩, hw''⟩ := hw'; subst hw'')
        have hb2 := below_regrown wr dq osq
        generalize grow (redrawn wr dq) osq = w2 at hb2 ⊢
        have HB2 := Lib.hid (below_trans_self HB.out hb2)
        have HO2 := Lib.hid (own_below HOWN.out hb2)
        have HL2 := Lib.hid (own_below HLW.out hb2)
        clear cD hb2 x0
        go_wp2_with fail
        go_roundw
        case rel => exact ⟨k + 1, P, by omega, by go_num, by omega, HP2.out, HO2.out, HL2.out, HNE.out, HB2.out⟩
        case measure => simp [intOf]; omega
    · have HE := Lib.hid (show P = L.filter fun j => !dmB g j.2 j.1 by rw [HP.out, List.take_of_length_le (by omega)])
      go_wp2_with fail
      go_ret2
      exact ⟨_, rfl, by rw [← HE.out]; exact HOWN.out, HB.out⟩

theorem specIsTame_any (A : Option Addr) (cap : Nat) (g : List Bl) (w : World) (hg : Gr w A g) (hn : g.length + tot g ≤ 1048576) (hcap : g.length ≤ cap) :
    Calls Tryz.prog 38 #[.slice A g.length cap] w fun e w' => e = .returned (.bool (tameB g)) ∧ Below w.heap.size w w' := by
  have HC := Lib.hid (specWild_any A cap g w hg hn hcap)
  clear hg
  go_enter Tryz.func38, Tryz.ntmps38
  go_wp2_with fail
  refine HC.out.mono ?_
  rintro e w1 ⟨v, rfl, hown, b1⟩
  have HB1 := Lib.hid b1
  by_cases hv : validB g = true
  · rw [if_pos hv] at hown
    obtain ⟨A2, cap2, rfl, -⟩ := own_strs hown
    rw [hv]
    have HV := Lib.hid hv
    clear b1 hown hv
    simp only [List.length_map]
    by_cases hz : (jumpL g wildK).length = 0
    · have hzI : (((jumpL g wildK).length : Int) == 0) = true := by rw [hz]; rfl
      have HZ := Lib.hid hz
      clear hz
      go_wp2_with fail
      go_ret
      exact ⟨ret_b (by unfold tameB; rw [HV.out, decide_eq_true HZ.out]; rfl), HB1.out⟩
    · have hzI : (((jumpL g wildK).length : Int) == 0) = false := beq_eq_false_iff_ne.2 fun e => hz (Int.ofNat.inj e)
      have HZ := Lib.hid hz
      clear hz
      go_wp2_with fail
      go_ret
      exact ⟨ret_b (by unfold tameB; rw [HV.out, decide_eq_false HZ.out]; rfl), HB1.out⟩
  · have hv : validB g = false := by simpa using hv
    rw [hv]
    have HV := Lib.hid hv
    clear b1 hown hv
    go_wp2_with fail
    go_ret
    exact ⟨ret_b (by unfold tameB; rw [HV.out]; rfl), HB1.out⟩
end Go.Proofs.YtdolbmonmkjajaaGreat
