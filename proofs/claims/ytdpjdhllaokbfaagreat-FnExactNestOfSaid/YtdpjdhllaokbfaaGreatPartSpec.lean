/-
  The model's parts.
-/
import Derived.Test.YtdpjdhllaokbfaaGreatNestMath
import Derived.Test.YtdpjdhllaokbfaaGreatDomSpec
namespace Go.Proofs.YtdpjdhllaokbfaaGreat
open Go.RowKit Go.Sort

theorem namesAt_cons (g : List Bl) (x : Nat) (l : List Nat) : namesAt g (x :: l) = nthName g x ++ namesAt g l := by rw [← List.singleton_append, namesAt_append, namesAt_one]
theorem nth_size {g : List Bl} (hv : validB g = true) {x : Nat} (hx : x < g.length) : (nthName g x).size = 1 := by
  obtain ⟨c, hc, _⟩ := valid_one hv (List.getElem_mem hx); rw [nthName_at hx, hc]; rfl
theorem ext_head (a b : ByteArray) (h : a.size = 1) : (a ++ b).extract 0 1 = a := by
  refine ba_ext ?_
  rw [ByteArray.data_extract, Array.toList_extract, List.extract_eq_take_drop, data_app, List.drop_zero]
  rw [List.take_append_of_le_length (by rw [list_of_size]; omega), List.take_of_length_le (by rw [list_of_size]; omega)]
theorem ext_tail (a b : ByteArray) (h : a.size = 1) : (a ++ b).extract 1 (a ++ b).size = b := by
  refine ba_ext ?_
  rw [ByteArray.data_extract, Array.toList_extract, List.extract_eq_take_drop, data_app]
  rw [List.drop_append_of_le_length (by rw [list_of_size]; omega), List.drop_of_length_le (by rw [list_of_size]; omega), List.nil_append]
  refine List.take_of_length_le ?_
  rw [list_of_size, ByteArray.size_append]; omega
theorem emp_yes {s : ByteArray} (h : s.size = 0) : s.toList.isEmpty = true := by rw [List.isEmpty_iff, ← List.length_eq_zero_iff, Lib.toList_data, Array.length_toList]; exact h
theorem emp_no {s : ByteArray} (h : s.size ≠ 0) : s.toList.isEmpty = false := by rw [Bool.eq_false_iff, ne_eq, List.isEmpty_iff, ← List.length_eq_zero_iff, Lib.toList_data, Array.length_toList]; exact h
def strLen : Value → Nat | .string s => s.size | _ => 0

/-- Some blocks without some others. -/
def cutL (W C : List Nat) : List Nat := W.filter fun x => decide (x ∉ C)
theorem mem_cutL {W C : List Nat} {x : Nat} : x ∈ cutL W C ↔ x ∈ W ∧ x ∉ C := by unfold cutL; rw [List.mem_filter]; simp
theorem nxS_snoc (S : List Nat) (ts : List Nat) (t : Nat) : (ts ++ [t]).filter (fun t => decide (t ∈ S)) = ts.filter (fun t => decide (t ∈ S)) ++ (if t ∈ S then [t] else []) := by
  rw [List.filter_append, List.filter_cons]
  by_cases h : t ∈ S
  · simp [h]
  · simp [h]

/-- How far the search for what is behind a block is. -/
def BehAt (f : Nat → List Nat) (i : Nat) (out q : List Nat) : Prop := (out = [] ∧ q = [i]) ∨ ∃ k, k ≤ (spr f (f i) k).length ∧ out = spr f (f i) k ∧ q = out.drop k
theorem BehAt.next {f : Nat → List Nat} {i x : Nat} {out q : List Nat} (h : BehAt f i out (x :: q)) : BehAt f i (stepL out (f x)) (q ++ (stepL out (f x)).drop out.length) := by
  rcases h with ⟨rfl, e⟩ | ⟨k, hk, rfl, e⟩
  · injection e with e1 e2
    subst e1 e2
    exact .inr ⟨0, Nat.zero_le _, rfl, rfl⟩
  · have hkl : k < (spr f (f i) k).length := by
      rcases Nat.lt_or_ge k (spr f (f i) k).length with h | h
      · exact h
      · rw [List.drop_of_length_le h] at e; cases e
    rw [List.drop_eq_getElem_cons hkl] at e
    injection e with e1 e2
    have hs := spr_step hkl
    rw [← e1] at hs
    rw [← hs]
    obtain ⟨r, hr⟩ := spr_prefix f (f i) k
    refine .inr ⟨k + 1, by rw [← hr, List.length_append]; omega, rfl, ?_⟩
    have h1 : (spr f (f i) k ++ r).drop (spr f (f i) k).length = r := List.drop_left
    have h2 : (spr f (f i) k ++ r).drop (k + 1) = (spr f (f i) k).drop (k + 1) ++ r := List.drop_append_of_le_length (by omega)
    rw [e2, ← hr, h1, h2]
theorem BehAt.done {f : Nat → List Nat} {i N : Nat} {out : List Nat} (h : BehAt f i out []) (hs : ∀ t ∈ f i, t < N) (hf : ∀ i, i < N → ∀ t ∈ f i, t < N) : out = spread f (f i) N := by
  rcases h with ⟨_, e⟩ | ⟨k, hk, rfl, e⟩
  · cases e
  · have hk2 : (spr f (f i) k).length ≤ k := by have := congrArg List.length e; rw [List.length_drop] at this; simp at this; omega
    have := spr_len (f := f) (s := f i) hs hf k
    exact spread_done (by omega) hk2
theorem BehAt.lt {f : Nat → List Nat} {i N : Nat} {out q : List Nat} (h : BehAt f i out q) (hi : i < N) (hs : ∀ t ∈ f i, t < N) (hf : ∀ i, i < N → ∀ t ∈ f i, t < N) : (∀ x ∈ out, x < N) ∧ out.Nodup ∧ (∀ x ∈ q, x < N) ∧ q.length ≤ out.length + 1 := by
  rcases h with ⟨rfl, rfl⟩ | ⟨k, hk, rfl, rfl⟩
  · exact ⟨(fun x hx => by cases hx), List.nodup_nil, (fun x hx => by rw [List.mem_singleton.1 hx]; exact hi), by simp⟩
  · exact ⟨spr_lt hs hf k, spr_nodup _ _ k, fun x hx => spr_lt hs hf k x (List.mem_of_mem_drop hx), by rw [List.length_drop]; omega⟩

set_option maxRecDepth 100000 in
set_option maxHeartbeats 4000000 in
theorem l10Behind_any (A : Option Addr) (cap : Nat) (g : List Bl) (i : Nat) (W C : List Nat) (nm sW sC : ByteArray) (w : World) (hg : Gr w A g) (hn : g.length ≤ 1048576) (hv : validB g = true) (hi : i < g.length) (hnm : nm = nthName g i) (hW : ∀ x ∈ W, x < g.length) (hC : ∀ x ∈ C, x < g.length) (hWl : W.length ≤ 1000) (hCl : C.length ≤ 1000) (hsW : sW = namesAt g W) (hsC : sC = namesAt g C) :
    Calls Tryz.prog 67 #[.slice A g.length cap, .string nm, .string sW, .string sC] w fun e w' => e = .returned (.string (namesAt g (behL g (cutL W C) i))) ∧ Below w.heap.size w w' := by
  have h26 := (valid_iff.1 hv).2.1
  obtain ⟨f, hf⟩ : ∃ f, f = nxS g (cutL W C) := ⟨_, rfl⟩
  have hfl : ∀ i, i < g.length → ∀ t ∈ f i, t < g.length := fun i hi t ht => by rw [hf] at ht; exact nxt_lt hv hi (mem_nxS.1 ht).1
  have HBL := Lib.hid (show behL g (cutL W C) i = spread f (f i) g.length by rw [hf]; rfl)
  have HF := Lib.hid hf
  have HFL := Lib.hid hfl
  have hWs : sW.size ≤ 1000 := by rw [hsW, namesAt_size hv W hW]; exact hWl
  have hCs : sC.size ≤ 1000 := by rw [hsC, namesAt_size hv C hC]; exact hCl
  have HW := Lib.hid hW
  have HC := Lib.hid hC
  have HSW := Lib.hid hsW
  have HSC := Lib.hid hsC
  have HG := Lib.hid hg
  have HV := Lib.hid hv
  have HNM := Lib.hid hnm
  have HWL := Lib.hid hWl
  clear hf hfl hW hC hsW hsC hg hnm hWl hCl
  go_enter Tryz.func67, Tryz.ntmps67
  go_wp2_with fail
  go_loopw [9, 10] (fun ov tv wr => ∃ (out q : List Nat), ov = .string (namesAt g out) ∧ tv = .string (namesAt g q) ∧ Hid (BehAt f i out q) ∧ Hid (Below w.heap.size w wr)) (fun ov tv _ => 2 * (26 - strLen ov) + strLen tv)
  case atStart => exact ⟨[], [i], rfl, by rw [HNM.out, namesAt_one], .inl ⟨rfl, rfl⟩, Below.refl _ _⟩
  case round =>
    obtain ⟨out, q, rfl, rfl, HBE, HB⟩ := hrel
    obtain ⟨ho1, ho2, hq1, hq2⟩ := HBE.out.lt (N := g.length) hi (HFL.out i hi) HFL.out
    have hol : out.length ≤ 26 := Nat.le_trans (nodup_lt_len _ _ ho2 ho1) h26
    obtain ⟨so, hso⟩ : ∃ so, so = namesAt g out := ⟨_, rfl⟩
    have hsz : so.size = out.length := by rw [hso, namesAt_size HV.out _ ho1]
    rw [← hso]
    cases q with
    | nil =>
      have HR := Lib.hid (show so = namesAt g (behL g (cutL W C) i) by rw [hso, HBL.out, HBE.out.done (HFL.out i hi) HFL.out])
      have q0 : (namesAt g []).size = 0 := rfl
      obtain ⟨sq, hsq⟩ : ∃ sq, sq = namesAt g [] := ⟨_, rfl⟩
      rw [← hsq] at q0 ⊢
      have q1 : sq.toList.isEmpty = true := emp_yes q0
      clear hso hsq hsz ho1 ho2 hq1 hq2 q0
      go_wp2_with fail
      go_ret
      exact ⟨ret_string HR.out, HB.out⟩
    | cons x R =>
      have hxl : x < g.length := hq1 x List.mem_cons_self
      obtain ⟨sq, hsq⟩ : ∃ sq, sq = namesAt g (x :: R) := ⟨_, rfl⟩
      have hqs : sq.size = R.length + 1 := by rw [hsq, namesAt_size HV.out _ hq1]; rfl
      have q1 : sq.toList.isEmpty = false := emp_no (by omega)
      have hx1 := nth_size HV.out hxl
      have he1 : sq.extract 0 1 = nthName g x := by rw [hsq, namesAt_cons]; exact ext_head _ _ hx1
      have he2 : sq.extract 1 sq.size = namesAt g R := by rw [hsq, namesAt_cons]; exact ext_tail _ _ hx1
      rw [← hsq]
      have l1 : 1 ≤ sq.size := by omega
      have l2 : (1 : Int) ≤ sq.size := by omega
      have HNX := Lib.hid (l1Next_any A cap g (sq.extract 0 1) x wr (HG.out.keep HB.out.size (fun b o hlt => HB.out.cell (p := ⟨b, o, none⟩) hlt)) hn (by rw [he1, nthName_at hxl]; exact posOf_name HV.out hxl) hxl)
      obtain ⟨nx, hnx⟩ : ∃ nx, nx = g[x].2 := ⟨_, rfl⟩
      have hnl : nx.size ≤ 2 := hnx ▸ nxt_two' HV.out hxl
      rw [← hnx] at HNX
      have HNE := Lib.hid hnx
      have HE2 := Lib.hid he2
      have HSO := Lib.hid hso
      have HQS := Lib.hid hqs
      have HO1 := Lib.hid ho1
      have HO2 := Lib.hid ho2
      have HQ1 := Lib.hid (fun y (hy : y ∈ R) => hq1 y (List.mem_cons_of_mem _ hy))
      have HSZ := Lib.hid hsz
      have hRl : R.length ≤ 26 := by have : (x :: R).length ≤ out.length + 1 := hq2; simp at this; omega
      clear hsq he1 he2 hnx hqs hso ho1 ho2 hq1 hq2 hsz
      go_wp2_with fail
      refine HNX.out.mono ?_
      rintro e w2 ⟨rfl, b2⟩
      have HB2 := Lib.hid (HB.out.trans (b2.mono HB.out.size))
      clear b2
      go_wp2_with fail
      go_loopw [9, 10, 24] (fun ov tv jv wr => ∃ (j : Nat) (o2 : List Nat), j ≤ nx.size ∧ jv = .int .i64 j ∧ ov = .string (namesAt g o2) ∧ tv = .string (namesAt g (R ++ o2.drop out.length)) ∧ Hid (o2 = stepL out (((nxt g x).take j).filter fun t => decide (t ∈ cutL W C))) ∧ Hid (Below w.heap.size w wr)) (fun _ _ jv _ => nx.size - (intOf jv).toNat)
      case atStart => exact ⟨0, out, Nat.zero_le _, rfl, by rw [HSO.out], by rw [List.drop_length, List.append_nil, HE2.out], rfl, HB2.out⟩
      case round =>
        obtain ⟨j, o2, hj, rfl, rfl, rfl, HO, HB3⟩ := hrel
        have ho2l : ∀ y ∈ o2, y < g.length := fun y hy => by
          rw [HO.out, stepL_mem] at hy
          rcases hy with hy | hy
          · exact HO1.out y hy
          · exact nxt_lt HV.out hxl (List.mem_of_mem_take (List.mem_filter.1 hy).1)
        have ho2n : o2.Nodup := by rw [HO.out]; exact stepL_nodup _ _ HO2.out
        have ho2s : o2.length ≤ 26 := Nat.le_trans (nodup_lt_len _ _ ho2n ho2l) h26
        have hpre : out <+: o2 := by rw [HO.out]; exact stepL_prefix _ _
        have hprl := hpre.length_le
        obtain ⟨p, hp⟩ : ∃ p, p = namesAt g o2 := ⟨_, rfl⟩
        have hps : p.size = o2.length := by rw [hp, namesAt_size HV.out _ ho2l]
        have hdl : ∀ y ∈ R ++ o2.drop out.length, y < g.length := fun y hy => by
          rcases List.mem_append.1 hy with hy | hy
          · exact HQ1.out y hy
          · exact ho2l y (List.mem_of_mem_drop hy)
        obtain ⟨tq, htq⟩ : ∃ tq, tq = namesAt g (R ++ o2.drop out.length) := ⟨_, rfl⟩
        have htqs : tq.size ≤ 52 := by rw [htq, namesAt_size HV.out _ hdl, List.length_append, List.length_drop]; omega
        rw [← hp, ← htq]
        by_cases hjd : j < nx.size
        · obtain ⟨t, htl, hget, _, hnm⟩ := nxt_get HV.out hxl (k := j) (by rw [← HNE.out]; exact hjd)
          have hbyte : g[x].2[j]'(by rw [← HNE.out]; exact hjd) = nx[j] := by congr 1; exact HNE.out.symm
          rw [hbyte] at hnm
          have hiW := idx_namesAt HV.out HW.out htl hnm
          have hiC := idx_namesAt HV.out HC.out htl hnm
          have hiO := idx_namesAt HV.out ho2l htl hnm
          rw [← HSW.out] at hiW
          rw [← HSC.out] at hiC
          rw [← hp] at hiO
          have HT := Lib.hid (show ((nxt g x).take (j + 1)).filter (fun t => decide (t ∈ cutL W C)) = ((nxt g x).take j).filter (fun t => decide (t ∈ cutL W C)) ++ (if t ∈ cutL W C then [t] else []) by
            have hjl : j < (nxt g x).length := (List.getElem?_eq_some_iff.1 hget).1
            have e : (nxt g x)[j] = t := (List.getElem?_eq_some_iff.1 hget).2
            rw [List.take_succ_eq_append_getElem hjl, e, nxS_snoc])
          have HEX := Lib.hid (show nx.extract j (j + 1) = nthName g t by rw [ex_byte nx (a := j) (b := j + 1) (by omega) (by omega) (by omega), nthName_at htl, hnm])
          have hj1 : j + 1 ≤ nx.size := by omega
          obtain ⟨zW, hzW⟩ : ∃ z, z = Lib.indexByte sW.data.toList nx[j] := ⟨_, rfl⟩
          obtain ⟨zC, hzC⟩ : ∃ z, z = Lib.indexByte sC.data.toList nx[j] := ⟨_, rfl⟩
          obtain ⟨zO, hzO⟩ : ∃ z, z = Lib.indexByte p.data.toList nx[j] := ⟨_, rfl⟩
          have HFW : Hid (∀ w, Calls Tryz.prog 60 #[.string sW, .int .u8 nx[j].toNat] w fun e w' => e = .returned (.int .i64 zW) ∧ w = w') := fun w => by rw [hzW]; exact find_any sW nx[j] w (by omega)
          have HFC : Hid (∀ w, Calls Tryz.prog 60 #[.string sC, .int .u8 nx[j].toNat] w fun e w' => e = .returned (.int .i64 zC) ∧ w = w') := fun w => by rw [hzC]; exact find_any sC nx[j] w (by omega)
          have HFO : Hid (∀ w, Calls Tryz.prog 60 #[.string p, .int .u8 nx[j].toNat] w fun e w' => e = .returned (.int .i64 zO) ∧ w = w') := fun w => by rw [hzO]; exact find_any p nx[j] w (by omega)
          rw [← hzW] at hiW
          rw [← hzC] at hiC
          rw [← hzO] at hiO
          have HPP := Lib.hid hp
          have HTQ := Lib.hid htq
          have HPS := Lib.hid hps
          have HPR := Lib.hid hprl
          have HTS := Lib.hid htqs
          have hps2 : p.size ≤ 26 := by omega
          clear hp htq hbyte hnm hget hzW hzC hzO ho2l ho2n hpre hdl hps hprl
          by_cases hinW : t ∈ W
          · have q2 : 0 ≤ zW := hiW.2 hinW
            by_cases hinC : t ∈ C
            · have q3 : ¬ zC < 0 := by have := hiC.2 hinC; omega
              have HT2 := Lib.hid (show o2 = stepL out (((nxt g x).take (j + 1)).filter fun t => decide (t ∈ cutL W C)) by
                rw [HT.out, if_neg (fun h => (mem_cutL.1 h).2 hinC), List.append_nil]; exact HO.out)
              clear hiW hiC hiO hinW hinC
              go_wp2_with fail
              refine (HFW.out _).mono ?_
              rintro e w4 ⟨rfl, rfl⟩
              go_wp2_with fail
              refine (HFC.out _).mono ?_
              rintro e w4 ⟨rfl, rfl⟩
              go_wp2_with fail
              go_roundw
              case rel => exact ⟨j + 1, o2, by omega, by go_num, by rw [HPP.out], by rw [HTQ.out], HT2.out, HB3.out⟩
              case measure => simp [intOf]; omega
            · have q3 : zC < 0 := by
                rcases Int.lt_or_le zC 0 with h | h
                · exact h
                · exact absurd (hiC.1 h) hinC
              have hcut : t ∈ cutL W C := mem_cutL.2 ⟨hinW, hinC⟩
              by_cases hinO : t ∈ o2
              · have q4 : ¬ zO < 0 := by have := hiO.2 hinO; omega
                have HT2 := Lib.hid (show o2 = stepL out (((nxt g x).take (j + 1)).filter fun t => decide (t ∈ cutL W C)) by
                  rw [HT.out, if_pos hcut, stepL_snoc, ← HO.out, if_pos hinO])
                clear hiW hiC hiO hinW hinC hinO hcut
                go_wp2_with fail
                refine (HFW.out _).mono ?_
                rintro e w4 ⟨rfl, rfl⟩
                go_wp2_with fail
                refine (HFC.out _).mono ?_
                rintro e w4 ⟨rfl, rfl⟩
                go_wp2_with fail
                refine (HFO.out _).mono ?_
                rintro e w4 ⟨rfl, rfl⟩
                go_wp2_with fail
                go_roundw
                case rel => exact ⟨j + 1, o2, by omega, by go_num, by rw [HPP.out], by rw [HTQ.out], HT2.out, HB3.out⟩
                case measure => simp [intOf]; omega
              · have q4 : zO < 0 := by
                  rcases Int.lt_or_le zO 0 with h | h
                  · exact h
                  · exact absurd (hiO.1 h) hinO
                have HT2 := Lib.hid (show o2 ++ [t] = stepL out (((nxt g x).take (j + 1)).filter fun t => decide (t ∈ cutL W C)) by
                  rw [HT.out, if_pos hcut, stepL_snoc, ← HO.out, if_neg hinO])
                have hes : (nx.extract j (j + 1)).size = 1 := by rw [HEX.out]; exact nth_size HV.out htl
                have z1 : p.size + (nx.extract j (j + 1)).size ≤ 1048576 := by omega
                have z2 : tq.size + (nx.extract j (j + 1)).size ≤ 1048576 := by have := HTS.out; omega
                have HPN := Lib.hid (show namesAt g (o2 ++ [t]) = p ++ nx.extract j (j + 1) by rw [namesAt_append, namesAt_one, HPP.out, HEX.out])
                have HTN := Lib.hid (show namesAt g (R ++ (o2 ++ [t]).drop out.length) = tq ++ nx.extract j (j + 1) by
                  rw [List.drop_append_of_le_length HPR.out, ← List.append_assoc, namesAt_append, namesAt_one, HTQ.out, HEX.out])
                clear hiW hiC hiO hinW hinC hinO hcut hes
                go_wp2_with fail
                refine (HFW.out _).mono ?_
                rintro e w4 ⟨rfl, rfl⟩
                go_wp2_with fail
                refine (HFC.out _).mono ?_
                rintro e w4 ⟨rfl, rfl⟩
                go_wp2_with fail
                refine (HFO.out _).mono ?_
                rintro e w4 ⟨rfl, rfl⟩
                go_wp2_with fail
                go_roundw
                case rel => exact ⟨j + 1, o2 ++ [t], by omega, by go_num, by rw [HPN.out], by rw [HTN.out], HT2.out, HB3.out⟩
                case measure => simp [intOf]; omega
          · have q2 : ¬ 0 ≤ zW := fun h => hinW (hiW.1 h)
            have HT2 := Lib.hid (show o2 = stepL out (((nxt g x).take (j + 1)).filter fun t => decide (t ∈ cutL W C)) by
              rw [HT.out, if_neg (fun h => hinW (mem_cutL.1 h).1), List.append_nil]; exact HO.out)
            clear hiW hiC hiO hinW
            go_wp2_with fail
            refine (HFW.out _).mono ?_
            rintro e w4 ⟨rfl, rfl⟩
            go_wp2_with fail
            go_roundw
            case rel => exact ⟨j + 1, o2, by omega, by go_num, by rw [HPP.out], by rw [HTQ.out], HT2.out, HB3.out⟩
            case measure => simp [intOf]; omega
        · have HO9 := Lib.hid (show o2 = stepL out (f x) by
            rw [HO.out, HF.out]
            unfold nxS
            rw [List.take_of_length_le (by rw [nxt_length hxl, ← HNE.out]; omega)])
          have HPP := Lib.hid hp
          have HTQ := Lib.hid htq
          have hms : 2 * (26 - p.size) + tq.size < 2 * (26 - so.size) + sq.size := by
            have h1 : tq.size = R.length + (o2.length - out.length) := by rw [htq, namesAt_size HV.out _ hdl, List.length_append, List.length_drop]
            have h2 := HSZ.out
            have h3 := HQS.out
            omega
          clear hp htq ho2l ho2n hpre hdl hps hprl
          go_wp2_with fail
          go_roundw
          case rel => exact ⟨o2, R ++ o2.drop out.length, by rw [HPP.out], by rw [HTQ.out], by rw [HO9.out]; exact HBE.out.next, HB3.out⟩
          case measure => exact hms
theorem behL_lt {g : List Bl} {S : List Nat} (hS : ∀ x ∈ S, x < g.length) (i : Nat) : ∀ x ∈ behL g S i, x < g.length := spread_lt (fun t ht => hS t (mem_nxS.1 ht).2) (fun _ _ t ht => hS t (mem_nxS.1 ht).2)
theorem behL_nodup {g : List Bl} (S : List Nat) (i : Nat) : (behL g S i).Nodup := spr_nodup _ _ _
theorem cut_lt {g : List Bl} {W C : List Nat} (hW : ∀ x ∈ W, x < g.length) : ∀ x ∈ cutL W C, x < g.length := fun x hx => hW x (mem_cutL.1 hx).1
/-- The part of a block, by what is behind it. -/
theorem part_srt (g : List Bl) (S : List Nat) (i : Nat) : srt g ((behL g S i).filter fun j => decide (i ∈ behL g S j)) g.length = partL g S i := by
  unfold srt partL
  refine List.filter_congr fun x _ => ?_
  rw [Bool.eq_iff_iff, decide_eq_true_eq, List.mem_filter, Bool.and_eq_true, decide_eq_true_eq, decide_eq_true_eq]
theorem part_none {g : List Bl} {S : List Nat} (hS : ∀ x ∈ S, x < g.length) {i : Nat} (h : i ∉ behL g S i) : partL g S i = [] := (partL_nil hS).2 fun hc => h ((mem_behL hS).2 hc)

set_option maxRecDepth 100000 in
set_option maxHeartbeats 4000000 in
theorem l10Part_any (A : Option Addr) (cap : Nat) (g : List Bl) (i : Nat) (W C : List Nat) (nm sW sC : ByteArray) (w : World) (hg : Gr w A g) (hn : g.length + tot g ≤ 1048576) (hv : validB g = true) (hi : i < g.length) (hnm : nm = nthName g i) (hW : ∀ x ∈ W, x < g.length) (hC : ∀ x ∈ C, x < g.length) (hWl : W.length ≤ 1000) (hCl : C.length ≤ 1000) (hsW : sW = namesAt g W) (hsC : sC = namesAt g C) :
    Calls Tryz.prog 45 #[.slice A g.length cap, .string nm, .string sW, .string sC] w fun e w' => e = .returned (.string (namesAt g (partL g (cutL W C) i))) ∧ Below w.heap.size w w' := by
  obtain ⟨c, hc, _⟩ := valid_one hv (List.getElem_mem hi)
  have hnc : nm = ⟨#[c]⟩ := by rw [hnm, nthName_at hi, hc]
  have hn1 : nm.size = 1 := by rw [hnc]; rfl
  have l0 : 0 < nm.size := by omega
  have i0 : (0 : Int) < nm.size := by omega
  have hS : ∀ x ∈ cutL W C, x < g.length := cut_lt hW
  have h26 := (valid_iff.1 hv).2.1
  have HB1 := Lib.hid (fun w (h : Gr w A g) j (hj : j < g.length) nj (hnj : nj = nthName g j) => l10Behind_any A cap g j W C nj sW sC w h (by omega) hv hj hnj hW hC hWl hCl hsW hsC)
  obtain ⟨BE, hBE⟩ : ∃ BE, BE = behL g (cutL W C) i := ⟨_, rfl⟩
  have hBl : ∀ x ∈ BE, x < g.length := hBE ▸ behL_lt hS i
  have hBn : BE.Nodup := hBE ▸ behL_nodup _ _
  have hB26 : BE.length ≤ 26 := Nat.le_trans (nodup_lt_len _ _ hBn hBl) h26
  have HC1 := Lib.hid (HB1.out w hg i hi nm hnm)
  obtain ⟨be, hbe⟩ : ∃ be, be = namesAt g BE := ⟨_, rfl⟩
  rw [← hBE, ← hbe] at HC1
  have hbs : be.size = BE.length := by rw [hbe, namesAt_size hv _ hBl]
  have hbz : be.size ≤ 26 := by omega
  have hin : 0 ≤ Lib.indexByte be.data.toList c ↔ i ∈ BE := by rw [hbe]; exact idx_namesAt hv hBl hi hc
  have H0 : Hid (nm[0]'l0 = c) := one_get' hnc l0
  have HG := Lib.hid hg
  have HV := Lib.hid hv
  have HN := Lib.hid hnm
  have HS := Lib.hid hS
  have HBE := Lib.hid hBE
  have Hbe := Lib.hid hbe
  have HBL := Lib.hid hBl
  have HBN := Lib.hid hBn
  have HF : Hid (∀ (s : ByteArray) (hs : s.size ≤ 4611686018427387904) (w : World), Calls Tryz.prog 60 #[.string s, .int .u8 (nm[0]'l0).toNat] w fun e w' => e = .returned (.int .i64 (Lib.indexByte s.data.toList c)) ∧ w = w') := fun s hs w => by
    have := find_any s c w hs
    rw [one_get' hnc l0]; exact this
  have HIX := Lib.hid (fun (L : List Nat) (hL : ∀ x ∈ L, x < g.length) => idx_namesAt hv hL hi hc)
  have HCC := Lib.hid hc
  obtain ⟨zB, hzB⟩ : ∃ z, z = Lib.indexByte be.data.toList c := ⟨_, rfl⟩
  have HFB : Hid (∀ (w : World), Calls Tryz.prog 60 #[.string be, .int .u8 (nm[0]'l0).toNat] w fun e w' => e = .returned (.int .i64 zB) ∧ w = w') := fun w => by rw [hzB]; exact HF.out be (by omega) w
  rw [← hzB] at hin
  have HIN := Lib.hid hin
  clear hg hv hnm hW hC hsW hsC hS hBE hbe hBl hBn hnc hc hzB hin
  go_enter Tryz.func45, Tryz.ntmps45
  go_wp2_with fail
  refine HC1.out.mono ?_
  rintro e w1 ⟨rfl, b1⟩
  have HB := Lib.hid b1
  clear b1
  by_cases hz : zB < 0
  · have HR := Lib.hid (show (⟨#[]⟩ : ByteArray) = namesAt g (partL g (cutL W C) i) by
      rw [part_none HS.out (fun h => by rw [← HBE.out] at h; have := HIN.out.2 h; omega)]; rfl)
    go_wp2_with fail
    refine (HFB.out _).mono ?_
    rintro e w2 ⟨rfl, rfl⟩
    go_wp2_with fail
    go_ret
    exact ⟨ret_string HR.out, HB.out⟩
  · go_wp2_with fail
    refine (HFB.out _).mono ?_
    rintro e w2 ⟨rfl, rfl⟩
    go_wp2_with fail
    go_loopw [9, 24] (fun ov kv wr => ∃ (k : Nat), k ≤ BE.length ∧ kv = .int .i64 k ∧ ov = .string (namesAt g ((BE.take k).filter fun j => decide (i ∈ behL g (cutL W C) j))) ∧ Hid (Below w.heap.size w wr)) (fun _ kv _ => BE.length - (intOf kv).toNat)
    case atStart => exact ⟨0, Nat.zero_le _, rfl, rfl, HB.out⟩
    case round =>
      obtain ⟨k, hk, rfl, rfl, HB2⟩ := hrel
      obtain ⟨out, hout⟩ : ∃ out, out = namesAt g ((BE.take k).filter fun j => decide (i ∈ behL g (cutL W C) j)) := ⟨_, rfl⟩
      have hfl : ∀ k, ∀ x ∈ (BE.take k).filter fun j => decide (i ∈ behL g (cutL W C) j), x < g.length := fun k x hx => HBL.out x (List.mem_of_mem_take (List.mem_filter.1 hx).1)
      have hos : out.size ≤ 26 := by
        rw [hout, namesAt_size HV.out _ (hfl k)]
        exact Nat.le_trans (List.length_filter_le _ _) (Nat.le_trans (by rw [List.length_take]; omega) hB26)
      have HFL := Lib.hid hfl
      rw [← hout]
      by_cases hlt : k < BE.length
      · have hks : k + 1 ≤ be.size := by omega
        have hki : (k : Int) < be.size := by omega
        have hjl : BE[k] < g.length := HBL.out _ (List.getElem_mem hlt)
        obtain ⟨j, hj⟩ : ∃ j, j = BE[k] := ⟨_, rfl⟩
        rw [← hj] at hjl
        have hex : be.extract k (k + 1) = nthName g j := by
          rw [Hbe.out, hj, nthName_at (hj ▸ hjl)]
          exact (namesAt_cut HV.out HBL.out hlt).2
        obtain ⟨bj, hbj⟩ : ∃ bj, bj = namesAt g (behL g (cutL W C) j) := ⟨_, rfl⟩
        have cB : ∀ d os, Calls Tryz.prog 67 #[.slice A g.length cap, .string (be.extract k (k + 1)), .string sW, .string sC] (grow (redrawn wr d) os) fun e w'' => e = .returned (.string bj) ∧ ∃ p : Regrown, w'' = grow (redrawn wr p.d) p.os := fun d os => by
          have := HB1.out (grow (redrawn wr d) os) (gr_grown (HG.out.below HB2.out) d os) j hjl (be.extract k (k + 1)) hex
          rw [← hbj] at this
          exact Calls.regrown_of this
        have hbjs : bj.size ≤ 26 := by
          rw [hbj, namesAt_size HV.out _ (behL_lt HS.out j)]
          exact Nat.le_trans (nodup_lt_len _ _ (behL_nodup _ _) (behL_lt HS.out j)) h26
        obtain ⟨zj, hzj⟩ : ∃ z, z = Lib.indexByte bj.data.toList c := ⟨_, rfl⟩
        have HFJ : Hid (∀ (w : World), Calls Tryz.prog 60 #[.string bj, .int .u8 (nm[0]'l0).toNat] w fun e w' => e = .returned (.int .i64 zj) ∧ w = w') := fun w => by rw [hzj]; exact HF.out bj (by omega) w
        have cF : ∀ d os, Calls Tryz.prog 60 #[.string bj, .int .u8 (nm[0]'l0).toNat] (grow (redrawn wr d) os) fun e w'' => e = .returned (.int .i64 zj) ∧ ∃ p : Regrown, w'' = grow (redrawn wr p.d) p.os := fun d os => same_grown (HFJ.out _)
        have hzin : 0 ≤ zj ↔ i ∈ behL g (cutL W C) j := by rw [hzj, hbj]; exact HIX.out _ (behL_lt HS.out j)
        have HT := Lib.hid (show (BE.take (k + 1)).filter (fun j => decide (i ∈ behL g (cutL W C) j)) = (BE.take k).filter (fun j => decide (i ∈ behL g (cutL W C) j)) ++ (if i ∈ behL g (cutL W C) j then [j] else []) by
          rw [List.take_succ_eq_append_getElem hlt, ← hj, List.filter_append, List.filter_cons]
          by_cases h : i ∈ behL g (cutL W C) j
          · simp [h]
          · simp [h])
        have hes : (be.extract k (k + 1)).size = 1 := by rw [hex]; exact nth_size HV.out hjl
        have z1 : out.size + (be.extract k (k + 1)).size ≤ 1048576 := by omega
        have HEX := Lib.hid hex
        have HOUT := Lib.hid hout
        have hi0 := i0
        by_cases hz3 : 0 ≤ zj
        · have q0 : decide (0 ≤ zj) = true := decide_eq_true hz3
          have HT2 := Lib.hid (show out ++ be.extract k (k + 1) = namesAt g ((BE.take (k + 1)).filter fun j => decide (i ∈ behL g (cutL W C) j)) by
            rw [HT.out, if_pos (hzin.1 hz3), namesAt_append, namesAt_one, ← HOUT.out, HEX.out])
          clear hex hout hbj hzj hzin hes hj
          go_wp2_with fail
          refine wp_region_quiet_below (by kernel_rfl) (by kernel_rfl) ?_
          repeat (any_goals (first | go_big_quiet_step (first | with_reducible exact cB _ _ | with_reducible exact cF _ _) | quiet_step (first | with_reducible exact cB _ _ | with_reducible exact cF _ _)))
          all_goals (refine wpQuiet_nil ?_; intro _ hw'; obtain ⟨⟨dq, osq⟩, hw''⟩ := hw'; subst hw'')
          have hb3 := below_regrown wr dq osq
          have HB4 := Lib.hid (HB2.out.trans (hb3.mono HB2.out.size))
          generalize grow (redrawn wr dq) osq = w3 at HB4 ⊢
          clear hb3 cB cF
          go_wp2_with fail
          go_roundw
          case rel => exact ⟨k + 1, by omega, by go_num, by rw [HT2.out], HB4.out⟩
          case measure => simp [intOf]; omega
        · have q0 : decide (0 ≤ zj) = false := decide_eq_false hz3
          have HT2 := Lib.hid (show out = namesAt g ((BE.take (k + 1)).filter fun j => decide (i ∈ behL g (cutL W C) j)) by
            rw [HT.out, if_neg (fun h => hz3 (hzin.2 h)), List.append_nil, ← HOUT.out])
          clear hex hout hbj hzj hzin hes hj
          go_wp2_with fail
          refine wp_region_quiet_below (by kernel_rfl) (by kernel_rfl) ?_
          repeat (any_goals (first | go_big_quiet_step (first | with_reducible exact cB _ _ | with_reducible exact cF _ _) | quiet_step (first | with_reducible exact cB _ _ | with_reducible exact cF _ _)))
          all_goals (refine wpQuiet_nil ?_; intro _ hw'; obtain ⟨⟨dq, osq⟩, hw''⟩ := hw'; subst hw'')
          have hb3 := below_regrown wr dq osq
          have HB4 := Lib.hid (HB2.out.trans (hb3.mono HB2.out.size))
          generalize grow (redrawn wr dq) osq = w3 at HB4 ⊢
          clear hb3 cB cF
          go_wp2_with fail
          go_roundw
          case rel => exact ⟨k + 1, by omega, by go_num, by rw [HT2.out], HB4.out⟩
          case measure => simp [intOf]; omega
      · have hkk : k = BE.length := by omega
        have HSO := Lib.hid (l1Sorted_any A cap g (BE.filter fun j => decide (i ∈ behL g (cutL W C) j)) out wr (HG.out.below HB2.out) hn HV.out (fun x hx => HBL.out x (List.mem_filter.1 hx).1) (by rw [hout, hkk, List.take_length]) (by omega))
        rw [HBE.out, part_srt g (cutL W C) i] at HSO
        have hki : ¬ (k : Int) < be.size := by omega
        clear hout
        go_wp2_with fail
        refine HSO.out.mono ?_
        rintro e w2 ⟨rfl, b2⟩
        have HB4 := Lib.hid (HB2.out.trans (b2.mono HB2.out.size))
        clear b2
        go_wp2_with fail
        go_ret
        exact ⟨ret_string rfl, HB4.out⟩
end Go.Proofs.YtdpjdhllaokbfaaGreat
