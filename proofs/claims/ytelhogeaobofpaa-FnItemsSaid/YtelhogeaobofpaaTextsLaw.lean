/-
  The law FnTexts: what the functions of texts say of one text fits together.
-/
import Derived.Test.YtelhogeaobofpaaLengthLaw
namespace Go.Proofs.Ytelhogeaobofpaa
open Go.RowKit Go.Sort
attribute [local go_sem] Oper.semAt_some

/-- Is a name among those ahead of it? -/
theorem names_has {nm : List UInt8} {i : Nat} (hi : i < nm.length) : hasB ((tb nm).extract 0 i) ((tb nm).extract i (i + 1)) = decide (nm[i] ∈ nm.take i) := by
  rw [tb_fst, tb_one nm i hi]
  have key : hasB (tb (nm.take i)) (tb [nm[i]]) = true ↔ nm[i] ∈ nm.take i := by
    rw [hasB_iff, tb_size]
    constructor
    · rintro ⟨j, hj, e⟩
      rw [tb_one _ j hj] at e
      have e2 : (nm.take i)[j] = nm[i] := by
        have := congrArg (fun b : ByteArray => b.data.toList) e
        simpa [tb] using this
      rw [← e2]; exact List.getElem_mem _
    · intro h
      obtain ⟨j, hj, e⟩ := List.getElem_of_mem h
      exact ⟨j, hj, by rw [tb_one _ j hj, e]⟩
  by_cases h : nm[i] ∈ nm.take i
  · rw [decide_eq_true h]; exact key.2 h
  · rw [decide_eq_false h]
    cases hh : hasB (tb (nm.take i)) (tb [nm[i]]) with
    | false => rfl
    | true => exact absurd (key.1 hh) h
theorem nodup_step {nm : List UInt8} {i : Nat} (hi : i < nm.length) : (nm.take (i + 1)).Nodup ↔ (nm.take i).Nodup ∧ nm[i] ∉ nm.take i := by
  rw [List.take_succ_eq_append_getElem hi, List.nodup_append]
  constructor
  · rintro ⟨h1, _, h2⟩
    exact ⟨h1, fun hm => h2 _ hm _ (by simp) rfl⟩
  · rintro ⟨h1, h2⟩
    exact ⟨h1, by simp, fun a ha b hb e => by
      rw [List.mem_singleton] at hb
      rw [e, hb] at ha; exact h2 ha⟩
/-- Does a name stand twice among the first? -/
def twB (nm : List UInt8) (i : Nat) : Bool := !decide (nm.take i).Nodup
theorem twB_step {nm : List UInt8} {i : Nat} (hi : i < nm.length) : twB nm (i + 1) = (twB nm i || decide (nm[i] ∈ nm.take i)) := by
  unfold twB
  by_cases h1 : (nm.take i).Nodup
  · by_cases h2 : nm[i] ∈ nm.take i
    · rw [decide_eq_true h1, decide_eq_true h2, decide_eq_false fun h => ((nodup_step hi).1 h).2 h2]; rfl
    · rw [decide_eq_true h1, decide_eq_false h2, decide_eq_true ((nodup_step hi).2 ⟨h1, h2⟩)]; rfl
  · rw [decide_eq_false h1, decide_eq_false fun h => h1 ((nodup_step hi).1 h).1]; rfl

/-- What has been counted of brackets. -/
def scT (s : List UInt8) (i : Nat) : Int × Int := (s.take i).foldl scn (0, 0)
theorem scT_step {s : List UInt8} {i : Nat} (h : i < s.length) : scT s (i + 1) = scn (scT s i) s[i] := by
  unfold scT; rw [List.take_succ_eq_append_getElem h, List.foldl_append]; rfl
theorem scT_small (s : List UInt8) : ∀ (i : Nat), i ≤ s.length → -(i : Int) ≤ (scT s i).1 ∧ (scT s i).1 ≤ i ∧ 0 ≤ (scT s i).2 ∧ (scT s i).2 ≤ i
  | 0, _ => by unfold scT; simp
  | i + 1, h => by
    have ih := scT_small s i (by omega)
    rw [scT_step (by omega)]
    unfold scn
    split
    · refine ⟨?_, ?_, ?_, ?_⟩ <;> simp only <;> omega
    · split
      · refine ⟨?_, ?_, ?_, ?_⟩ <;> simp only <;> omega
      · refine ⟨?_, ?_, ?_, ?_⟩ <;> omega
theorem has_sign {s : ByteArray} (x : UInt8) : hasB s ⟨#[x]⟩ = decide (0 < bc x s.data.toList) := by
  have key : hasB s ⟨#[x]⟩ = true ↔ 0 < bc x s.data.toList := by
    unfold bc
    rw [List.countP_pos_iff, hasB_iff]
    have es : tb s.data.toList = s := tb_of s
    constructor
    · rintro ⟨j, hj, e⟩
      have hj2 : j < s.data.toList.length := by simpa using hj
      have e3 : (tb s.data.toList).extract j (j + 1) = ⟨#[x]⟩ := by rw [es]; exact e
      rw [tb_one _ j hj2] at e3
      have e2 : s.data.toList[j] = x := by
        have := congrArg (fun b : ByteArray => b.data.toList) e3
        simpa [tb] using this
      exact ⟨_, List.getElem_mem hj2, by simpa using e2⟩
    · rintro ⟨c, hc, e⟩
      obtain ⟨j, hj, e2⟩ := List.getElem_of_mem hc
      refine ⟨j, by simpa using hj, ?_⟩
      have e3 := tb_one s.data.toList j hj
      rw [es, e2] at e3
      rw [e3, show c = x by simpa using e]; rfl
  by_cases h : 0 < bc x s.data.toList
  · rw [decide_eq_true h]; exact key.2 h
  · rw [decide_eq_false h]
    cases hh : hasB s ⟨#[x]⟩ with
    | false => rfl
    | true => exact absurd (key.1 hh) h

set_option maxRecDepth 100000 in
set_option maxHeartbeats 6400000 in
theorem exFnTexts_walk (A : Option Addr) (len cap : Nat) (w : World) (hb : Bytes w A len) (hlc : len ≤ cap) (hl : cap ≤ 9223372036854775807) :
    Calls Try.prog 8 #[.slice A len cap] w fun e w' => e = .returned (.bool true) ∧ Below w.heap.size w w' := by
  by_cases hbig : 1048576 < len
  · have g0 : decide ((1048576 : Int) < len) = true := by simp; omega
    go_enter Try.func8, Try.ntmps8
    go_wp2_with fail
    go_ret
    exact ⟨rfl, Below.refl _ _⟩
  · have g0 : decide ((1048576 : Int) < len) = false := by simp; omega
    have HD := Lib.hid (drawBlocksIn_any A len cap w hb hlc hl)
    clear hb
    go_enter Try.func8, Try.ntmps8
    go_wp2_with fail
    refine HD.out.mono ?_
    rintro e w1 ⟨s, rfl, hs, b1⟩
    have HB1 := Lib.hid b1
    clear b1
    have HBI := Lib.hid (implBlocks_text s)
    have HBS := Lib.hid (fun W => specBlocks_text s W (by omega))
    have HV := Lib.hid (implValid_text s)
    have IF := Lib.hid (implFrames_text s)
    have SF := Lib.hid (fun W => specFrames_text s W (by omega))
    have IL := Lib.hid (implLeaves_text s)
    have SL := Lib.hid (fun W => specLeaves_text s W (by omega))
    have IR := Lib.hid (implFar_text s)
    have SR := Lib.hid (fun W => specFar_text s W (by omega))
    have IO := Lib.hid (implOnce_text s)
    have SO := Lib.hid (fun W => specOnce_text s W (by omega))
    have IN := Lib.hid (implNumber_text s)
    have SN := Lib.hid (fun W => specNumber_text s W (by omega))
    obtain ⟨nm, hnm⟩ : ∃ nm, nm = blocksV s.data.toList := ⟨_, rfl⟩
    rw [← hnm] at HBI HBS
    have hz : (tb nm).size = nm.length := tb_size nm
    have hnl : nm.length ≤ 200 := by rw [hnm]; exact blV_len
    cases htb : textB s.data.toList with
    | false =>
      rw [show onceB s.data.toList = false by unfold onceB; rw [htb]; rfl] at IO SO
      rw [htb] at HBI HBS HV
      generalize framesZ s.data.toList = zf at IF SF
      generalize countZ s.data.toList [94] = zl at IL SL
      generalize farZ s.data.toList = zr at IR SR
      generalize numB s.data.toList = bn at IN SN
      clear htb hnm
      go_wp2_with fail
      refine (HBI.out w1).mono ?_
      rintro e w2 ⟨rfl, b2⟩
      have HB2 := Lib.hid (below_trans_self HB1.out b2)
      clear b2
      go_wp2_with fail
      refine (HBS.out w2).mono ?_
      rintro e w3 ⟨rfl, b3⟩
      have HB3 := Lib.hid (below_trans_self HB2.out b3)
      clear b3
      go_wp2_with fail
      refine (IF.out w3).mono ?_
      rintro e w4 ⟨rfl, b4⟩
      have HB4 := Lib.hid (below_trans_self HB3.out b4)
      clear b4
      go_wp2_with fail
      refine (IL.out w4).mono ?_
      rintro e w5 ⟨rfl, b5⟩
      have HB5 := Lib.hid (below_trans_self HB4.out b5)
      clear b5
      go_wp2_with fail
      refine (IR.out w5).mono ?_
      rintro e w6 ⟨rfl, b6⟩
      have HB6 := Lib.hid (below_trans_self HB5.out b6)
      clear b6
      go_wp2_with fail
      refine (IO.out w6).mono ?_
      rintro e w7 ⟨rfl, b7⟩
      have HB7 := Lib.hid (below_trans_self HB6.out b7)
      clear b7
      go_wp2_with fail
      refine (IN.out w7).mono ?_
      rintro e w8 ⟨rfl, b8⟩
      have HB8 := Lib.hid (below_trans_self HB7.out b8)
      clear b8
      go_wp2_with fail
      refine (SF.out w8).mono ?_
      rintro e w9 ⟨rfl, b9⟩
      have HB9 := Lib.hid (below_trans_self HB8.out b9)
      clear b9
      go_wp2_with fail
      refine (SL.out w9).mono ?_
      rintro e w10 ⟨rfl, b10⟩
      have HB10 := Lib.hid (below_trans_self HB9.out b10)
      clear b10
      go_wp2_with fail
      refine (SR.out w10).mono ?_
      rintro e w11 ⟨rfl, b11⟩
      have HB11 := Lib.hid (below_trans_self HB10.out b11)
      clear b11
      go_wp2_with fail
      refine (SO.out w11).mono ?_
      rintro e w12 ⟨rfl, b12⟩
      have HB12 := Lib.hid (below_trans_self HB11.out b12)
      clear b12
      go_wp2_with fail
      refine (SN.out w12).mono ?_
      rintro e w13 ⟨rfl, b13⟩
      have HB13 := Lib.hid (below_trans_self HB12.out b13)
      clear b13
      go_wp2_with fail
      refine (HV.out w13).mono ?_
      rintro e w14 ⟨rfl, b14⟩
      have HB14 := Lib.hid (below_trans_self HB13.out b14)
      clear b14
      go_wp2_with fail
      refine (SF.out w14).mono ?_
      rintro e w15 ⟨rfl, b15⟩
      have HB15 := Lib.hid (below_trans_self HB14.out b15)
      clear b15
      go_wp2_with fail
      refine (SL.out w15).mono ?_
      rintro e w16 ⟨rfl, b16⟩
      have HB16 := Lib.hid (below_trans_self HB15.out b16)
      clear b16
      go_wp2_with fail
      refine (SR.out w16).mono ?_
      rintro e w17 ⟨rfl, b17⟩
      have HB17 := Lib.hid (below_trans_self HB16.out b17)
      clear b17
      go_wp2_with fail
      refine (SO.out w17).mono ?_
      rintro e w18 ⟨rfl, b18⟩
      have HB18 := Lib.hid (below_trans_self HB17.out b18)
      clear b18
      go_wp2_with fail
      refine (SN.out w18).mono ?_
      rintro e w19 ⟨rfl, b19⟩
      have HB19 := Lib.hid (below_trans_self HB18.out b19)
      clear b19
      go_wp2_with fail
      refine (HV.out w19).mono ?_
      rintro e w20 ⟨rfl, b20⟩
      have HB20 := Lib.hid (below_trans_self HB19.out b20)
      clear b20
      go_wp2_with fail
      go_ret
      exact ⟨rfl, HB20.out⟩
    | true =>
      obtain ⟨l, hl1⟩ := textB_get htb
      rw [htb] at HBI HBS HV
      rw [framesZ_yes hl1] at IF SF
      rw [countZ_yes hl1 rfl (by decide)] at IL SL
      rw [farZ_yes hl1] at IR SR
      have hon : onceB s.data.toList = !twB nm nm.length := by
        unfold onceB twB; rw [htb, List.take_length, hnm]; simp
      rw [hon] at IO SO
      have hnum : numB s.data.toList = (hasB s ⟨#[61]⟩ || hasB s ⟨#[35]⟩) := by
        unfold numB
        rw [has_sign, has_sign, countZ_yes hl1 rfl (by decide), countZ_yes hl1 rfl (by decide), hl1.2.2]
        rw [bc_okL sgn_all.2.2.2.2.2.1 (by decide) (by decide) (by decide) (by decide) (by decide) l 0 hl1.2.1, bc_okL sgn_all.2.2.2.2.2.2.1 (by decide) (by decide) (by decide) (by decide) (by decide) l 0 hl1.2.1]
        rw [decide_eq_decide.2 (show (0 : Int) < (cnL 61 l : Nat) ↔ 0 < cnL 61 l by omega), decide_eq_decide.2 (show (0 : Int) < (cnL 35 l : Nat) ↔ 0 < cnL 35 l by omega)]
      rw [hnum] at IN SN
      have hsc : scT s.data.toList s.data.toList.length = (0, (dpL l : Int)) := by
        unfold scT
        have := scan_all hl1.2.1
        rw [← hl1.2.2] at this
        rw [List.take_length]; exact this
      have hsl : s.data.toList.length = s.size := by simp
      rw [hsl] at hsc
      have HSC := Lib.hid hsc
      have hfd := fa_okL l 0 hl1.2.1
      have hfc := fa_cnL l
      generalize dpL l = d at *
      generalize faL l = f at *
      generalize cnL 94 l = c at *
      have HFC := Lib.hid hfc
      have hfd2 : f ≤ d := by omega
      have H61 := Lib.hid (sjHas_any s ⟨#[61]⟩)
      have H35 := Lib.hid (sjHas_any s ⟨#[35]⟩)
      generalize hasB s ⟨#[61]⟩ = h61 at *
      generalize hasB s ⟨#[35]⟩ = h35 at *
      generalize htw : twB nm nm.length = tw at *
      have HTW := Lib.hid htw
      clear htb hl1 hon hnum hsc hfd hfc hnm htw
      go_wp2_with fail
      refine (HBI.out w1).mono ?_
      rintro e w2 ⟨rfl, b2⟩
      have HB2 := Lib.hid (below_trans_self HB1.out b2)
      clear b2
      go_wp2_with fail
      refine (HBS.out w2).mono ?_
      rintro e w3 ⟨rfl, b3⟩
      have HB3 := Lib.hid (below_trans_self HB2.out b3)
      clear b3
      go_wp2_with fail
      refine (IF.out w3).mono ?_
      rintro e w4 ⟨rfl, b4⟩
      have HB4 := Lib.hid (below_trans_self HB3.out b4)
      clear b4
      go_wp2_with fail
      refine (IL.out w4).mono ?_
      rintro e w5 ⟨rfl, b5⟩
      have HB5 := Lib.hid (below_trans_self HB4.out b5)
      clear b5
      go_wp2_with fail
      refine (IR.out w5).mono ?_
      rintro e w6 ⟨rfl, b6⟩
      have HB6 := Lib.hid (below_trans_self HB5.out b6)
      clear b6
      go_wp2_with fail
      refine (IO.out w6).mono ?_
      rintro e w7 ⟨rfl, b7⟩
      have HB7 := Lib.hid (below_trans_self HB6.out b7)
      clear b7
      go_wp2_with fail
      refine (IN.out w7).mono ?_
      rintro e w8 ⟨rfl, b8⟩
      have HB8 := Lib.hid (below_trans_self HB7.out b8)
      clear b8
      go_wp2_with fail
      refine (SF.out w8).mono ?_
      rintro e w9 ⟨rfl, b9⟩
      have HB9 := Lib.hid (below_trans_self HB8.out b9)
      clear b9
      go_wp2_with fail
      refine (SL.out w9).mono ?_
      rintro e w10 ⟨rfl, b10⟩
      have HB10 := Lib.hid (below_trans_self HB9.out b10)
      clear b10
      go_wp2_with fail
      refine (SR.out w10).mono ?_
      rintro e w11 ⟨rfl, b11⟩
      have HB11 := Lib.hid (below_trans_self HB10.out b11)
      clear b11
      go_wp2_with fail
      refine (SO.out w11).mono ?_
      rintro e w12 ⟨rfl, b12⟩
      have HB12 := Lib.hid (below_trans_self HB11.out b12)
      clear b12
      go_wp2_with fail
      refine (SN.out w12).mono ?_
      rintro e w13 ⟨rfl, b13⟩
      have HB13 := Lib.hid (below_trans_self HB12.out b13)
      clear b13
      go_wp2_with fail
      refine (HV.out w13).mono ?_
      rintro e w14 ⟨rfl, b14⟩
      have HB14 := Lib.hid (below_trans_self HB13.out b14)
      clear b14
      go_wp2_with fail
      go_loopg [13, 141] nm.length (fun gk tv iv wr => ∃ i : Nat, gk = nm.length - i ∧ i ≤ nm.length ∧ iv = .int .i64 i ∧ tv = .bool (twB nm i) ∧ Hid (Below w.heap.size w wr))
      case atStart => exact ⟨0, by omega, Nat.zero_le _, rfl, by unfold twB; rw [List.take_zero]; rfl, HB14.out⟩
      case round =>
        obtain ⟨i, rfl, hi, rfl, rfl, HB⟩ := hrel
        by_cases hil : i < nm.length
        · have HST := Lib.hid (twB_step hil)
          have s1 : IntKind.i64.wrap ((i : Int) + 1) = (i : Int) + 1 := IntWalk.i64_in _ (by omega)
          have s2 : ((i : Int) + 1).toNat = i + 1 := by omega
          have HJ := Lib.hid (fun W : World => by
            have := sjHas_any ((tb nm).extract 0 i) ((tb nm).extract i (i + 1)) W (by rw [ByteArray.size_extract]; omega)
            rw [names_has hil] at this
            exact this)
          generalize decide (nm[i] ∈ nm.take i) = hm at HST HJ
          cases ht : twB nm i with
          | true =>
            have HT := Lib.hid ht
            clear ht
            go_wp2_with fail
            go_quiet (fail)
            go_wp2_with fail
            go_roundg (nm.length - (i + 1))
            case measure => omega
            case rel => exact ⟨i + 1, rfl, by omega, by go_num, by rw [HST.out, HT.out]; rfl, HB.out.trans ((count_drewN _ nq).mono HB.out.size)⟩
          | false =>
            have HT := Lib.hid ht
            have tC : ∀ n, Calls Try.prog 31 #[.string ((tb nm).extract 0 i), .string ((tb nm).extract i (i + 1))] (wr.drewN n) fun e w'' => e = .returned (.bool hm) ∧ ∃ m, w'' = wr.drewN m := fun n => Calls.quiet_of_same ((HJ.out (wr.drewN n)).mono fun _ _ ⟨a, b⟩ => ⟨a, b.symm⟩)
            clear ht
            go_wp2_with fail
            go_quiet (with_reducible exact tC _)
            clear tC
            go_wp2_with fail
            go_roundg (nm.length - (i + 1))
            case measure => omega
            case rel => exact ⟨i + 1, rfl, by omega, by go_num, by rw [HST.out, HT.out]; rfl, HB.out.trans ((count_drewN _ nq).mono HB.out.size)⟩
        · obtain rfl : i = nm.length := by omega
          rw [HTW.out]
          have HBX := Lib.hid HB.out
          clear hi hil
          go_wp2_with fail
          go_loopg [15, 16, 159] s.size (fun gk ov dv iv wr => ∃ i : Nat, gk = s.size - i ∧ i ≤ s.size ∧ iv = .int .i64 i ∧ ov = .int .i64 (scT s.data.toList i).1 ∧ dv = .int .i64 (scT s.data.toList i).2 ∧ Hid (Below w.heap.size w wr))
          case atStart => exact ⟨0, by omega, Nat.zero_le _, rfl, rfl, rfl, HBX.out⟩
          case round =>
            obtain ⟨i, rfl, hi, rfl, rfl, rfl, HB'⟩ := hrel
            by_cases hil : i < s.size
            · have hil2 : i < s.data.toList.length := by omega
              have st1 := scT_step hil2
              obtain ⟨b1, b2, b3, b4⟩ := scT_small s.data.toList i (by omega)
              rw [getD_get s i hil] at st1
              obtain ⟨o, dd, hod⟩ : ∃ o dd, scT s.data.toList i = (o, dd) := ⟨_, _, rfl⟩
              rw [hod] at st1 b1 b2 b3 b4
              rw [hod]
              simp only at b1 b2 b3 b4
              have HST := Lib.hid st1
              clear st1 hod hsl hil2
              have s1 : IntKind.i64.wrap (o + 1) = o + 1 := IntWalk.i64_in _ (by omega)
              have s2 : IntKind.i64.wrap (o - 1) = o - 1 := IntWalk.i64_in _ (by omega)
              have fin : ∀ (p : Int × Int), scn (o, dd) (s[i]'hil) = p → scT s.data.toList (i + 1) = p := fun p h => by rw [HST.out, h]
              have FIN := Lib.hid fin
              clear fin HST
              rcases byte_is (c := s[i]'hil) (x := 40) with ⟨e40, f40⟩ | ⟨e40, f40⟩
              · have g40 : (((s[i]'hil).toNat : Int) == 40) = true := e40
                clear e40
                have HP := Lib.hid (FIN.out (o + 1, max dd (o + 1)) (by unfold scn; rw [if_pos (.inl f40)]))
                clear f40
                go_wp2_with fail
                go_roundg (s.size - (i + 1))
                case measure => omega
                case rel => exact ⟨i + 1, rfl, by omega, by go_num, by rw [HP.out], by rw [HP.out], HB'.out⟩
              · have g40 : (((s[i]'hil).toNat : Int) == 40) = false := e40
                clear e40
                rcases byte_is (c := s[i]'hil) (x := 123) with ⟨e123, f123⟩ | ⟨e123, f123⟩
                · have g123 : (((s[i]'hil).toNat : Int) == 123) = true := e123
                  clear e123
                  have HP := Lib.hid (FIN.out (o + 1, max dd (o + 1)) (by unfold scn; rw [if_pos (.inr f123)]))
                  clear f40 f123
                  go_wp2_with fail
                  go_roundg (s.size - (i + 1))
                  case measure => omega
                  case rel => exact ⟨i + 1, rfl, by omega, by go_num, by rw [HP.out], by rw [HP.out], HB'.out⟩
                · have g123 : (((s[i]'hil).toNat : Int) == 123) = false := e123
                  clear e123
                  rcases byte_is (c := s[i]'hil) (x := 41) with ⟨e41, f41⟩ | ⟨e41, f41⟩
                  · have g41 : (((s[i]'hil).toNat : Int) == 41) = true := e41
                    clear e41
                    have HP := Lib.hid (FIN.out (o - 1, dd) (by unfold scn; rw [if_neg (fun h => h.elim f40 f123), if_pos (.inl f41)]))
                    clear f40 f123 f41
                    go_wp2_with fail
                    go_roundg (s.size - (i + 1))
                    case measure => omega
                    case rel => exact ⟨i + 1, rfl, by omega, by go_num, by rw [HP.out], by rw [HP.out], HB'.out⟩
                  · have g41 : (((s[i]'hil).toNat : Int) == 41) = false := e41
                    clear e41
                    rcases byte_is (c := s[i]'hil) (x := 125) with ⟨e125, f125⟩ | ⟨e125, f125⟩
                    · have g125 : (((s[i]'hil).toNat : Int) == 125) = true := e125
                      clear e125
                      have HP := Lib.hid (FIN.out (o - 1, dd) (by unfold scn; rw [if_neg (fun h => h.elim f40 f123), if_pos (.inr f125)]))
                      clear f40 f123 f41 f125
                      go_wp2_with fail
                      go_roundg (s.size - (i + 1))
                      case measure => omega
                      case rel => exact ⟨i + 1, rfl, by omega, by go_num, by rw [HP.out], by rw [HP.out], HB'.out⟩
                    · have g125 : (((s[i]'hil).toNat : Int) == 125) = false := e125
                      clear e125
                      have HP := Lib.hid (FIN.out (o, dd) (by unfold scn; rw [if_neg (fun h => h.elim f40 f123), if_neg (fun h => h.elim f41 f125)]))
                      clear f40 f123 f41 f125
                      go_wp2_with fail
                      go_roundg (s.size - (i + 1))
                      case measure => omega
                      case rel => exact ⟨i + 1, rfl, by omega, by go_num, by rw [HP.out], by rw [HP.out], HB'.out⟩
            · obtain rfl : i = s.size := by omega
              rw [HSC.out]
              clear hi hil
              have hcf : (0 < c ∧ 0 < f) ∨ (c = 0 ∧ f = 0) := by have := HFC.out; omega
              rcases hcf with ⟨hc0, hf0⟩ | ⟨rfl, rfl⟩
              all_goals
                cases tw
                all_goals
                  cases h61 with
                  | true =>
                    go_wp2_with fail
                    refine (H61.out wr (by omega)).mono ?_
                    rintro e w20 ⟨rfl, rfl⟩
                    go_wp2_with fail
                    go_ret
                    exact ⟨rfl, HB'.out⟩
                  | false =>
                    go_wp2_with fail
                    refine (H61.out wr (by omega)).mono ?_
                    rintro e w20 ⟨rfl, rfl⟩
                    cases h35
                    all_goals
                      go_wp2_with fail
                      refine (H35.out wr (by omega)).mono ?_
                      rintro e w21 ⟨rfl, rfl⟩
                      go_wp2_with fail
                      go_ret
                      exact ⟨rfl, HB'.out⟩
end Go.Proofs.Ytelhogeaobofpaa
