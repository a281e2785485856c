/-
  The law FnRunText: a run does blocks of its text, the same within a frame, and with more choices it goes on.
-/
import Derived.Test.YtgkamcnbpiipoaaDrawEnds
import Derived.Test.YtgkamcnbpiipoaaRunEnds
import Derived.Test.YtgkamcnbpiipoaaRunExt
import Derived.Test.YtgkamcnbpiipoaaShiftRun
import Derived.Test.YtgkamcnbpiipoaaBlocks
import Derived.Test.YtgkamcnbpiipoaaOnceT
namespace Go.Proofs.Ytgkamcnbpiipoaa
open Go.RowKit Go.Sort
attribute [local go_sem] Oper.semAt_some

theorem frP_tb (s : List UInt8) : (⟨#[40]⟩ : ByteArray) ++ tb s ++ ⟨#[41]⟩ = tb (frT false s) := by
  apply ba_ext
  rw [tb_data, ByteArray.data_append, Array.toList_append, ByteArray.data_append, Array.toList_append, tb_data]; rfl
theorem morL_tb (s : List UInt8) : tb s ++ (⟨#[108]⟩ : ByteArray) = tb (s ++ [108]) := by
  apply ba_ext
  rw [tb_data, ByteArray.data_append, Array.toList_append, tb_data]
theorem rt_mem {S tr : List UInt8} {i : Nat} (hi : i < tr.length) (h : tr[i] ∈ S) : hasB (tb S) ((tb tr).extract i (i + 1)) = true := by
  obtain ⟨j, hj, e⟩ := List.getElem_of_mem h
  refine hasB_yes (i := j) (by rw [tb_size]; exact hj) ?_
  apply ba_ext
  simp [tb]
  rw [List.drop_eq_getElem_cons hj, List.drop_eq_getElem_cons hi, e]
  rfl
theorem rt_eq (a : List UInt8) : ((tb a).toList == (tb a).toList) = true := by simp
theorem rt_ne (a : List UInt8) : ((tb a).toList != (tb a).toList) = false := by simp
/-- Within one frame more, where it may stand so. -/
theorem rt_frame {S T : List UInt8} {l : List It} (hl : textOk S l) {o : ROut} {q : Option ROut} (h : RanT S T (some o)) (h' : RanT (frT false S) T q) : rtV q = rtV none ∨ rtV q = rtV (some o) := by
  cases q with
  | none => exact .inl rfl
  | some o' => obtain ⟨h1, h2⟩ := frame_ran false hl h h'; exact .inr (rtV_of h1 h2)
/-- With one choice more. -/
theorem rt_more {S T : List UInt8} {o o' : ROut} (h : RanT S T (some o)) (h' : RanT S (T ++ [108]) (some o')) : o.trace <+: o'.trace := by
  refine (ran_take T.length h' ?_).1
  rw [List.take_left]; exact h
theorem rt_text {S T : List UInt8} {o : ROut} (h : RanT S T (some o)) : ∃ l, textOk S l := by
  obtain ⟨l, h1, _⟩ := h; exact ⟨l, h1⟩
theorem rt_num {S T : List UInt8} {l : List It} (hl : textOk S l) {o : ROut} (h : RanT S T (some o)) (hn : numB S = false) : o.num = 0 := by
  refine ran_num hl h ?_
  unfold numB at hn
  rw [Bool.or_eq_false_iff, decide_eq_false_iff_not] at hn
  have h1 := hn.1
  rw [countZ_yes hl rfl (by decide)] at h1
  omega

set_option maxRecDepth 100000 in
set_option maxHeartbeats 6400000 in
theorem runText_walk (A : Option Addr) (len cap : Nat) (A' : Option Addr) (len' cap' : Nat) (w : World) (hb : Bytes w A len) (hlc : len ≤ cap) (hl : cap ≤ 9223372036854775807) (hb' : Bytes w A' len') (hlc' : len' ≤ cap') (hl' : cap' ≤ 9223372036854775807) :
    Calls Try.prog 3 #[.slice A len cap, .slice A' len' cap'] w fun e w' => e = .returned (.bool true) ∧ Below w.heap.size w w' := by
  by_cases hbig : 1048576 < len
  · have hbI : (1048576 : Int) < len := by omega
    clear hb hlc hl hb' hlc' hl'
    go_enter Try.func3, Try.ntmps3
    go_wp2_with fail
    go_ret
    exact ⟨rfl, Below.refl _ _⟩
  by_cases hbig' : 1048576 < len'
  · have hbI : ¬ (1048576 : Int) < len := by omega
    have hbI' : (1048576 : Int) < len' := by omega
    clear hb hlc hl hb' hlc' hl'
    go_enter Try.func3, Try.ntmps3
    go_wp2_with fail
    go_ret
    exact ⟨rfl, Below.refl _ _⟩
  have HC := Lib.hid (drawRunText_any A len cap w hb hlc hl)
  have HDM := Lib.hid (fun W (hbW : Bytes W A' len') => drawEnds_any A' len' cap' W hbW hlc' hl')
  have HBM := Lib.hid hb'
  have hbI : ¬ (1048576 : Int) < len := by omega
  have hbI' : ¬ (1048576 : Int) < len' := by omega
  clear hb hb' hlc' hl'
  go_enter Try.func3, Try.ntmps3
  go_wp2_with fail
  refine HC.out.mono ?_
  rintro e w1 ⟨s, t, rfl, hs, ht, b1⟩
  obtain ⟨S, rfl⟩ : ∃ S, s = tb S := ⟨_, (tb_of s).symm⟩
  obtain ⟨T, rfl⟩ : ∃ T, t = tb T := ⟨_, (tb_of t).symm⟩
  have hzS : (tb S).size ≤ 202 := hs
  have hzT : (tb T).size ≤ 100 := ht
  rw [tb_size] at hs ht
  have HB1 := Lib.hid b1
  have HSZ := Lib.hid (And.intro hs ht)
  have HRI := Lib.hid (fun W => implRunText_any S T W (by omega))
  have HRS := Lib.hid (fun W => specRunText_any S T W (by omega) (by omega))
  have HNI := Lib.hid (fun W => implNumberIn_any S T W (by omega))
  have HNS := Lib.hid (fun W => specNumberIn_any S T W (by omega) (by omega))
  clear b1 hs ht
  go_wp2_with fail
  refine (HRI.out _).mono ?_
  rintro e w2 ⟨o, hr, rfl, b2⟩
  have HO := Lib.hid hr
  have HB2 := Lib.hid (HB1.out.trans (b2.mono HB1.out.size))
  clear b2 hr
  obtain ⟨tr, en, ok, hrt⟩ : ∃ tr en ok, rtV o = .tuple #[.string (tb tr), .int .i64 en, .bool ok] := by cases o <;> exact ⟨_, _, _, rfl⟩
  obtain ⟨n, hnv⟩ : ∃ n : Int, niV o = .int .i64 n := by cases o <;> exact ⟨_, rfl⟩
  have HRT := Lib.hid hrt
  have HNV := Lib.hid hnv
  rw [hrt]
  clear hrt hnv
  have e1 := rt_ne tr
  have e2 : (en != en) = false := by simp
  have e3 : (n != n) = false := by simp
  go_wp2_with fail
  refine (HRS.out _).mono ?_
  rintro e w3 ⟨o', hr', he, b3⟩
  obtain rfl := HO.out.uniq hr'
  rw [HRT.out] at he
  subst he
  have HB3 := Lib.hid (HB2.out.trans (b3.mono HB2.out.size))
  clear b3 hr'
  go_wp2_with fail
  refine (HNI.out _).mono ?_
  rintro e w4 ⟨o', hr', he, b4⟩
  obtain rfl := HO.out.uniq hr'
  rw [HNV.out] at he
  subst he
  have HB4 := Lib.hid (HB3.out.trans (b4.mono HB3.out.size))
  clear b4 hr'
  go_wp2_with fail
  refine (HDM.out _ (HBM.out.below HB4.out)).mono ?_
  rintro e w5 ⟨x, y, rfl, hx, hy, b5⟩
  obtain ⟨X, rfl⟩ : ∃ X, x = tb X := ⟨_, (tb_of x).symm⟩
  obtain ⟨Y, rfl⟩ : ∃ Y, y = tb Y := ⟨_, (tb_of y).symm⟩
  rw [tb_size] at hx hy
  have HB5 := Lib.hid (HB4.out.trans (b5.mono HB4.out.size))
  have HEI := Lib.hid (fun W => implEnds_any X Y W (by omega))
  have HES := Lib.hid (fun W => specEnds_any X Y W (by omega) (by omega))
  clear b5 hx hy
  go_wp2_with fail
  refine (HNS.out _).mono ?_
  rintro e w6 ⟨o', hr', he, b6⟩
  obtain rfl := HO.out.uniq hr'
  rw [HNV.out] at he
  subst he
  have HB6 := Lib.hid (HB5.out.trans (b6.mono HB5.out.size))
  clear b6 hr'
  go_wp2_with fail
  refine (HEI.out _).mono ?_
  rintro e w7 ⟨q, hq, he, b7⟩
  have HQ := Lib.hid hq
  have HB7 := Lib.hid (HB6.out.trans (b7.mono HB6.out.size))
  obtain ⟨es, hes⟩ : ∃ es, es = esB q := ⟨_, rfl⟩
  rw [← hes] at he
  subst he
  have HEQ := Lib.hid hes
  clear b7 hq hes
  go_wp2_with fail
  refine (HES.out _).mono ?_
  rintro e w8 ⟨q', hq', he, b8⟩
  obtain rfl := HQ.out.uniq hq'
  rw [← HEQ.out] at he
  subst he
  have HB8 := Lib.hid (HB7.out.trans (b8.mono HB7.out.size))
  clear b8 hq'
  have e6 := rt_eq tr
  have e7 : (en == en) = true := by simp
  have e8 : (n == n) = true := by simp
  cases es
  all_goals
    cases o with
    | none =>
      have h1 := HRT.out
      have h2 := HNV.out
      unfold rtV at h1
      unfold niV at h2
      injection h1 with h1
      injection h2 with _ h2
      have h3 : ok = false := by
        have := congrArg (fun a : Array Value => a[2]?) h1
        simp at this; exact this
      subst h2
      subst h3
      clear h1
      go_wp2_with fail
      refine (HNS.out _).mono ?_
      rintro e w9 ⟨o', hr', he, b9⟩
      obtain rfl := HO.out.uniq hr'
      rw [HNV.out] at he
      subst he
      have HB9 := Lib.hid (HB8.out.trans (b9.mono HB8.out.size))
      clear b9 hr'
      go_wp2_with fail
      refine (HEI.out _).mono ?_
      rintro e w10 ⟨q', hq', he, b10⟩
      obtain rfl := HQ.out.uniq hq'
      rw [← HEQ.out] at he
      subst he
      have HB10 := Lib.hid (HB9.out.trans (b10.mono HB9.out.size))
      clear b10 hq'
      go_wp2_with fail
      refine (HES.out _).mono ?_
      rintro e w11 ⟨q', hq', he, b11⟩
      obtain rfl := HQ.out.uniq hq'
      rw [← HEQ.out] at he
      subst he
      have HB11 := Lib.hid (HB10.out.trans (b11.mono HB10.out.size))
      clear b11 hq'
      go_wp2_with fail
      go_ret
      exact ⟨rfl, HB11.out⟩
    | some o =>
      have h1 := HRT.out
      have h2 := HNV.out
      unfold rtV at h1
      unfold niV at h2
      injection h1 with h1
      injection h2 with _ h2
      have h3 : ok = true := by
        have := congrArg (fun a : Array Value => a[2]?) h1
        simp at this; exact this
      have h4 : (o.code : Int) = en := by
        have := congrArg (fun a : Array Value => a[1]?) h1
        simp at this; exact this
      have h5 : o.trace = tr := by
        have := congrArg (fun a : Array Value => a[0]?) h1
        simp at this
        have := congrArg (fun b : ByteArray => b.data.toList) this
        simpa [tb_data] using this
      subst h3
      clear h1
      obtain ⟨l, hl1⟩ := rt_text HO.out
      have HL := Lib.hid hl1
      have HBI := Lib.hid (fun W => by have := implBlocksIn_any S W; unfold BlocksPost at this; rw [blocksV_yes hl1, textB_yes ⟨l, hl1⟩] at this; exact this)
      have htr : tr.length ≤ 60 := by rw [← h5]; exact ran_len HO.out
      have hmem : ∀ c ∈ tr, c ∈ blL l := by rw [← h5]; exact ran_blocks hl1 HO.out
      have hbl : (blL l).length ≤ 1048576 := by
        have h6 := bl_lenL l
        have h7 := len_L l
        have h8 := hl1.1
        rw [hl1.2.2] at h8
        unfold lnS at h7
        omega
      have HTR := Lib.hid h5
      have HEN := Lib.hid h4
      have HNN := Lib.hid h2
      have HME := Lib.hid hmem
      have HBL := Lib.hid hbl
      clear hl1 h2 h4 h5 hmem hbl
      have hzr : (tb tr).size = tr.length := tb_size tr
      obtain ⟨k, hk⟩ : ∃ k, k = tr.length := ⟨_, rfl⟩
      rw [← hk] at htr hzr
      have HKR := Lib.hid hk
      clear hk
      go_wp2_with fail
      refine (HBI.out _).mono ?_
      rintro e w9 ⟨rfl, b9⟩
      have HB9 := Lib.hid (HB8.out.trans (b9.mono HB8.out.size))
      clear b9
      generalize hnm : blL l = nm at HME HBL
      have HNM := Lib.hid hnm
      clear hnm
      go_wp2_with fail
      go_loopg [133] k (fun gk iv wr => ∃ i : Nat, gk = k - i ∧ i ≤ k ∧ iv = .int .i64 i ∧ Hid (Below w.heap.size w wr))
      case atStart => exact ⟨0, by omega, Nat.zero_le _, rfl, HB9.out⟩
      case round =>
        obtain ⟨i, rfl, hi, rfl, HB⟩ := hrel
        by_cases hil : i < k
        · have s1 : IntKind.i64.wrap ((i : Int) + 1) = (i : Int) + 1 := IntWalk.i64_in _ (by omega)
          have s2 : ((i : Int) + 1).toNat = i + 1 := by omega
          have HJ := Lib.hid (fun W : World => by
            have := sjHas_any (tb nm) ((tb tr).extract i (i + 1)) W (by rw [tb_size]; exact HBL.out)
            rw [rt_mem (by rw [← HKR.out]; exact hil) (HME.out _ (List.getElem_mem _))] at this
            exact this)
          go_wp2_with fail
          refine (HJ.out _).mono ?_
          rintro e w' ⟨rfl, rfl⟩
          go_wp2_with fail
          go_roundg (k - (i + 1))
          case measure => omega
          case rel => exact ⟨i + 1, rfl, by omega, by go_num, HB.out⟩
        · obtain rfl : i = k := by omega
          have HBX := Lib.hid HB.out
          have HRF := Lib.hid (fun W => implRunText_any (frT false S) T W (by have := HSZ.out.2; omega))
          rw [← frP_tb] at HRF
          have HRL := Lib.hid (fun W => implRunText_any S (T ++ [108]) W (by have := HSZ.out.2; rw [List.length_append, List.length_singleton]; omega))
          rw [← morL_tb] at HRL
          clear hi hil
          go_wp2_with fail
          refine (HRF.out _).mono ?_
          rintro e w10 ⟨q1, hq1, he, b10⟩
          have HB10 := Lib.hid (HBX.out.trans (b10.mono HBX.out.size))
          clear b10
          have hfr := rt_frame HL.out HO.out hq1
          clear hq1
          have tail : ∀ (q1V : Value), (q1V = rtV none ∨ q1V = rtV (some o)) → e = .returned q1V → True := fun _ _ _ => trivial
          clear tail
          rcases hfr with hfr | hfr
          all_goals
            rw [hfr] at he
            subst he
            clear hfr
            have HUN := Lib.hid (implUsesNumber_any S)
            have g60 : (i : Int) ≤ 60 := by omega
            try rw [HRT.out]
            try unfold rtV
            go_wp2_with fail
            all_goals
              refine (HRL.out _).mono ?_
              rintro e w11 ⟨q2, hq2, rfl, b11⟩
              have HB11 := Lib.hid (HB10.out.trans (b11.mono HB10.out.size))
              have HQ2 := Lib.hid hq2
              clear b11 hq2
              have g0 : numB S = false → ((n : Int) == 0) = true := fun h => by
                have := rt_num HL.out HO.out h
                have h2 := HNN.out
                rw [this] at h2
                rw [← h2]; rfl
              have G0 := Lib.hid g0
              clear g0
              cases q2 with
              | none =>
                unfold rtV
                cases hnb : numB S with
                | true =>
                  rw [hnb] at HUN
                  clear hnb
                  go_wp2_with fail
                  refine (HUN.out _).mono ?_
                  rintro e w12 ⟨rfl, b12⟩
                  have HB12 := Lib.hid (HB11.out.trans (b12.mono HB11.out.size))
                  clear b12
                  go_wp2_with fail
                  go_ret
                  exact ⟨rfl, HB12.out⟩
                | false =>
                  have g0 := G0.out hnb
                  rw [hnb] at HUN
                  clear hnb
                  go_wp2_with fail
                  refine (HUN.out _).mono ?_
                  rintro e w12 ⟨rfl, b12⟩
                  have HB12 := Lib.hid (HB11.out.trans (b12.mono HB11.out.size))
                  clear b12
                  go_wp2_with fail
                  go_ret
                  exact ⟨rfl, HB12.out⟩
              | some o2 =>
                have hpre := rt_more HO.out HQ2.out
                rw [HTR.out] at hpre
                have hle := hpre.length_le
                rw [← HKR.out] at hle
                have hz2 : (tb o2.trace).size = o2.trace.length := tb_size _
                have g1 : ((i : Int) ≤ (o2.trace.length : Int)) := by omega
                have g2 : decide ((o2.trace.length : Int) < (i : Int)) = false := decide_eq_false (by omega)
                have g3 : (((tb o2.trace).extract 0 i).toList == (tb tr).toList) = true := by
                  rw [show (tb o2.trace).extract 0 i = tb (o2.trace.take i) by apply ba_ext; simp [tb], List.prefix_iff_eq_take.1 hpre, ← HKR.out]
                  simp
                clear hpre
                unfold rtV
                cases hnb : numB S with
                | true =>
                  rw [hnb] at HUN
                  clear hnb
                  go_wp2_with fail
                  refine (HUN.out _).mono ?_
                  rintro e w12 ⟨rfl, b12⟩
                  have HB12 := Lib.hid (HB11.out.trans (b12.mono HB11.out.size))
                  clear b12
                  go_wp2_with fail
                  go_ret
                  exact ⟨rfl, HB12.out⟩
                | false =>
                  have g0 := G0.out hnb
                  rw [hnb] at HUN
                  clear hnb
                  go_wp2_with fail
                  refine (HUN.out _).mono ?_
                  rintro e w12 ⟨rfl, b12⟩
                  have HB12 := Lib.hid (HB11.out.trans (b12.mono HB11.out.size))
                  clear b12
                  go_wp2_with fail
                  go_ret
                  exact ⟨rfl, HB12.out⟩
end Go.Proofs.Ytgkamcnbpiipoaa
