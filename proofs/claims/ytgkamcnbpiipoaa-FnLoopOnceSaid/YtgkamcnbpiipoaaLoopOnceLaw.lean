/-
  The law FnLoopOnce: a text within a frame of either kind does what it does.
-/
import Derived.Test.YtgkamcnbpiipoaaDrawRunText
import Derived.Test.YtgkamcnbpiipoaaRunText
import Derived.Test.YtgkamcnbpiipoaaShiftRun
namespace Go.Proofs.Ytgkamcnbpiipoaa
open Go.RowKit Go.Sort
attribute [local go_sem] Oper.semAt_some

theorem frA_tb (s : List UInt8) : (⟨#[40]⟩ : ByteArray) ++ tb s ++ ⟨#[41]⟩ = tb (frT false s) := by
  apply ba_ext
  rw [tb_data, ByteArray.data_append, Array.toList_append, ByteArray.data_append, Array.toList_append, tb_data]; rfl
theorem frB_tb (s : List UInt8) : (⟨#[123]⟩ : ByteArray) ++ tb s ++ ⟨#[125]⟩ = tb (frT true s) := by
  apply ba_ext
  rw [tb_data, ByteArray.data_append, Array.toList_append, ByteArray.data_append, Array.toList_append, tb_data]; rfl
theorem implValid_tb (s : List UInt8) (w : World) : Calls Try.prog 22 #[.string (tb s)] w fun e w' => e = .returned (.bool (textB s)) ∧ Below w.heap.size w w' := by
  have h := implValid_text (tb s) w; rw [tb_data] at h; exact h
theorem specValid_tb (s : List UInt8) (w : World) (hs : s.length ≤ 1048576) : Calls Try.prog 23 #[.string (tb s)] w fun e w' => e = .returned (.bool (textB s)) ∧ Below w.heap.size w w' := by
  have h := specValid_text (tb s) w (by rw [tb_size]; exact hs); rw [tb_data] at h; exact h
theorem tbl_eq (a : List UInt8) : ((tb a).toList == (tb a).toList) = true := by simp

set_option maxRecDepth 100000 in
set_option maxHeartbeats 3200000 in
theorem loopOnce_walk (A : Option Addr) (len cap : Nat) (w : World) (hb : Bytes w A len) (hlc : len ≤ cap) (hl : cap ≤ 9223372036854775807) :
    Calls Try.prog 5 #[.slice A len cap] w fun e w' => e = .returned (.bool true) ∧ Below w.heap.size w w' := by
  by_cases hbig : 1048576 < len
  · have hbI : (1048576 : Int) < len := by omega
    clear hb hlc hl
    go_enter Try.func5, Try.ntmps5
    go_wp2_with fail
    go_ret
    exact ⟨rfl, Below.refl _ _⟩
  have HC := Lib.hid (drawRunText_any A len cap w hb hlc hl)
  have hbI : ¬ (1048576 : Int) < len := by omega
  clear hb
  go_enter Try.func5, Try.ntmps5
  go_wp2_with fail
  refine HC.out.mono ?_
  rintro e w1 ⟨s, t, rfl, hs, ht, b1⟩
  obtain ⟨S, rfl⟩ : ∃ S, s = tb S := ⟨_, (tb_of s).symm⟩
  obtain ⟨T, rfl⟩ : ∃ T, t = tb T := ⟨_, (tb_of t).symm⟩
  have hzS : (tb S).size ≤ 202 := hs
  rw [tb_size] at hs ht
  have HB1 := Lib.hid b1
  have HSZ := Lib.hid (And.intro hs ht)
  have HV := Lib.hid (implValid_tb S)
  have HVS := Lib.hid (fun W => specValid_tb S W (by omega))
  have HVL := Lib.hid (implValid_tb (frT true S))
  clear b1 hs ht
  cases hv : textB S with
  | false =>
    rw [hv] at HV HVS
    clear hv
    go_wp2_with fail
    refine (HV.out _).mono ?_
    rintro e w2 ⟨rfl, b2⟩
    have HB2 := Lib.hid (HB1.out.trans (b2.mono HB1.out.size))
    clear b2
    go_wp2_with fail
    refine (HVS.out _).mono ?_
    rintro e w3 ⟨rfl, b3⟩
    have HB3 := Lib.hid (HB2.out.trans (b3.mono HB2.out.size))
    clear b3
    go_wp2_with fail
    refine (HV.out _).mono ?_
    rintro e w4 ⟨rfl, b4⟩
    have HB4 := Lib.hid (HB3.out.trans (b4.mono HB3.out.size))
    clear b4
    go_wp2_with fail
    go_ret
    exact ⟨rfl, HB4.out⟩
  | true =>
    rw [hv] at HV HVS
    have HTX := Lib.hid hv
    clear hv
    cases hv2 : textB (frT true S) with
    | false =>
      rw [hv2, ← frB_tb] at HVL
      clear hv2
      go_wp2_with fail
      refine (HV.out _).mono ?_
      rintro e w2 ⟨rfl, b2⟩
      have HB2 := Lib.hid (HB1.out.trans (b2.mono HB1.out.size))
      clear b2
      go_wp2_with fail
      refine (HVS.out _).mono ?_
      rintro e w3 ⟨rfl, b3⟩
      have HB3 := Lib.hid (HB2.out.trans (b3.mono HB2.out.size))
      clear b3
      go_wp2_with fail
      refine (HV.out _).mono ?_
      rintro e w4 ⟨rfl, b4⟩
      have HB4 := Lib.hid (HB3.out.trans (b4.mono HB3.out.size))
      clear b4
      go_wp2_with fail
      refine (HVL.out _).mono ?_
      rintro e w5 ⟨rfl, b5⟩
      have HB5 := Lib.hid (HB4.out.trans (b5.mono HB4.out.size))
      clear b5
      go_wp2_with fail
      go_ret
      exact ⟨rfl, HB5.out⟩
    | true =>
      obtain ⟨l, hl1⟩ := textB_get HTX.out
      obtain ⟨l2, hl2⟩ := textB_get hv2
      obtain ⟨l3, hl3⟩ := frT_both true false hl1 hl2
      have HL := Lib.hid (And.intro hl1 (And.intro hl2 hl3))
      rw [hv2, ← frB_tb] at HVL
      clear hv2 hl1 hl2 hl3
      have HR1 := Lib.hid (fun W => implRunText_any S T W (by have := HSZ.out.2; omega))
      have HR2 := Lib.hid (fun W => implRunText_any (frT true S) T W (by have := HSZ.out.2; omega))
      have HR3 := Lib.hid (fun W => implRunText_any (frT false S) T W (by have := HSZ.out.2; omega))
      rw [← frB_tb] at HR2
      rw [← frA_tb] at HR3
      go_wp2_with fail
      refine (HV.out _).mono ?_
      rintro e w2 ⟨rfl, b2⟩
      have HB2 := Lib.hid (HB1.out.trans (b2.mono HB1.out.size))
      clear b2
      go_wp2_with fail
      refine (HVS.out _).mono ?_
      rintro e w3 ⟨rfl, b3⟩
      have HB3 := Lib.hid (HB2.out.trans (b3.mono HB2.out.size))
      clear b3
      go_wp2_with fail
      refine (HV.out _).mono ?_
      rintro e w4 ⟨rfl, b4⟩
      have HB4 := Lib.hid (HB3.out.trans (b4.mono HB3.out.size))
      clear b4
      go_wp2_with fail
      refine (HVL.out _).mono ?_
      rintro e w5 ⟨rfl, b5⟩
      have HB5 := Lib.hid (HB4.out.trans (b5.mono HB4.out.size))
      clear b5
      go_wp2_with fail
      refine (HR1.out _).mono ?_
      rintro e w6 ⟨o, hr, rfl, b6⟩
      have HB6 := Lib.hid (HB5.out.trans (b6.mono HB5.out.size))
      have HO := Lib.hid hr
      clear b6 hr
      cases o with
      | none =>
        unfold rtV
        go_wp2_with fail
        refine (HR2.out _).mono ?_
        rintro e w7 ⟨o2, hr2, he, b7⟩
        rw [frame_rtV true HL.out.1 HL.out.2.1 HO.out hr2] at he
        subst he
        have HB7 := Lib.hid (HB6.out.trans (b7.mono HB6.out.size))
        clear b7 hr2
        unfold rtV
        go_wp2_with fail
        refine (HR3.out _).mono ?_
        rintro e w8 ⟨o3, hr3, he, b8⟩
        rw [frame_rtV false HL.out.1 HL.out.2.2 HO.out hr3] at he
        subst he
        have HB8 := Lib.hid (HB7.out.trans (b8.mono HB7.out.size))
        have te := tbl_eq ([] : List UInt8)
        clear b8 hr3
        unfold rtV
        go_wp2_with fail
        go_ret
        exact ⟨rfl, HB8.out⟩
      | some o =>
        unfold rtV
        go_wp2_with fail
        refine (HR2.out _).mono ?_
        rintro e w7 ⟨o2, hr2, he, b7⟩
        rw [frame_rtV true HL.out.1 HL.out.2.1 HO.out hr2] at he
        subst he
        have HB7 := Lib.hid (HB6.out.trans (b7.mono HB6.out.size))
        clear b7 hr2
        unfold rtV
        go_wp2_with fail
        refine (HR3.out _).mono ?_
        rintro e w8 ⟨o3, hr3, he, b8⟩
        rw [frame_rtV false HL.out.1 HL.out.2.2 HO.out hr3] at he
        subst he
        have HB8 := Lib.hid (HB7.out.trans (b8.mono HB7.out.size))
        have te := tbl_eq o.trace
        have tc : ((o.code : Int) == (o.code : Int)) = true := by simp
        clear b8 hr3
        unfold rtV
        go_wp2_with fail
        go_ret
        exact ⟨rfl, HB8.out⟩
end Go.Proofs.Ytgkamcnbpiipoaa
