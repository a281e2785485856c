/-
  The law FnDot: a text with a stop behind it does what it does.
-/
import Derived.Test.YtgkamcnbpiipoaaDrawRunText
import Derived.Test.YtgkamcnbpiipoaaRunText
import Derived.Test.YtgkamcnbpiipoaaMRunText
import Derived.Test.YtgkamcnbpiipoaaShiftRun
namespace Go.Proofs.Ytgkamcnbpiipoaa
open Go.RowKit Go.Sort
attribute [local go_sem] Oper.semAt_some

set_option maxRecDepth 100000 in
theorem drawNumberIn_any (A : Option Addr) (len cap : Nat) (w : World) (hb : Bytes w A len) (hlc : len ≤ cap) (hl : cap ≤ 9223372036854775807) :
    Calls Try.prog 21 #[.slice A len cap] w (DrawnTC w) := by
  have HC := Lib.hid (drawRunText_any A len cap w hb hlc hl)
  clear hb
  go_enter Try.func21, Try.ntmps21
  go_wp2_with fail
  refine HC.out.mono ?_
  rintro e w1 ⟨s, t, rfl, hs, ht, b1⟩
  have HB := Lib.hid b1
  clear b1
  go_wp2_with fail
  exact bodyPost_ret (v := .tuple #[.string s, .string t]) (by simp [results, Try.results21, go_sem]) rfl ⟨s, t, rfl, hs, ht, HB.out⟩

theorem dot_tb (s : List UInt8) : tb s ++ (⟨#[46, 65]⟩ : ByteArray) = tb (s ++ [46, 65]) := by
  apply ba_ext
  rw [tb_data, ByteArray.data_append, Array.toList_append, tb_data]
theorem dot_valid (s : List UInt8) (w : World) : Calls Try.prog 22 #[.string (tb s)] w fun e w' => e = .returned (.bool (textB s)) ∧ Below w.heap.size w w' := by
  have h := implValid_text (tb s) w; rw [tb_data] at h; exact h
theorem dot_eq (a : List UInt8) : ((tb a).toList == (tb a).toList) = true := by simp

set_option maxRecDepth 100000 in
set_option maxHeartbeats 3200000 in
theorem dot_walk (A : Option Addr) (len cap : Nat) (w : World) (hb : Bytes w A len) (hlc : len ≤ cap) (hl : cap ≤ 9223372036854775807) :
    Calls Try.prog 4 #[.slice A len cap] w fun e w' => e = .returned (.bool true) ∧ Below w.heap.size w w' := by
  by_cases hbig : 1048576 < len
  · have hbI : (1048576 : Int) < len := by omega
    clear hb hlc hl
    go_enter Try.func4, Try.ntmps4
    go_wp2_with fail
    go_ret
    exact ⟨rfl, Below.refl _ _⟩
  have HC := Lib.hid (drawNumberIn_any A len cap w hb hlc hl)
  have hbI : ¬ (1048576 : Int) < len := by omega
  clear hb
  go_enter Try.func4, Try.ntmps4
  go_wp2_with fail
  refine HC.out.mono ?_
  rintro e w1 ⟨s, t, rfl, hs, ht, b1⟩
  obtain ⟨S, rfl⟩ : ∃ S, s = tb S := ⟨_, (tb_of s).symm⟩
  obtain ⟨T, rfl⟩ : ∃ T, t = tb T := ⟨_, (tb_of t).symm⟩
  have hzS : (tb S).size ≤ 202 := hs
  rw [tb_size] at hs ht
  have HB1 := Lib.hid b1
  have HSZ := Lib.hid (And.intro hs ht)
  have HV := Lib.hid (dot_valid S)
  have HVD := Lib.hid (dot_valid (S ++ [46, 65]))
  have HNI := Lib.hid (fun W => implNumberIn_any S T W (by omega))
  have HNS := Lib.hid (fun W => specNumberIn_any S T W (by omega) (by omega))
  clear b1 hs ht
  go_wp2_with fail
  refine (HNI.out _).mono ?_
  rintro e w2 ⟨o, hr, rfl, b2⟩
  have HO := Lib.hid hr
  have HB2 := Lib.hid (HB1.out.trans (b2.mono HB1.out.size))
  clear b2 hr
  obtain ⟨n, hn⟩ : ∃ n : Int, niV o = .int .i64 n := by cases o <;> exact ⟨_, rfl⟩
  rw [hn]
  have HNV := Lib.hid hn
  clear hn
  have gn : (n != n) = false := by simp
  have gn1 : (n == n) = true := by simp
  go_wp2_with fail
  refine (HNS.out _).mono ?_
  rintro e w3 ⟨o', hr', he, b3⟩
  obtain rfl := HO.out.uniq hr'
  rw [HNV.out] at he
  subst he
  have HB3 := Lib.hid (HB2.out.trans (b3.mono HB2.out.size))
  clear b3 hr'
  cases hv : textB S with
  | false =>
    rw [hv] at HV
    clear hv
    go_wp2_with fail
    refine (HV.out _).mono ?_
    rintro e w4 ⟨rfl, b4⟩
    have HB4 := Lib.hid (HB3.out.trans (b4.mono HB3.out.size))
    clear b4
    go_wp2_with fail
    refine (HNS.out _).mono ?_
    rintro e w5 ⟨o', hr', he, b5⟩
    obtain rfl := HO.out.uniq hr'
    rw [HNV.out] at he
    subst he
    have HB5 := Lib.hid (HB4.out.trans (b5.mono HB4.out.size))
    clear b5 hr'
    go_wp2_with fail
    go_ret
    exact ⟨rfl, HB5.out⟩
  | true =>
    rw [hv] at HV
    have HTX := Lib.hid hv
    clear hv
    cases hv2 : textB (S ++ [46, 65]) with
    | false =>
      rw [hv2, ← dot_tb] at HVD
      clear hv2
      go_wp2_with fail
      refine (HV.out _).mono ?_
      rintro e w4 ⟨rfl, b4⟩
      have HB4 := Lib.hid (HB3.out.trans (b4.mono HB3.out.size))
      clear b4
      go_wp2_with fail
      refine (HVD.out _).mono ?_
      rintro e w5 ⟨rfl, b5⟩
      have HB5 := Lib.hid (HB4.out.trans (b5.mono HB4.out.size))
      clear b5
      go_wp2_with fail
      refine (HNS.out _).mono ?_
      rintro e w6 ⟨o', hr', he, b6⟩
      obtain rfl := HO.out.uniq hr'
      rw [HNV.out] at he
      subst he
      have HB6 := Lib.hid (HB5.out.trans (b6.mono HB5.out.size))
      clear b6 hr'
      go_wp2_with fail
      go_ret
      exact ⟨rfl, HB6.out⟩
    | true =>
      obtain ⟨l, hl1⟩ := textB_get HTX.out
      obtain ⟨l2, hl2⟩ := textB_get hv2
      have HL := Lib.hid (And.intro hl1 hl2)
      rw [hv2, ← dot_tb] at HVD
      clear hv2 hl1 hl2
      have HR1 := Lib.hid (fun W => implRunText_any S T W (by have := HSZ.out.2; omega))
      have HR2 := Lib.hid (fun W => implRunText_any (S ++ [46, 65]) T W (by have := HSZ.out.2; omega))
      have HN2 := Lib.hid (fun W => implNumberIn_any (S ++ [46, 65]) T W (by have := HSZ.out.2; omega))
      rw [← dot_tb] at HR2 HN2
      go_wp2_with fail
      refine (HV.out _).mono ?_
      rintro e w4 ⟨rfl, b4⟩
      have HB4 := Lib.hid (HB3.out.trans (b4.mono HB3.out.size))
      clear b4
      go_wp2_with fail
      refine (HVD.out _).mono ?_
      rintro e w5 ⟨rfl, b5⟩
      have HB5 := Lib.hid (HB4.out.trans (b5.mono HB4.out.size))
      clear b5
      go_wp2_with fail
      refine (HR1.out _).mono ?_
      rintro e w6 ⟨o', hr', he, b6⟩
      obtain rfl := HO.out.uniq hr'
      subst he
      have HB6 := Lib.hid (HB5.out.trans (b6.mono HB5.out.size))
      clear b6 hr'
      cases o with
      | none =>
        unfold rtV
        go_wp2_with fail
        refine (HR2.out _).mono ?_
        rintro e w7 ⟨o2, hr2, he, b7⟩
        rw [(dot_vals HL.out.1 HL.out.2 HO.out hr2).1] at he
        subst he
        have HB7 := Lib.hid (HB6.out.trans (b7.mono HB6.out.size))
        have te := dot_eq ([] : List UInt8)
        clear b7 hr2
        unfold rtV
        go_wp2_with fail
        go_ret
        exact ⟨rfl, HB7.out⟩
      | some o =>
        unfold rtV
        go_wp2_with fail
        refine (HR2.out _).mono ?_
        rintro e w7 ⟨o2, hr2, he, b7⟩
        rw [(dot_vals HL.out.1 HL.out.2 HO.out hr2).1] at he
        subst he
        have HB7 := Lib.hid (HB6.out.trans (b7.mono HB6.out.size))
        have te := dot_eq o.trace
        have tc : ((o.code : Int) == (o.code : Int)) = true := by simp
        clear b7 hr2
        unfold rtV
        go_wp2_with fail
        refine (HN2.out _).mono ?_
        rintro e w8 ⟨o3, hr3, he, b8⟩
        rw [(dot_vals HL.out.1 HL.out.2 HO.out hr3).2, HNV.out] at he
        subst he
        have HB8 := Lib.hid (HB7.out.trans (b8.mono HB7.out.size))
        clear b8 hr3
        go_wp2_with fail
        go_ret
        exact ⟨rfl, HB8.out⟩
end Go.Proofs.Ytgkamcnbpiipoaa
