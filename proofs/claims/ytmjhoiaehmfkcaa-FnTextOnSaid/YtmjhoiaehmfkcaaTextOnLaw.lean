/-
  The law FnTextOn: with more choices a run of a text goes on.
-/
import Derived.Test.YtmjhoiaehmfkcaaDrawRunText
import Derived.Test.YtmjhoiaehmfkcaaRunEnds
import Derived.Test.YtmjhoiaehmfkcaaRunExt
namespace Go.Proofs.Ytmjhoiaehmfkcaa
open Go.RowKit Go.Sort
attribute [local go_sem] Oper.semAt_some

theorem tb_take (a : List UInt8) (i : Nat) (_ : i ≤ a.length) : (tb a).extract 0 i = tb (a.take i) := by
  apply ba_ext
  simp [tb]
theorem tb_eqB (a : List UInt8) : ((tb a).toList == (tb a).toList) = true := by simp

set_option maxRecDepth 100000 in
set_option maxHeartbeats 3200000 in
theorem textOn_walk (A : Option Addr) (len cap : Nat) (w : World) (hb : Bytes w A len) (hlc : len ≤ cap) (hl : cap ≤ 9223372036854775807) :
    Calls Try.prog 8 #[.slice A len cap] w fun e w' => e = .returned (.bool true) ∧ Below w.heap.size w w' := by
  by_cases hbig : 1048576 < len
  · have hbI : (1048576 : Int) < len := by omega
    clear hb hlc hl
    go_enter Try.func8, Try.ntmps8
    go_wp2_with fail
    go_ret
    exact ⟨rfl, Below.refl _ _⟩
  have HC := Lib.hid (drawRunText_any A len cap w hb hlc hl)
  have hbI : ¬ (1048576 : Int) < len := by omega
  clear hb
  go_enter Try.func8, Try.ntmps8
  go_wp2_with fail
  refine HC.out.mono ?_
  rintro e w1 ⟨s, t, rfl, hs, ht, b1⟩
  obtain ⟨S, rfl⟩ : ∃ S, s = tb S := ⟨_, (tb_of s).symm⟩
  obtain ⟨T, rfl⟩ : ∃ T, t = tb T := ⟨_, (tb_of t).symm⟩
  rw [tb_size] at hs ht
  have HB1 := Lib.hid b1
  have HR1 := Lib.hid (implRunText_any S T w1 (by omega))
  have HT := Lib.hid ht
  have HSS := Lib.hid hs
  clear b1 hs
  go_wp2_with fail
  refine HR1.out.mono ?_
  rintro e w2 ⟨o, hr, rfl, b2⟩
  have HO := Lib.hid hr
  have HB2 := Lib.hid (HB1.out.trans (b2.mono HB1.out.size))
  have HR2 := Lib.hid (specRunText_any S T w2 (by have := HSS.out; omega) (by omega))
  clear hr b2
  cases o with
  | none =>
    unfold rtV
    go_wp2_with fail
    refine HR2.out.mono ?_
    rintro e w3 ⟨o', hr', rfl, b3⟩
    obtain rfl := HO.out.uniq hr'
    have HB3 := Lib.hid (HB2.out.trans (b3.mono HB2.out.size))
    have t1 : (tb []).toList.isEmpty = true := by rw [tb_toList]; rfl
    clear hr' b3
    unfold rtV
    go_wp2_with fail
    go_ret
    exact ⟨rfl, HB3.out⟩
  | some o =>
    unfold rtV
    go_wp2_with fail
    refine HR2.out.mono ?_
    rintro e w3 ⟨o', hr', rfl, b3⟩
    obtain rfl := HO.out.uniq hr'
    have HB3 := Lib.hid (HB2.out.trans (b3.mono HB2.out.size))
    clear hr' b3
    unfold rtV
    have hzT : (tb T).size = T.length := tb_size T
    obtain ⟨n, hn⟩ : ∃ n, n = T.length := ⟨_, rfl⟩
    rw [← hn] at hzT ht
    have HN := Lib.hid hn
    clear hn
    go_wp2_with fail
    go_loopg [46] n (fun gk iv wr => ∃ i : Nat, gk = n - i ∧ i ≤ n ∧ iv = .int .i64 i ∧ Hid (Below w.heap.size w wr))
    case atStart => exact ⟨0, by omega, Nat.zero_le _, rfl, HB3.out⟩
    case round =>
      obtain ⟨i, rfl, hi, rfl, HB⟩ := hrel
      by_cases hil : i < n
      · have HTK := Lib.hid (tb_take T i (by have := HN.out; omega))
        have HR := Lib.hid (by have := implRunText_any S (T.take i) wr (by rw [List.length_take]; omega); rw [← tb_take T i (by have := HN.out; omega)] at this; exact this)
        go_wp2_with fail
        refine HR.out.mono ?_
        rintro e w4 ⟨q, hq, rfl, b4⟩
        obtain ⟨o1, rfl⟩ := ran_some i HO.out hq
        have hx := ran_take i HO.out hq
        have HB4 := Lib.hid (HB.out.trans (b4.mono HB.out.size))
        have HQ := Lib.hid hq
        have hz : (tb o.trace).size = o.trace.length := tb_size _
        have hz1 : (tb o1.trace).size = o1.trace.length := tb_size _
        have hle : o1.trace.length ≤ o.trace.length := hx.1.length_le
        have g1 : decide ((o.trace.length : Int) < (o1.trace.length : Int)) = false := decide_eq_false (by omega)
        have g2 : ¬ o.trace.length < o1.trace.length := by omega
        have g3 : (((tb o.trace).extract 0 o1.trace.length).toList == (tb o1.trace).toList) = true := by
          rw [tb_take _ _ hle, List.prefix_iff_eq_take.1 hx.1, List.length_take, Nat.min_eq_left hle]
          simp
        have HX := Lib.hid hx
        clear hx hq b4
        unfold rtV
        by_cases h1 : o1.code = 1
        · have g4 : ((o1.code : Int) == 1) = true := by simp; omega
          go_wp2_with fail
          go_roundg (n - (i + 1))
          case measure => omega
          case rel => exact ⟨i + 1, rfl, by omega, by go_num, HB4.out⟩
        · have g4 : ((o1.code : Int) == 1) = false := by simp; omega
          obtain ⟨e1, e2, e3⟩ := HX.out.2 h1
          have g5 : ((tb o1.trace).toList == (tb o.trace).toList) = true := by rw [e1]; exact tb_eqB _
          have g6 : ((o1.code : Int) == (o.code : Int)) = true := by rw [e2]; simp
          have g7 : ((o1.num : Int) == (o.num : Int)) = true := by rw [e3]; simp
          have g8 : ((o1.num : Int) != (o.num : Int)) = false := by rw [e3]; simp
          have HM1 := Lib.hid (by have := implNumberIn_any S (T.take i) w4 (by rw [List.length_take]; omega); rw [← tb_take T i (by have := HN.out; omega)] at this; exact this)
          clear e1 e2 e3
          go_wp2_with fail
          refine HM1.out.mono ?_
          rintro e w5 ⟨q1, hq1, rfl, b5⟩
          obtain rfl := HQ.out.uniq hq1
          have HB5 := Lib.hid (HB4.out.trans (b5.mono HB4.out.size))
          have HM2 := Lib.hid (implNumberIn_any S T w5 (by have := HN.out; omega))
          clear hq1 b5
          unfold niV
          go_wp2_with fail
          refine HM2.out.mono ?_
          rintro e w6 ⟨q2, hq2, rfl, b6⟩
          obtain rfl := HO.out.uniq hq2
          have HB6 := Lib.hid (HB5.out.trans (b6.mono HB5.out.size))
          clear hq2 b6
          unfold niV
          go_wp2_with fail
          go_roundg (n - (i + 1))
          case measure => omega
          case rel => exact ⟨i + 1, rfl, by omega, by go_num, HB6.out⟩
      · have hin : i = n := by omega
        clear hin
        go_wp2_with fail
        go_ret
        exact ⟨rfl, HB.out⟩
end Go.Proofs.Ytmjhoiaehmfkcaa
