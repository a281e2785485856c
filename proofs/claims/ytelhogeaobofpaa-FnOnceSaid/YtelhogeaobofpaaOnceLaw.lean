/-
  The law FnOnce: in a text with each block once all names differ, and behind itself it has them twice.
-/
import Derived.Test.YtelhogeaobofpaaTextLaws
namespace Go.Proofs.Ytelhogeaobofpaa
open Go.RowKit Go.Sort
attribute [local go_sem] Oper.semAt_some

set_option maxRecDepth 100000 in
set_option maxHeartbeats 3200000 in
theorem exFnOnce_walk (A : Option Addr) (len cap : Nat) (w : World) (hb : Bytes w A len) (hlc : len ≤ cap) (hl : cap ≤ 9223372036854775807) :
    Calls Try.prog 13 #[.slice A len cap] w fun e w' => e = .returned (.bool true) ∧ Below w.heap.size w w' := by
  by_cases hbig : 1048576 < len
  · have g0 : decide ((1048576 : Int) < len) = true := by simp; omega
    go_enter Try.func13, Try.ntmps13
    go_wp2_with fail
    go_ret
    exact ⟨rfl, Below.refl _ _⟩
  · have g0 : decide ((1048576 : Int) < len) = false := by simp; omega
    have HD := Lib.hid (drawEachOnce_any A len cap w hb hlc hl)
    clear hb
    go_enter Try.func13, Try.ntmps13
    go_wp2_with fail
    refine HD.out.mono ?_
    rintro e w1 ⟨s, rfl, hs, b1⟩
    have HB1 := Lib.hid b1
    have HI := Lib.hid (implOnce_text s)
    have HS := Lib.hid (fun W => specOnce_text s W (by omega))
    have HBL := Lib.hid (implBlocks_text s)
    clear b1
    cases hq : onceB s.data.toList with
    | false =>
      rw [hq] at HI HS
      clear hq
      go_wp2_with fail
      refine (HI.out w1).mono ?_
      rintro e w2 ⟨rfl, b2⟩
      have HB2 := Lib.hid (below_trans_self HB1.out b2)
      clear b2
      go_wp2_with fail
      refine (HS.out w2).mono ?_
      rintro e w3 ⟨rfl, b3⟩
      have HB3 := Lib.hid (below_trans_self HB2.out b3)
      clear b3
      go_wp2_with fail
      refine (HBL.out w3).mono ?_
      rintro e w4 ⟨rfl, b4⟩
      have HB4 := Lib.hid (below_trans_self HB3.out b4)
      clear b4
      cases htb : textB s.data.toList with
      | true =>
        go_wp2_with fail
        go_ret
        exact ⟨rfl, HB4.out⟩
      | false =>
        go_wp2_with fail
        go_ret
        exact ⟨rfl, HB4.out⟩
    | true =>
      have hg := onceB_get hq
      rw [hq] at HI HS
      obtain ⟨⟨l, hl1⟩, hnd⟩ := hg
      have htb := textB_ok hl1
      rw [htb] at HBL
      obtain ⟨nm, hnm⟩ : ∃ nm, nm = blocksV s.data.toList := ⟨_, rfl⟩
      rw [← hnm] at HBL hnd
      have hnl : nm.length ≤ 26 := by
        refine letters_few hnd ?_
        rw [hnm, blocksV_yes hl1]
        exact bl_letL l 0 hl1.2.1
      have HT : Hid ((s ++ s).size ≤ 200 → nm ≠ [] → ∀ W, Calls Try.prog 22 #[.string (s ++ s)] W fun e w' => e = .returned (.bool false) ∧ Below W.heap.size W w') := by
        intro h200 hne W
        have h1 := implOnce_text (s ++ s) W
        have h2 : onceB (s ++ s).data.toList = false := by
          refine onceB_dup fun hn => ?_
          rw [data_app, blocksV_yes (text_app hl1 hl1 (by rw [← data_app]; simpa using h200)), blL_append, ← blocksV_yes hl1, ← hnm] at hn
          have := (List.nodup_append.1 hn).2.2
          cases hx : nm with
          | nil => exact hne hx
          | cons a t => rw [hx] at this; exact this a (by simp) a (by simp) rfl
        rw [h2] at h1
        exact h1
      have HND := Lib.hid hnd
      have hz : (tb nm).size = nm.length := tb_size nm
      clear hq hl1 htb hnm hnd
      go_wp2_with fail
      refine (HI.out w1).mono ?_
      rintro e w2 ⟨rfl, b2⟩
      have HB2 := Lib.hid (below_trans_self HB1.out b2)
      clear b2
      go_wp2_with fail
      refine (HS.out w2).mono ?_
      rintro e w3 ⟨rfl, b3⟩
      have HB3 := Lib.hid (below_trans_self HB2.out b3)
      clear b3
      go_wp2_with fail
      refine (HBL.out w3).mono ?_
      rintro e w4 ⟨rfl, b4⟩
      have HB4 := Lib.hid (below_trans_self HB3.out b4)
      clear b4
      go_wp2_with fail
      go_loopg [35] nm.length (fun gk iv wr => ∃ i : Nat, gk = nm.length - i ∧ i ≤ nm.length ∧ iv = .int .i64 i ∧ Hid (Below w.heap.size w wr))
      case atStart => exact ⟨0, by omega, Nat.zero_le _, rfl, HB4.out⟩
      case round =>
        obtain ⟨i, rfl, hi, rfl, HB⟩ := hrel
        by_cases hil : i < nm.length
        · have tC : ∀ n, Calls Try.prog 31 #[.string ((tb nm).extract (i + 1) nm.length), .string ((tb nm).extract i (i + 1))] (wr.drewN n) fun e w'' => e = .returned (.bool false) ∧ ∃ m, w'' = wr.drewN m := fun n => by
            have := sjHas_any ((tb nm).extract (i + 1) nm.length) ((tb nm).extract i (i + 1)) (wr.drewN n) (by rw [ByteArray.size_extract]; omega)
            rw [names_none HND.out hil] at this
            exact Calls.quiet_of_same (this.mono fun _ _ ⟨a, b⟩ => ⟨a, b.symm⟩)
          have s1 : IntKind.i64.wrap ((i : Int) + 1) = (i : Int) + 1 := IntWalk.i64_in _ (by omega)
          have s2 : ((i : Int) + 1).toNat = i + 1 := by omega
          go_wp2_with fail
          go_quiet (with_reducible exact tC _)
          clear tC
          go_wp2_with fail
          go_roundg (nm.length - (i + 1))
          case measure => omega
          case rel => exact ⟨i + 1, rfl, by omega, by go_num, HB.out.trans ((count_drewN _ nq).mono HB.out.size)⟩
        · by_cases hne : nm = []
          · subst hne
            have gz : (tb []).toList.isEmpty = true := by rw [tb_toList]; rfl
            go_wp2_with fail
            go_ret
            exact ⟨rfl, HB.out⟩
          · have gz : (tb nm).toList.isEmpty = false := by
              rw [tb_toList]
              cases nm with
              | nil => exact absurd rfl hne
              | cons a t => rfl
            by_cases h200 : s.size + s.size ≤ 200
            · have HT2 := Lib.hid (HT.out (by rw [ByteArray.size_append]; exact h200) hne)
              clear hne
              go_wp2_with fail
              refine (HT2.out wr).mono ?_
              rintro e w5 ⟨rfl, b5⟩
              have HB5 := Lib.hid (below_trans_self HB.out b5)
              clear b5
              go_wp2_with fail
              go_ret
              exact ⟨rfl, HB5.out⟩
            · clear hne
              go_wp2_with fail
              go_ret
              exact ⟨rfl, HB.out⟩
end Go.Proofs.Ytelhogeaobofpaa
