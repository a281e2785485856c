/-
  The law FnBehind: texts one behind the other are a text, with all that both have.
-/
import Derived.Test.YtelhogeaobofpaaTextLaws
namespace Go.Proofs.Ytelhogeaobofpaa
open Go.RowKit Go.Sort
attribute [local go_sem] Oper.semAt_some

theorem cnL_le (x : UInt8) (l : List It) : cnL x l ≤ (txL l).length := by
  rw [← cn_flL]
  exact Nat.le_trans (List.countP_le_length ..) (flL_length l)

set_option maxRecDepth 100000 in
set_option maxHeartbeats 6400000 in
theorem exFnBehind_walk (A : Option Addr) (len cap : Nat) (A' : Option Addr) (len' cap' : Nat) (w : World) (hb : Bytes w A len) (hlc : len ≤ cap) (hl : cap ≤ 9223372036854775807) (hb' : Bytes w A' len') (hlc' : len' ≤ cap') (hl' : cap' ≤ 9223372036854775807) :
    Calls Try.prog 10 #[.slice A len cap, .slice A' len' cap'] w fun e w' => e = .returned (.bool true) ∧ Below w.heap.size w w' := by
  by_cases hbig : 1048576 < len
  · have g0 : decide ((1048576 : Int) < len) = true := by simp; omega
    go_enter Try.func10, Try.ntmps10
    go_wp2_with fail
    go_ret
    exact ⟨rfl, Below.refl _ _⟩
  · have g0 : decide ((1048576 : Int) < len) = false := by simp; omega
    by_cases hbig' : 1048576 < len'
    · have g0' : decide ((1048576 : Int) < len') = true := by simp; omega
      go_enter Try.func10, Try.ntmps10
      go_wp2_with fail
      go_ret
      exact ⟨rfl, Below.refl _ _⟩
    · have g0' : decide ((1048576 : Int) < len') = false := by simp; omega
      have HD := Lib.hid (drawBlocksIn_any A len cap w hb hlc hl)
      have HBY := Lib.hid hb'
      clear hb hb'
      go_enter Try.func10, Try.ntmps10
      go_wp2_with fail
      refine HD.out.mono ?_
      rintro e w1 ⟨s, rfl, hs, b1⟩
      have HB1 := Lib.hid b1
      have HD2 := Lib.hid (fun (W : World) (h : Below w.heap.size w W) => drawFramesIn_any A' len' cap' W (HBY.out.below h) hlc' hl')
      clear b1
      have HD2' := Lib.hid (HD2.out w1 HB1.out)
      clear HD2
      go_wp2_with fail
      refine HD2'.out.mono ?_
      rintro e w2 ⟨t, rfl, ht, b2⟩
      have HB2 := Lib.hid (below_trans_self HB1.out b2)
      clear b2
      have VA := Lib.hid (implValid_text s)
      have VB := Lib.hid (implValid_text t)
      have SB := Lib.hid (fun W => specValid_text t W (by omega))
      cases ha : textB s.data.toList with
      | false =>
        rw [ha] at VA
        generalize textB t.data.toList = vb at VB SB
        clear ha
        go_wp2_with fail
        refine (VA.out w2).mono ?_
        rintro e w3 ⟨rfl, b3⟩
        have HB3 := Lib.hid (below_trans_self HB2.out b3)
        clear b3
        go_wp2_with fail
        refine (VB.out w3).mono ?_
        rintro e w4 ⟨rfl, b4⟩
        have HB4 := Lib.hid (below_trans_self HB3.out b4)
        clear b4
        go_wp2_with fail
        refine (SB.out w4).mono ?_
        rintro e w5 ⟨rfl, b5⟩
        have HB5 := Lib.hid (below_trans_self HB4.out b5)
        clear b5
        go_wp2_with fail
        go_ret
        exact ⟨rfl, HB5.out⟩
      | true =>
        cases hv : textB t.data.toList with
        | false =>
          rw [ha] at VA
          rw [hv] at VB SB
          clear ha hv
          go_wp2_with fail
          refine (VA.out w2).mono ?_
          rintro e w3 ⟨rfl, b3⟩
          have HB3 := Lib.hid (below_trans_self HB2.out b3)
          clear b3
          go_wp2_with fail
          refine (VB.out w3).mono ?_
          rintro e w4 ⟨rfl, b4⟩
          have HB4 := Lib.hid (below_trans_self HB3.out b4)
          clear b4
          go_wp2_with fail
          refine (VB.out w4).mono ?_
          rintro e w5 ⟨rfl, b5⟩
          have HB5 := Lib.hid (below_trans_self HB4.out b5)
          clear b5
          go_wp2_with fail
          refine (SB.out w5).mono ?_
          rintro e w6 ⟨rfl, b6⟩
          have HB6 := Lib.hid (below_trans_self HB5.out b6)
          clear b6
          go_wp2_with fail
          go_ret
          exact ⟨rfl, HB6.out⟩
        | true =>
          by_cases h200 : s.size + t.size ≤ 200
          · obtain ⟨l, hl1⟩ := textB_get ha
            obtain ⟨k, hk1⟩ := textB_get hv
            have hn : (s.data.toList ++ t.data.toList).length ≤ 200 := by rw [List.length_append]; simpa using h200
            have hlk := text_app hl1 hk1 hn
            rw [ha] at VA
            rw [hv] at VB SB
            have VZ := Lib.hid (implValid_text (s ++ t))
            rw [data_app, textB_ok hlk] at VZ
            have BA := Lib.hid (implBlocks_text s)
            rw [ha, blocksV_yes hl1] at BA
            have BB := Lib.hid (implBlocks_text t)
            rw [hv, blocksV_yes hk1] at BB
            have BZ := Lib.hid (implBlocks_text (s ++ t))
            rw [data_app, textB_ok hlk, blocksV_yes hlk, blL_append, ← tb_append] at BZ
            have FA := Lib.hid (implFrames_text s)
            rw [framesZ_yes hl1] at FA
            have FB := Lib.hid (implFrames_text t)
            rw [framesZ_yes hk1] at FB
            have FZ := Lib.hid (implFrames_text (s ++ t))
            rw [data_app, framesZ_yes hlk, dpL_append, show ((max (dpL l) (dpL k) : Nat) : Int) = max (dpL l : Int) (dpL k : Int) by omega] at FZ
            have LA := Lib.hid (implLeaves_text s)
            rw [countZ_yes hl1 rfl (by decide)] at LA
            have LB := Lib.hid (implLeaves_text t)
            rw [countZ_yes hk1 rfl (by decide)] at LB
            have LZ := Lib.hid (implLeaves_text (s ++ t))
            rw [data_app, countZ_yes hlk rfl (by decide), cnL_append, show ((cnL 94 l + cnL 94 k : Nat) : Int) = (cnL 94 l : Int) + (cnL 94 k : Int) by omega] at LZ
            have RA := Lib.hid (implFar_text s)
            rw [farZ_yes hl1] at RA
            have RB := Lib.hid (implFar_text t)
            rw [farZ_yes hk1] at RB
            have RZ := Lib.hid (implFar_text (s ++ t))
            rw [data_app, farZ_yes hlk, faL_append, show ((max (faL l) (faL k) : Nat) : Int) = max (faL l : Int) (faL k : Int) by omega] at RZ
            have m1 : cnL 94 l ≤ 200 := by have := cnL_le 94 l; have h2 := hl1.1; rw [hl1.2.2] at h2; omega
            have m2 : cnL 94 k ≤ 200 := by have := cnL_le 94 k; have h2 := hk1.1; rw [hk1.2.2] at h2; omega
            have z1 : (tb (blL l)).size ≤ 200 := by rw [tb_size, ← blocksV_yes hl1]; exact blV_len
            have z2 : (tb (blL k)).size ≤ 200 := by rw [tb_size, ← blocksV_yes hk1]; exact blV_len
            generalize tb (blL l) = xa at *
            generalize tb (blL k) = xb at *
            generalize cnL 94 l = ma at *
            generalize cnL 94 k = mb at *
            generalize dpL l = da at *
            generalize dpL k = db at *
            generalize faL l = fa at *
            generalize faL k = fb at *
            have s1 : IntKind.i64.wrap ((ma : Int) + (mb : Int)) = (ma : Int) + (mb : Int) := IntWalk.i64_in _ (by omega)
            clear hlk hn hl1 hk1 ha hv
            go_wp2_with fail
            refine (VA.out w2).mono ?_
            rintro e w3 ⟨rfl, b3⟩
            have HB3 := Lib.hid (below_trans_self HB2.out b3)
            clear b3
            go_wp2_with fail
            refine (VB.out w3).mono ?_
            rintro e w4 ⟨rfl, b4⟩
            have HB4 := Lib.hid (below_trans_self HB3.out b4)
            clear b4
            go_wp2_with fail
            refine (BA.out w4).mono ?_
            rintro e w5 ⟨rfl, b5⟩
            have HB5 := Lib.hid (below_trans_self HB4.out b5)
            clear b5
            go_wp2_with fail
            refine (BB.out w5).mono ?_
            rintro e w6 ⟨rfl, b6⟩
            have HB6 := Lib.hid (below_trans_self HB5.out b6)
            clear b6
            go_wp2_with fail
            refine (BZ.out w6).mono ?_
            rintro e w7 ⟨rfl, b7⟩
            have HB7 := Lib.hid (below_trans_self HB6.out b7)
            clear b7
            go_wp2_with fail
            refine (VZ.out w7).mono ?_
            rintro e w8 ⟨rfl, b8⟩
            have HB8 := Lib.hid (below_trans_self HB7.out b8)
            clear b8
            go_wp2_with fail
            refine (FZ.out w8).mono ?_
            rintro e w9 ⟨rfl, b9⟩
            have HB9 := Lib.hid (below_trans_self HB8.out b9)
            clear b9
            go_wp2_with fail
            refine (FA.out w9).mono ?_
            rintro e w10 ⟨rfl, b10⟩
            have HB10 := Lib.hid (below_trans_self HB9.out b10)
            clear b10
            go_wp2_with fail
            refine (FB.out w10).mono ?_
            rintro e w11 ⟨rfl, b11⟩
            have HB11 := Lib.hid (below_trans_self HB10.out b11)
            clear b11
            go_wp2_with fail
            refine (LZ.out w11).mono ?_
            rintro e w12 ⟨rfl, b12⟩
            have HB12 := Lib.hid (below_trans_self HB11.out b12)
            clear b12
            go_wp2_with fail
            refine (LA.out w12).mono ?_
            rintro e w13 ⟨rfl, b13⟩
            have HB13 := Lib.hid (below_trans_self HB12.out b13)
            clear b13
            go_wp2_with fail
            refine (LB.out w13).mono ?_
            rintro e w14 ⟨rfl, b14⟩
            have HB14 := Lib.hid (below_trans_self HB13.out b14)
            clear b14
            go_wp2_with fail
            refine (RZ.out w14).mono ?_
            rintro e w15 ⟨rfl, b15⟩
            have HB15 := Lib.hid (below_trans_self HB14.out b15)
            clear b15
            go_wp2_with fail
            refine (RA.out w15).mono ?_
            rintro e w16 ⟨rfl, b16⟩
            have HB16 := Lib.hid (below_trans_self HB15.out b16)
            clear b16
            go_wp2_with fail
            refine (RB.out w16).mono ?_
            rintro e w17 ⟨rfl, b17⟩
            have HB17 := Lib.hid (below_trans_self HB16.out b17)
            clear b17
            go_wp2_with fail
            go_ret
            exact ⟨rfl, HB17.out⟩
          · rw [ha] at VA
            rw [hv] at VB SB
            have g2 : decide ((200 : Int) < (s.size : Int) + t.size) = true := decide_eq_true (by omega)
            clear ha hv
            go_wp2_with fail
            refine (VA.out w2).mono ?_
            rintro e w3 ⟨rfl, b3⟩
            have HB3 := Lib.hid (below_trans_self HB2.out b3)
            clear b3
            go_wp2_with fail
            refine (VB.out w3).mono ?_
            rintro e w4 ⟨rfl, b4⟩
            have HB4 := Lib.hid (below_trans_self HB3.out b4)
            clear b4
            go_wp2_with fail
            refine (VB.out w4).mono ?_
            rintro e w5 ⟨rfl, b5⟩
            have HB5 := Lib.hid (below_trans_self HB4.out b5)
            clear b5
            go_wp2_with fail
            refine (SB.out w5).mono ?_
            rintro e w6 ⟨rfl, b6⟩
            have HB6 := Lib.hid (below_trans_self HB5.out b6)
            clear b6
            go_wp2_with fail
            go_ret
            exact ⟨rfl, HB6.out⟩
end Go.Proofs.Ytelhogeaobofpaa
