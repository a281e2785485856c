/-
  The law FnLength: the length of a text is that of its items and of the brackets in it.
-/
import Derived.Test.YtelhogeaobofpaaTextLaws
namespace Go.Proofs.Ytelhogeaobofpaa
open Go.RowKit Go.Sort
attribute [local go_sem] Oper.semAt_some

theorem bc_step {x : UInt8} {s : List UInt8} {i : Nat} (h : i < s.length) : bc x (s.take (i + 1)) = bc x (s.take i) + (if s[i] = x then 1 else 0) := by
  rw [List.take_succ_eq_append_getElem h, bc_append, bc_cons, bc_nil]; simp
theorem bc_take_le (x : UInt8) (s : List UInt8) (i : Nat) : bc x (s.take i) ≤ i := by
  have h1 : bc x (s.take i) ≤ (s.take i).length := List.countP_le_length ..
  rw [List.length_take] at h1; omega
theorem getD_get (s : ByteArray) (i : Nat) (h : i < s.size) : s.data.toList[i]'(by simpa using h) = s[i]'h := by
  rw [Array.getElem_toList]; rfl
theorem byte_is {c x : UInt8} : (((c.toNat : Int) == (x.toNat : Int)) = true ∧ c = x) ∨ (((c.toNat : Int) == (x.toNat : Int)) = false ∧ c ≠ x) := by
  by_cases h : c = x
  · exact .inl ⟨by rw [h]; simp, h⟩
  · refine .inr ⟨?_, h⟩
    have : c.toNat ≠ x.toNat := fun e => h (UInt8.toNat_inj.1 e)
    simp; omega

set_option maxRecDepth 100000 in
set_option maxHeartbeats 6400000 in
theorem exFnLength_walk (A : Option Addr) (len cap : Nat) (w : World) (hb : Bytes w A len) (hlc : len ≤ cap) (hl : cap ≤ 9223372036854775807) :
    Calls Try.prog 12 #[.slice A len cap] w fun e w' => e = .returned (.bool true) ∧ Below w.heap.size w w' := by
  by_cases hbig : 1048576 < len
  · have g0 : decide ((1048576 : Int) < len) = true := by simp; omega
    go_enter Try.func12, Try.ntmps12
    go_wp2_with fail
    go_ret
    exact ⟨rfl, Below.refl _ _⟩
  · have g0 : decide ((1048576 : Int) < len) = false := by simp; omega
    have HD := Lib.hid (drawFarthestLeave_any A len cap w hb hlc hl)
    clear hb
    go_enter Try.func12, Try.ntmps12
    go_wp2_with fail
    refine HD.out.mono ?_
    rintro e w1 ⟨s, rfl, hs, b1⟩
    have HB1 := Lib.hid b1
    clear b1
    have HV := Lib.hid (implValid_text s)
    have HVS := Lib.hid (fun W => specValid_text s W (by omega))
    have HF := Lib.hid (implFar_text s)
    cases htb : textB s.data.toList with
    | false =>
      rw [htb] at HV HVS
      rw [farZ_no (textB_not htb)] at HF
      clear htb
      go_wp2_with fail
      refine (HV.out w1).mono ?_
      rintro e w2 ⟨rfl, b2⟩
      have HB2 := Lib.hid (below_trans_self HB1.out b2)
      clear b2
      go_wp2_with fail
      refine (HVS.out w2).mono ?_
      rintro e w3 ⟨rfl, b3⟩
      have HB3 := Lib.hid (below_trans_self HB2.out b3)
      clear b3
      go_wp2_with fail
      refine (HV.out w3).mono ?_
      rintro e w4 ⟨rfl, b4⟩
      have HB4 := Lib.hid (below_trans_self HB3.out b4)
      clear b4
      go_wp2_with fail
      refine (HF.out w4).mono ?_
      rintro e w5 ⟨rfl, b5⟩
      have HB5 := Lib.hid (below_trans_self HB4.out b5)
      clear b5
      go_wp2_with fail
      go_ret
      exact ⟨rfl, HB5.out⟩
    | true =>
      rw [htb] at HV HVS
      obtain ⟨l, hl1⟩ := textB_get htb
      have hlen := len_L l
      have hb1 := br_okL (.inl rfl) l 0 hl1.2.1
      have hb2 := br_okL (.inr rfl) l 0 hl1.2.1
      have hb3 := br_mostL l 0 hl1.2.1
      rw [← hl1.2.2] at hlen hb1 hb2
      have hsl : s.data.toList.length = s.size := by simp
      rw [hsl] at hlen
      have CX := Lib.hid (implItems_text s ⟨#[88]⟩)
      rw [show countZ s.data.toList (⟨#[88]⟩ : ByteArray).data.toList = (cnL 88 l : Int) from countZ_yes hl1 rfl (by decide)] at CX
      have CQ := Lib.hid (implItems_text s ⟨#[63]⟩)
      rw [show countZ s.data.toList (⟨#[63]⟩ : ByteArray).data.toList = (cnL 63 l : Int) from countZ_yes hl1 rfl (by decide)] at CQ
      have CP := Lib.hid (implItems_text s ⟨#[40]⟩)
      rw [show countZ s.data.toList (⟨#[40]⟩ : ByteArray).data.toList = (cnL 40 l : Int) from countZ_yes hl1 rfl (by decide)] at CP
      have CL := Lib.hid (implItems_text s ⟨#[123]⟩)
      rw [show countZ s.data.toList (⟨#[123]⟩ : ByteArray).data.toList = (cnL 123 l : Int) from countZ_yes hl1 rfl (by decide)] at CL
      have CV := Lib.hid (implItems_text s ⟨#[94]⟩)
      rw [show countZ s.data.toList (⟨#[94]⟩ : ByteArray).data.toList = (cnL 94 l : Int) from countZ_yes hl1 rfl (by decide)] at CV
      have CD := Lib.hid (implItems_text s ⟨#[46]⟩)
      rw [show countZ s.data.toList (⟨#[46]⟩ : ByteArray).data.toList = (cnL 46 l : Int) from countZ_yes hl1 rfl (by decide)] at CD
      have CE := Lib.hid (implItems_text s ⟨#[61]⟩)
      rw [show countZ s.data.toList (⟨#[61]⟩ : ByteArray).data.toList = (cnL 61 l : Int) from countZ_yes hl1 rfl (by decide)] at CE
      have CN := Lib.hid (implItems_text s ⟨#[35]⟩)
      rw [show countZ s.data.toList (⟨#[35]⟩ : ByteArray).data.toList = (cnL 35 l : Int) from countZ_yes hl1 rfl (by decide)] at CN
      unfold lnS at hlen
      generalize cnL 88 l = nx at *
      generalize cnL 63 l = nq at *
      generalize cnL 40 l = np at *
      generalize cnL 123 l = nc at *
      generalize cnL 94 l = nv at *
      generalize cnL 46 l = nd at *
      generalize cnL 61 l = ne at *
      generalize cnL 35 l = nn at *
      have hs0 : s.data.toList.take s.size = s.data.toList := by rw [← hsl, List.take_length]
      have HS0 := Lib.hid hs0
      have HLEN := Lib.hid hlen
      have HBR1 := Lib.hid hb1
      have HBR2 := Lib.hid hb2
      have HBR3 := Lib.hid hb3
      clear htb hl1 hs0 hlen hb1 hb2 hb3
      go_wp2_with fail
      refine (HV.out w1).mono ?_
      rintro e w2 ⟨rfl, b2⟩
      have HB2 := Lib.hid (below_trans_self HB1.out b2)
      clear b2
      go_wp2_with fail
      refine (HVS.out w2).mono ?_
      rintro e w3 ⟨rfl, b3⟩
      have HB3 := Lib.hid (below_trans_self HB2.out b3)
      clear b3
      go_wp2_with fail
      refine (HV.out w3).mono ?_
      rintro e w4 ⟨rfl, b4⟩
      have HB4 := Lib.hid (below_trans_self HB3.out b4)
      clear b4
      go_wp2_with fail
      go_loopg [4, 5, 26] s.size (fun gk ov cv iv wr => ∃ i : Nat, gk = s.size - i ∧ i ≤ s.size ∧ iv = .int .i64 i ∧ ov = .int .i64 (bc 91 (s.data.toList.take i) : Nat) ∧ cv = .int .i64 (bc 93 (s.data.toList.take i) : Nat) ∧ Hid (Below w.heap.size w wr))
      case atStart => exact ⟨0, by omega, Nat.zero_le _, rfl, rfl, rfl, HB4.out⟩
      case round =>
        obtain ⟨i, rfl, hi, rfl, rfl, rfl, HB⟩ := hrel
        have k1 := bc_take_le 91 s.data.toList i
        have k2 := bc_take_le 93 s.data.toList i
        by_cases hil : i < s.size
        · have hil2 : i < s.data.toList.length := by omega
          have st1 := bc_step (x := 91) hil2
          have st2 := bc_step (x := 93) hil2
          rw [getD_get s i hil] at st1 st2
          have HS1 := Lib.hid st1
          have HS2 := Lib.hid st2
          obtain ⟨o, ho⟩ : ∃ o, o = bc 91 (s.data.toList.take i) := ⟨_, rfl⟩
          obtain ⟨z, hz⟩ : ∃ z, z = bc 93 (s.data.toList.take i) := ⟨_, rfl⟩
          rw [← ho] at HS1 k1
          rw [← hz] at HS2 k2
          rw [← ho, ← hz]
          clear st1 st2 ho hz hsl hil2
          have s1 : IntKind.i64.wrap ((o : Int) + 1) = (o : Int) + 1 := IntWalk.i64_in _ (by omega)
          have s2 : IntKind.i64.wrap ((z : Int) + 1) = (z : Int) + 1 := IntWalk.i64_in _ (by omega)
          rcases byte_is (c := s[i]'hil) (x := 91) with ⟨e1, f1⟩ | ⟨e1, f1⟩
          · have e1' : (((s[i]'hil).toNat : Int) == 91) = true := e1
            have G1 := Lib.hid (show (if s[i]'hil = 91 then 1 else 0) = 1 from if_pos f1)
            have G2 := Lib.hid (show (if s[i]'hil = 93 then 1 else 0) = 0 from if_neg (by rw [f1]; decide))
            clear e1 f1
            go_wp2_with fail
            go_roundg (s.size - (i + 1))
            case measure => omega
            case rel => exact ⟨i + 1, rfl, by omega, by go_num, by rw [HS1.out, G1.out]; rfl, by rw [HS2.out, G2.out]; rfl, HB.out⟩
          · have e1' : (((s[i]'hil).toNat : Int) == 91) = false := e1
            have G1 := Lib.hid (show (if s[i]'hil = 91 then 1 else 0) = 0 from if_neg f1)
            clear e1 f1
            rcases byte_is (c := s[i]'hil) (x := 93) with ⟨e2, f2⟩ | ⟨e2, f2⟩
            · have e2' : (((s[i]'hil).toNat : Int) == 93) = true := e2
              have G2 := Lib.hid (show (if s[i]'hil = 93 then 1 else 0) = 1 from if_pos f2)
              clear e2 f2
              go_wp2_with fail
              go_roundg (s.size - (i + 1))
              case measure => omega
              case rel => exact ⟨i + 1, rfl, by omega, by go_num, by rw [HS1.out, G1.out]; rfl, by rw [HS2.out, G2.out]; rfl, HB.out⟩
            · have e2' : (((s[i]'hil).toNat : Int) == 93) = false := e2
              have G2 := Lib.hid (show (if s[i]'hil = 93 then 1 else 0) = 0 from if_neg f2)
              clear e2 f2
              go_wp2_with fail
              go_roundg (s.size - (i + 1))
              case measure => omega
              case rel => exact ⟨i + 1, rfl, by omega, by go_num, by rw [HS1.out, G1.out]; rfl, by rw [HS2.out, G2.out]; rfl, HB.out⟩
        · obtain rfl : i = s.size := by omega
          have hlen := HLEN.out
          have hb3 := HBR3.out
          rw [HS0.out, HBR1.out, HBR2.out]
          generalize brL l = b at hlen hb3 ⊢
          have hle : nx ≤ 202 ∧ nq ≤ 202 ∧ np ≤ 202 ∧ nc ≤ 202 ∧ nv ≤ 202 ∧ nd ≤ 202 ∧ ne ≤ 202 ∧ nn ≤ 202 ∧ b ≤ 202 := by omega
          have HL := Lib.hid hlen
          have HB3' := Lib.hid hb3
          obtain ⟨m1, m2, m3, m4, m5, m6, m7, m8, m9⟩ := hle
          clear hlen hb3 k1 k2 hil hi hsl
          go_wp2_with fail
          refine (CX.out wr).mono ?_
          rintro e w5 ⟨rfl, b5⟩
          have HB5 := Lib.hid (below_trans_self HB.out b5)
          clear b5
          go_wp2_with fail
          refine (CQ.out w5).mono ?_
          rintro e w6 ⟨rfl, b6⟩
          have HB6 := Lib.hid (below_trans_self HB5.out b6)
          clear b6
          go_wp2_with fail
          refine (CP.out w6).mono ?_
          rintro e w7 ⟨rfl, b7⟩
          have HB7 := Lib.hid (below_trans_self HB6.out b7)
          clear b7
          go_wp2_with fail
          refine (CL.out w7).mono ?_
          rintro e w8 ⟨rfl, b8⟩
          have HB8 := Lib.hid (below_trans_self HB7.out b8)
          clear b8
          go_wp2_with fail
          refine (CV.out w8).mono ?_
          rintro e w9 ⟨rfl, b9⟩
          have HB9 := Lib.hid (below_trans_self HB8.out b9)
          clear b9
          go_wp2_with fail
          refine (CD.out w9).mono ?_
          rintro e w10 ⟨rfl, b10⟩
          have HB10 := Lib.hid (below_trans_self HB9.out b10)
          clear b10
          go_wp2_with fail
          refine (CE.out w10).mono ?_
          rintro e w11 ⟨rfl, b11⟩
          have HB11 := Lib.hid (below_trans_self HB10.out b11)
          clear b11
          go_wp2_with fail
          refine (CN.out w11).mono ?_
          rintro e w12 ⟨rfl, b12⟩
          have HB12 := Lib.hid (below_trans_self HB11.out b12)
          clear b12
          have heq : (nx : Int) + 2 * nq + 2 * np + 2 * nc + 2 * nv + nd + 2 * ne + nn + 2 * b = s.size := by have := HL.out; omega
          have hge : 2 * (nq : Int) + nn ≤ b := by have := HB3'.out; omega
          go_wp2_with fail
          refine (CQ.out w12).mono ?_
          rintro e w13 ⟨rfl, b13⟩
          have HB13 := Lib.hid (below_trans_self HB12.out b13)
          clear b13
          go_wp2_with fail
          refine (CN.out w13).mono ?_
          rintro e w14 ⟨rfl, b14⟩
          have HB14 := Lib.hid (below_trans_self HB13.out b14)
          clear b14
          go_wp2_with fail
          go_ret
          exact ⟨rfl, HB14.out⟩
end Go.Proofs.Ytelhogeaobofpaa
