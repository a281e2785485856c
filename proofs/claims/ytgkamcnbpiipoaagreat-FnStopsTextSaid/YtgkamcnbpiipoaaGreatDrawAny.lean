/-
  Draws of texts with frames: the model's l16Dec of one digit, l16Many, l5Known, l5Draw, l5Good, l5Any: some text that is not long.
-/
import Derived.Test.YtgkamcnbpiipoaaGreatRd
import Derived.Test.YtgkamcnbpiipoaaGreatBytes
import Derived.Test.YtgkamcnbpiipoaaGreatTextB
import Derived.Laws.IdiomStrings
import Derived.IntWalk
namespace Go.Proofs.YtgkamcnbpiipoaaGreat
open Go.RowKit Go.Sort
attribute [local go_sem] Oper.semAt_some

theorem dec_byte (n : Nat) (h : n ≤ 9) : ((UInt8.ofNat (48 + n)).toNat : Int) = 48 + (n : Int) := by
  rw [UInt8.toNat_ofNat']; omega

set_option maxRecDepth 100000 in
theorem dec_any (n : Nat) (w : World) (hn : n ≤ 9) :
    Calls Tryz.prog 94 #[.int .i64 n] w fun e w' => ∃ s : ByteArray, e = .returned (.string s) ∧ s.size = 1 ∧ Below w.heap.size w w' := by
  have hcv : (convert 22 9 (.slice (some ⟨w.heap.size, 0, none⟩) 1 1)).run Tryz.prog (w.alloc (.cells #[.int .u8 (48 + (n : Int))] 5)) = .ok (.string ⟨#[UInt8.ofNat (48 + n)]⟩) (w.alloc (.cells #[.int .u8 (48 + (n : Int))] 5)) :=
    run_convert_bytes_back (P := Tryz.prog) (w.alloc (.cells #[.int .u8 (48 + (n : Int))] 5)) 22 9 5 ⟨w.heap.size, 0, none⟩ 1 [UInt8.ofNat (48 + n)] Tryz.underlying22 Tryz.underlying5 Tryz.underlying9 (fun j hj => by
      have hj0 : j = 0 := by simpa using hj
      subst hj0
      have := (Blk.new w 5 #[.int .u8 (48 + (n : Int))]).cell 0
      rw [List.getElem_cons_zero, dec_byte n hn]
      exact this)
  have g1 : decide ((9 : Int) < n) = false := by simp; omega
  have g2 : decide ((n : Int) < 0) = false := by simp
  have g3 : decide ((n : Int) < -9223372036854775807) = false := decide_eq_false (by omega)
  have s1 : IntKind.i64.wrap (48 + (n : Int)) = 48 + (n : Int) := IntWalk.i64_in _ (by omega)
  have s2 : IntKind.u8.wrap (48 + (n : Int)) = 48 + (n : Int) := by
    show (48 + (n : Int)) % 256 = _
    omega
  have s3 : (48 + (n : Int)) % 256 = 48 + (n : Int) := by omega
  go_enter Tryz.func94, Tryz.ntmps94
  go_wp2_with fail
  go_loop [0, 3] (fun x o => x = .int .i64 n ∧ o = .string ⟨#[]⟩) (fun _ _ => 0)
  case atStart => exact ⟨rfl, rfl⟩
  case round =>
    obtain ⟨rfl, rfl⟩ := hrel
    go_wp2_with fail
    go_ret
    refine ⟨_, rfl, ?_, ?_⟩
    · simp
      rfl
    · exact (Below.refl _ w).alloc (Nat.le_refl _) _

theorem many_step2 {x n m r : Nat} (h : n = 2 * m + r) : (x + x) * m + r * x = x * n := by
  subst h
  rw [Nat.mul_add, Nat.add_mul, Nat.mul_comm r x, Nat.mul_left_comm x 2 m]
  omega

end Go.Proofs.YtgkamcnbpiipoaaGreat

/-
  Draws of texts with frames: l5Draw, whatever is drawn, is some text that is not long.
-/
namespace Go.Proofs.YtgkamcnbpiipoaaGreat
open Go.RowKit Go.Sort
attribute [local go_sem] Oper.semAt_some

/-- Some text of at most n bytes, drawn with at most c draws. -/
def DrawTx (n c R : Nat) (A : Option Addr) (len cap p : Nat) (w : World) (e : Ending) (w' : World) : Prop :=
  ∃ (s : ByteArray) (q : Nat), e = .returned (.string s) ∧ s.size ≤ n ∧ Only R w w' ∧ Rd w' R A len cap q ∧ q ≤ p + c

theorem num5t (R : Nat) (A : Option Addr) (len cap p : Nat) (w : World) (h : Rd w R A len cap p) (hp : p ≤ 1048576) :
    Calls Tryz.prog 75 #[.pointer (some ⟨R, 0, none⟩), .slice (some ⟨w.heap.size, 0, none⟩) 5 5] (w.alloc (.cells #[.int .i64 2, .int .i64 1, .int .i64 3, .int .i64 2, .int .i64 0] 3)) fun e w' => ∃ n : Nat, e = .returned (.int .i64 n) ∧ n ≤ 3 ∧ Only R w w' ∧ Rd w' R A len cap (p + 1) := by
  refine (num2 R A len cap p [2, 1, 3, 2, 0] w h (by decide) (by decide) hp).mono ?_
  rintro e w' ⟨z, rfl, hz, o, r⟩
  simp only [List.mem_cons, List.not_mem_nil, or_false] at hz
  refine ⟨z.toNat, ret_int (by omega), by omega, o, r⟩

theorem of6t (R : Nat) (A : Option Addr) (len cap p : Nat) (w : World) (h : Rd w R A len cap p) (hp : p ≤ 1048576) :
    Calls Tryz.prog 61 #[.pointer (some ⟨R, 0, none⟩), .slice (some ⟨w.heap.size, 0, none⟩) 6 6] (w.alloc (.cells #[.string ⟨#[65]⟩, .string ⟨#[66]⟩, .string ⟨#[67]⟩, .string ⟨#[68]⟩, .string ⟨#[69]⟩, .string ⟨#[70]⟩] 9)) fun e w' => ∃ s : ByteArray, e = .returned (.string s) ∧ s.size ≤ 1 ∧ Only R w w' ∧ Rd w' R A len cap (p + 1) := by
  refine (of2 R A len cap p [⟨#[65]⟩, ⟨#[66]⟩, ⟨#[67]⟩, ⟨#[68]⟩, ⟨#[69]⟩, ⟨#[70]⟩] w h (by decide) (by decide) hp).mono ?_
  rintro e w' ⟨z, rfl, hz, o, r⟩
  refine ⟨z, rfl, ?_, o, r⟩
  revert z; decide

theorem of5t (d : ByteArray) (hd : d.size ≤ 7) (R : Nat) (A : Option Addr) (len cap p : Nat) (w : World) (h : Rd w R A len cap p) (hp : p ≤ 1048576) :
    Calls Tryz.prog 61 #[.pointer (some ⟨R, 0, none⟩), .slice (some ⟨w.heap.size, 0, none⟩) 5 5] (w.alloc (.cells #[.string ⟨#[46]⟩, .string ⟨#[61, 49]⟩, .string ⟨#[61, 48]⟩, .string ⟨#[35, 91, 65, 93, 91, 66, 93]⟩, .string d] 9)) fun e w' => ∃ s : ByteArray, e = .returned (.string s) ∧ s.size ≤ 7 ∧ Only R w w' ∧ Rd w' R A len cap (p + 1) := by
  refine (of2 R A len cap p [⟨#[46]⟩, ⟨#[61, 49]⟩, ⟨#[61, 48]⟩, ⟨#[35, 91, 65, 93, 91, 66, 93]⟩, d] w h (by simp) (by simp) hp).mono ?_
  rintro e w' ⟨z, rfl, hz, o, r⟩
  refine ⟨z, rfl, ?_, o, r⟩
  simp only [List.mem_cons, List.not_mem_nil, or_false] at hz
  rcases hz with rfl | rfl | rfl | rfl | rfl
  · decide
  · decide
  · decide
  · decide
  · exact hd

theorem sz1 (a : UInt8) : (⟨#[a]⟩ : ByteArray).size = 1 := rfl
theorem sz2 (a b : UInt8) : (⟨#[a, b]⟩ : ByteArray).size = 2 := rfl

set_option maxRecDepth 100000 in
set_option maxHeartbeats 6400000 in
theorem draw_step (d U C : Nat) (hd4 : d ≤ 4) (hU : U ≤ 20000) (hC : C ≤ 100000) (hrec : 0 < d → ∀ (R : Nat) (A : Option Addr) (len cap p f : Nat) (w : World), f + d ≤ 10 → p + C ≤ 900000 → Rd w R A len cap p →
      Calls Tryz.prog 76 #[.pointer (some ⟨R, 0, none⟩), .int .i64 f, .int .i64 ((d : Int) - 1)] w (DrawTx U C R A len cap p w))
    (R : Nat) (A : Option Addr) (len cap p f : Nat) (w : World) (hf : f + d ≤ 9) (hp : p + (1 + 3 * (6 + 2 * C)) ≤ 900000) (hr : Rd w R A len cap p) :
    Calls Tryz.prog 76 #[.pointer (some ⟨R, 0, none⟩), .int .i64 f, .int .i64 d] w (DrawTx (3 * (7 + 2 * U)) (1 + 3 * (6 + 2 * C)) R A len cap p w) := by
  have HC := Lib.hid (num5t R A len cap p w hr (by omega))
  have HREC := Lib.hid hrec
  have sd : 0 < d → IntKind.i64.wrap ((d : Int) - 1) = (d : Int) - 1 := fun h => IntWalk.i64_in _ (by omega)
  have sf : IntKind.i64.wrap ((f : Int) + 1) = ((f + 1 : Nat) : Int) := by rw [IntWalk.i64_in _ (by omega)]; omega
  have HSD := Lib.hid sd
  have HSF := Lib.hid sf
  clear hr hrec sd sf
  go_enter Tryz.func76, Tryz.ntmps76
  go_wp2_with fail
  refine HC.out.mono ?_
  rintro e w1 ⟨n, rfl, hn, o1, r1⟩
  have HO1 := Lib.hid o1
  have HR1 := Lib.hid r1
  clear o1 r1
  go_wp2_with fail
  go_loopw [7, 13] (fun s c wr => ∃ (j q : Nat) (t : ByteArray), j ≤ n ∧ c = .int .i64 j ∧ s = .string t ∧ t.size ≤ (7 + 2 * U) * j ∧ q ≤ p + 1 + (6 + 2 * C) * j ∧ Hid (Rd wr R A len cap q) ∧ Hid (Only R w wr)) (fun _ c _ => n - (intOf c).toNat)
  case atStart => exact ⟨0, p + 1, ⟨#[]⟩, Nat.zero_le _, rfl, rfl, Nat.zero_le _, by omega, HR1.out, HO1.out⟩
  case round =>
    obtain ⟨j, q, t, hj, rfl, rfl, ht, hq, HRD, HO⟩ := hrel
    have HT := Lib.hid ht
    clear ht
    by_cases hlt : j < n
    · have HM1 := Lib.hid (Nat.mul_succ (7 + 2 * U) j)
      have HM2 := Lib.hid (Nat.mul_succ (6 + 2 * C) j)
      have ht2 : t.size ≤ (7 + 2 * U) * 2 := Nat.le_trans HT.out (Nat.mul_le_mul_left _ (by omega))
      have hq2 : q ≤ p + 1 + (6 + 2 * C) * 2 := Nat.le_trans hq (Nat.add_le_add_left (Nat.mul_le_mul_left _ (by omega)) _)
      have HQ := Lib.hid hq
      have hts : t.size ≤ 80014 := by omega
      have hqs : q + (3 + 2 * C) ≤ 900000 := by omega
      have htb : 7 + 2 * U ≤ 40007 := by omega
      clear hq ht2 hq2
      have HL := Lib.hid (of6t R A len cap q wr HRD.out (by omega))
      go_wp2_with fail
      refine HL.out.mono ?_
      rintro e w2 ⟨x, rfl, hx, o2, r2⟩
      have HO2 := Lib.hid (HO.out.trans o2)
      have HP := Lib.hid (pick2 R A len cap (q + 1) 9 w2 r2 (by omega) (by omega) (by omega))
      clear o2 r2
      go_wp2_with fail
      refine HP.out.mono ?_
      rintro e w3 ⟨k, rfl, hk, o3, r3⟩
      have HO3 := Lib.hid (HO2.out.trans o3)
      have HR3 := Lib.hid r3
      clear o3 r3
      by_cases k012 : k ≤ 2
      · have e0 : ((k : Int) == 0) = true ∨ ((k : Int) == 0) = false ∧ ((k : Int) == 1) = true ∨ ((k : Int) == 0) = false ∧ ((k : Int) == 1) = false ∧ ((k : Int) == 2) = true := by
          have : k = 0 ∨ k = 1 ∨ k = 2 := by omega
          rcases this with rfl | rfl | rfl
          · exact .inl rfl
          · exact .inr (.inl ⟨rfl, rfl⟩)
          · exact .inr (.inr ⟨rfl, rfl, rfl⟩)
        clear k012
        rcases e0 with e0 | ⟨e0, e1⟩ | ⟨e0, e1, e2⟩
        all_goals
          go_wp2_with fail
          go_roundw
          case rel => exact ⟨j + 1, q + 2, _, by omega, by go_num, rfl, by rw [HM1.out, ByteArray.size_append]; have := HT.out; omega, by rw [HM2.out]; have := HQ.out; omega, HR3.out, HO3.out⟩
          case measure => simp [intOf]; omega
      · have e0 : ((k : Int) == 0) = false := by simp; omega
        have e1 : ((k : Int) == 1) = false := by simp; omega
        have e2 : ((k : Int) == 2) = false := by simp; omega
        by_cases k34 : k ≤ 4
        · have e3 : ((k : Int) == 3) = true ∨ ((k : Int) == 3) = false ∧ ((k : Int) == 4) = true := by
            have : k = 3 ∨ k = 4 := by omega
            rcases this with rfl | rfl
            · exact .inl rfl
            · exact .inr ⟨rfl, rfl⟩
          clear k012 k34
          by_cases hd0 : 0 < d
          · have gd : decide ((0 : Int) < d) = true := by simp; omega
            have sd := HSD.out hd0
            have HREC1 := Lib.hid (HREC.out hd0 R A len cap (q + 2) f w3 (by omega) (by omega) HR3.out)
            rcases e3 with e3 | ⟨e3, e4⟩
            all_goals
              go_wp2_with fail
              refine HREC1.out.mono ?_
              rintro e w4 ⟨a, q4, rfl, ha, o4, r4, hq4⟩
              have HO4 := Lib.hid (HO3.out.trans o4)
              have HREC2 := Lib.hid (HREC.out hd0 R A len cap q4 f w4 (by omega) (by omega) r4)
              clear o4 r4
              go_wp2_with fail
              refine HREC2.out.mono ?_
              rintro e w5 ⟨b, q5, rfl, hb, o5, r5, hq5⟩
              have HO5 := Lib.hid (HO4.out.trans o5)
              have HR5 := Lib.hid r5
              clear o5 r5
              go_wp2_with fail
              go_roundw
              case rel => exact ⟨j + 1, q5, _, by omega, by go_num, rfl, by rw [HM1.out]; have := HT.out; simp only [ByteArray.size_append, sz1, sz2]; omega, by rw [HM2.out]; have := HQ.out; omega, HR5.out, HO5.out⟩
              case measure => simp [intOf]; omega
          · have gd : decide ((0 : Int) < d) = false := by simp; omega
            rcases e3 with e3 | ⟨e3, e4⟩
            all_goals
              go_wp2_with fail
              go_roundw
              case rel => exact ⟨j + 1, q + 2, _, by omega, by go_num, rfl, by rw [HM1.out]; have := HT.out; omega, by rw [HM2.out]; have := HQ.out; omega, HR3.out, HO3.out⟩
              case measure => simp [intOf]; omega
        · have e3 : ((k : Int) == 3) = false := by simp; omega
          have e4 : ((k : Int) == 4) = false := by simp; omega
          by_cases k5 : k = 5
          · have e5 : ((k : Int) == 5) = true := by rw [k5]; rfl
            clear k012 k34 k5
            by_cases hd0 : 0 < d
            · have gd : decide ((0 : Int) < d) = true := by simp; omega
              have sd := HSD.out hd0
              have sf := HSF.out
              have HREC1 := Lib.hid (HREC.out hd0 R A len cap (q + 2) (f + 1) w3 (by omega) (by omega) HR3.out)
              go_wp2_with fail
              refine HREC1.out.mono ?_
              rintro e w4 ⟨a, q4, rfl, ha, o4, r4, hq4⟩
              have HO4 := Lib.hid (HO3.out.trans o4)
              have HR4 := Lib.hid r4
              clear o4 r4
              go_wp2_with fail
              go_roundw
              case rel => exact ⟨j + 1, q4, _, by omega, by go_num, rfl, by rw [HM1.out]; have := HT.out; simp only [ByteArray.size_append, sz1]; omega, by rw [HM2.out]; have := HQ.out; omega, HR4.out, HO4.out⟩
              case measure => simp [intOf]; omega
            · have gd : decide ((0 : Int) < d) = false := by simp; omega
              go_wp2_with fail
              go_roundw
              case rel => exact ⟨j + 1, q + 2, _, by omega, by go_num, rfl, by rw [HM1.out]; have := HT.out; omega, by rw [HM2.out]; have := HQ.out; omega, HR3.out, HO3.out⟩
              case measure => simp [intOf]; omega
          · have e5 : ((k : Int) == 5) = false := by simp; omega
            by_cases k6 : k = 6
            · have e6 : ((k : Int) == 6) = true := by rw [k6]; rfl
              clear k012 k34 k5 k6
              by_cases hd0 : 0 < d
              · have gd : decide ((0 : Int) < d) = true := by simp; omega
                have sd := HSD.out hd0
                have sf := HSF.out
                have HREC1 := Lib.hid (HREC.out hd0 R A len cap (q + 2) (f + 1) w3 (by omega) (by omega) HR3.out)
                go_wp2_with fail
                refine HREC1.out.mono ?_
                rintro e w4 ⟨a, q4, rfl, ha, o4, r4, hq4⟩
                have HO4 := Lib.hid (HO3.out.trans o4)
                have HR4 := Lib.hid r4
                clear o4 r4
                go_wp2_with fail
                go_roundw
                case rel => exact ⟨j + 1, q4, _, by omega, by go_num, rfl, by rw [HM1.out]; have := HT.out; simp only [ByteArray.size_append, sz1]; omega, by rw [HM2.out]; have := HQ.out; omega, HR4.out, HO4.out⟩
                case measure => simp [intOf]; omega
              · have gd : decide ((0 : Int) < d) = false := by simp; omega
                go_wp2_with fail
                go_roundw
                case rel => exact ⟨j + 1, q + 2, _, by omega, by go_num, rfl, by rw [HM1.out]; have := HT.out; omega, by rw [HM2.out]; have := HQ.out; omega, HR3.out, HO3.out⟩
                case measure => simp [intOf]; omega
            · have e6 : ((k : Int) == 6) = false := by simp; omega
              by_cases k7 : k = 7
              · have e7 : ((k : Int) == 7) = true := by rw [k7]; rfl
                clear k012 k34 k5 k6 k7
                by_cases hf0 : 0 < f
                · have gf : decide ((0 : Int) < f) = true := by simp; omega
                  have HPF := Lib.hid (pick2 R A len cap (q + 2) f w3 HR3.out (by omega) (by omega) (by omega))
                  go_wp2_with fail
                  refine HPF.out.mono ?_
                  rintro e w4 ⟨y, rfl, hy, o4, r4⟩
                  have HO4 := Lib.hid (HO3.out.trans o4)
                  have HR4 := Lib.hid r4
                  have HD := Lib.hid (dec_any y w4 (by omega))
                  clear o4 r4
                  go_wp2_with fail
                  refine HD.out.mono ?_
                  rintro e w5 ⟨s, rfl, hs, b5⟩
                  have HO5 := Lib.hid (HO4.out.trans (.of_below b5))
                  have HR5 := Lib.hid (HR4.out.below b5)
                  have hs1 : s.size ≤ 1 := by omega
                  clear b5 hs
                  go_wp2_with fail
                  go_roundw
                  case rel => exact ⟨j + 1, q + 3, _, by omega, by go_num, rfl, by rw [HM1.out]; have := HT.out; simp only [ByteArray.size_append, sz1]; omega, by rw [HM2.out]; have := HQ.out; omega, HR5.out, HO5.out⟩
                  case measure => simp [intOf]; omega
                · have gf : decide ((0 : Int) < f) = false := by simp; omega
                  go_wp2_with fail
                  go_roundw
                  case rel => exact ⟨j + 1, q + 2, _, by omega, by go_num, rfl, by rw [HM1.out]; have := HT.out; omega, by rw [HM2.out]; have := HQ.out; omega, HR3.out, HO3.out⟩
                  case measure => simp [intOf]; omega
              · have e7 : ((k : Int) == 7) = false := by simp; omega
                clear k012 k34 k5 k6 k7
                have HPT := Lib.hid (pick2 R A len cap (q + 2) 10 w3 HR3.out (by omega) (by omega) (by omega))
                go_wp2_with fail
                refine HPT.out.mono ?_
                rintro e w4 ⟨y, rfl, hy, o4, r4⟩
                have HO4 := Lib.hid (HO3.out.trans o4)
                have HR4 := Lib.hid r4
                have HD := Lib.hid (dec_any y w4 (by omega))
                clear o4 r4
                go_wp2_with fail
                refine HD.out.mono ?_
                rintro e w5 ⟨s, rfl, hs, b5⟩
                have HO5 := Lib.hid (HO4.out.trans (.of_below b5))
                have HF5 := Lib.hid (of5t (⟨#[61]⟩ ++ s) (by rw [ByteArray.size_append]; have : (⟨#[61]⟩ : ByteArray).size = 1 := rfl; omega) R A len cap (q + 3) w5 (HR4.out.below b5) (by omega))
                have hs1 : s.size ≤ 1 := by omega
                clear b5 hs
                go_wp2_with fail
                refine HF5.out.mono ?_
                rintro e w6 ⟨u, rfl, hu, o6, r6⟩
                have HO6 := Lib.hid (HO5.out.trans o6)
                have HR6 := Lib.hid r6
                clear o6 r6
                go_wp2_with fail
                go_roundw
                case rel => exact ⟨j + 1, q + 4, _, by omega, by go_num, rfl, by rw [HM1.out]; have := HT.out; simp only [ByteArray.size_append]; omega, by rw [HM2.out]; have := HQ.out; omega, HR6.out, HO6.out⟩
                case measure => simp [intOf]; omega
    · go_wp2_with fail
      go_ret
      have hjn : j = n := by omega
      refine ⟨t, q, rfl, ?_, HO.out, HRD.out, ?_⟩
      · exact Nat.le_trans HT.out (by rw [Nat.mul_comm]; exact Nat.mul_le_mul_right _ (by omega))
      · have : (6 + 2 * C) * j ≤ 3 * (6 + 2 * C) := by rw [Nat.mul_comm]; exact Nat.mul_le_mul_right _ (by omega)
        omega
end Go.Proofs.YtgkamcnbpiipoaaGreat

/-
  Draws of texts with frames: l5Known, l5Good, l5Any: some text of at most 202 bytes.
-/
namespace Go.Proofs.YtgkamcnbpiipoaaGreat
open Go.RowKit Go.Sort
attribute [local go_sem] Oper.semAt_some

theorem below_drewN5 (w : World) (n : Nat) : Below w.heap.size w (w.drewN n) := ⟨rfl, rfl, rfl, Nat.le_refl _, fun _ _ => rfl⟩
def lenU : Nat → Nat
  | 0 => 0
  | d + 1 => 3 * (7 + 2 * lenU d)
def cntC : Nat → Nat
  | 0 => 0
  | d + 1 => 1 + 3 * (6 + 2 * cntC d)

theorem draw_all : ∀ (d : Nat), d ≤ 4 → ∀ (R : Nat) (A : Option Addr) (len cap p f : Nat) (w : World), f + d ≤ 9 → p + cntC (d + 1) ≤ 900000 → Rd w R A len cap p →
      Calls Tryz.prog 76 #[.pointer (some ⟨R, 0, none⟩), .int .i64 f, .int .i64 d] w (DrawTx (lenU (d + 1)) (cntC (d + 1)) R A len cap p w)
  | 0, hd, R, A, len, cap, p, f, w, hf, hp, hr => draw_step 0 0 0 (by omega) (by omega) (by omega) (fun h => absurd h (by omega)) R A len cap p f w hf hp hr
  | d + 1, hd, R, A, len, cap, p, f, w, hf, hp, hr => by
    have b1 : lenU (d + 1) ≤ 20000 := by
      have : d = 0 ∨ d = 1 ∨ d = 2 ∨ d = 3 := by omega
      rcases this with rfl | rfl | rfl | rfl <;> decide
    have b2 : cntC (d + 1) ≤ 100000 := by
      have : d = 0 ∨ d = 1 ∨ d = 2 ∨ d = 3 := by omega
      rcases this with rfl | rfl | rfl | rfl <;> decide
    refine draw_step (d + 1) (lenU (d + 1)) (cntC (d + 1)) hd b1 b2 (fun _ R A len cap p f w hf hp hr => ?_) R A len cap p f w hf hp hr
    have := draw_all d (by omega) R A len cap p f w (by omega) hp hr
    have e : (((d + 1 : Nat) : Int) - 1) = (d : Int) := by omega
    rw [e]
    exact this

def knownItems : List ByteArray := [⟨#[40, 63, 65, 91, 66, 94, 48, 93, 91, 67, 93, 41, 68, 46]⟩, ⟨#[65, 123, 63, 66, 91, 67, 94, 48, 93, 91, 93, 125, 68, 46]⟩, ⟨#[123, 65, 94, 48, 125]⟩, ⟨#[65, 46]⟩, ⟨#[]⟩, ⟨#[40, 40, 63, 65, 91, 94, 48, 93, 91, 94, 49, 93, 41, 66, 46, 41, 67, 46]⟩, ⟨#[123, 35, 91, 65, 61, 49, 94, 48, 93, 91, 63, 66, 91, 61, 50, 94, 48, 93, 91, 61, 51, 94, 48, 93, 93, 91, 67, 61, 49, 94, 48, 93, 91, 68, 46, 93, 125]⟩, ⟨#[65, 40, 123, 63, 66, 91, 63, 67, 91, 94, 48, 93, 91, 68, 94, 48, 93, 93, 91, 94, 49, 93, 125, 69, 41, 70, 46]⟩, ⟨#[65, 65, 66]⟩, ⟨#[40, 65, 40, 66, 40, 67, 94, 50, 41, 68, 41, 69, 41, 70, 46]⟩, ⟨#[61, 51, 35, 91, 65, 93, 91, 66, 93, 67, 46]⟩, ⟨#[123, 63, 65, 91, 94, 48, 93, 91, 46, 93, 125]⟩]
theorem knownItems_small : ∀ s ∈ knownItems, s.size ≤ 40 := by decide

set_option maxHeartbeats 1600000 in
set_option maxRecDepth 100000 in
theorem known5_any (k : Nat) (w : World) (hk : k < 12) :
    Calls Tryz.prog 36 #[.int .i64 k] w fun e w' => ∃ s : ByteArray, e = .returned (.string s) ∧ s.size ≤ 40 ∧ Below w.heap.size w w' := by
  obtain ⟨s, hs⟩ : ∃ s, knownItems[k]? = some s := ⟨_, List.getElem?_eq_getElem (by simpa [knownItems] using hk)⟩
  have hsz := knownItems_small s (List.mem_of_getElem? hs)
  have HB : Hid ((knownItems.map Value.string)[k]? = some (.string s)) := by
    show (knownItems.map Value.string)[k]? = some (.string s)
    rw [List.getElem?_map, hs]; rfl
  have HCELL : Hid (∀ w : World, (w.alloc (.cells (knownItems.map Value.string).toArray 9)).cell? ⟨w.heap.size, k, none⟩ = some (.string s)) := fun w => by
    rw [(Blk.new w 9 (knownItems.map Value.string).toArray).cell k]
    simpa using HB.out
  have hm : k % 12 = k := by omega
  have hkl : (k : Int) < 12 := by omega
  clear hs
  go_enter Tryz.func36, Tryz.ntmps36
  have hcell := HCELL.out w
  simp only [knownItems, List.map_cons, List.map_nil] at hcell
  go_wp2_with fail
  go_ret
  exact ⟨s, rfl, hsz, (Below.refl w.heap.size w).alloc (Nat.le_refl _) _⟩

set_option maxRecDepth 100000 in
set_option maxHeartbeats 1600000 in
theorem good5_any (R : Nat) (A : Option Addr) (len cap p : Nat) (w : World) (hr : Rd w R A len cap p) (hp : p ≤ 1000) :
    Calls Tryz.prog 62 #[.pointer (some ⟨R, 0, none⟩)] w (DrawTx 200 100000 R A len cap p w) := by
  have HP := Lib.hid (pick2 R A len cap p 3 w hr (by omega) (by omega) (by omega))
  clear hr
  go_enter Tryz.func62, Tryz.ntmps62
  go_wp2_with fail
  refine HP.out.mono ?_
  rintro e w1 ⟨x, rfl, hx, o1, r1⟩
  have HO1 := Lib.hid o1
  have HR1 := Lib.hid r1
  clear o1 r1
  by_cases h0 : x = 0
  · have g0 : ((x : Int) == 0) = true := by rw [h0]; rfl
    have HP2 := Lib.hid (pick2 R A len cap (p + 1) 12 w1 HR1.out (by omega) (by omega) (by omega))
    clear h0
    go_wp2_with fail
    refine HP2.out.mono ?_
    rintro e w2 ⟨y, rfl, hy, o2, r2⟩
    have HO2 := Lib.hid (HO1.out.trans o2)
    have HR2 := Lib.hid r2
    clear o2 r2
    go_wp2_with fail
    refine (known5_any y w2 hy).mono ?_
    rintro e w3 ⟨s, rfl, hs, b3⟩
    have HO3 := Lib.hid (HO2.out.trans (.of_below b3))
    have HR3 := Lib.hid (HR2.out.below b3)
    clear b3
    go_wp2_with fail
    go_ret
    exact ⟨s, p + 2, rfl, by omega, HO3.out, HR3.out, by omega⟩
  · have g0 : ((x : Int) == 0) = false := by simp; omega
    have HP2 := Lib.hid (pick2 R A len cap (p + 1) 4 w1 HR1.out (by omega) (by omega) (by omega))
    clear h0
    go_wp2_with fail
    refine HP2.out.mono ?_
    rintro e w2 ⟨y, rfl, hy, o2, r2⟩
    have HO2 := Lib.hid (HO1.out.trans o2)
    have b1 : lenU (1 + y + 1) ≤ 40000 := by
      have : y = 0 ∨ y = 1 ∨ y = 2 ∨ y = 3 := by omega
      rcases this with rfl | rfl | rfl | rfl <;> decide
    have b2 : cntC (1 + y + 1) ≤ 90000 := by
      have : y = 0 ∨ y = 1 ∨ y = 2 ∨ y = 3 := by omega
      rcases this with rfl | rfl | rfl | rfl <;> decide
    have hd := draw_all (1 + y) (by omega) R A len cap (p + 2) 0 w2 (by omega) (by omega) r2
    have e1 : ((1 + y : Nat) : Int) = 1 + (y : Int) := by omega
    rw [e1] at hd
    have HD := Lib.hid hd
    have s1 : IntKind.i64.wrap (1 + (y : Int)) = 1 + (y : Int) := IntWalk.i64_in _ (by omega)
    clear o2 r2 hd e1
    go_wp2_with fail
    refine HD.out.mono ?_
    rintro e w3 ⟨s, q, rfl, hs, o3, r3, hq⟩
    have HO3 := Lib.hid (HO2.out.trans o3)
    have HR3 := Lib.hid r3
    have HV := Lib.hid (specValid_text s w3 (by omega))
    clear o3 r3
    go_wp2_with fail
    refine HV.out.mono ?_
    rintro e w4 ⟨rfl, b4⟩
    have HO4 := Lib.hid (HO3.out.trans (.of_below b4))
    have HR4 := Lib.hid (HR3.out.below b4)
    clear b4
    cases htb : textB s.data.toList with
    | true =>
      have hs2 : s.size ≤ 200 := by
        obtain ⟨l, hl⟩ := textB_get htb
        have := hl.1
        simpa using this
      clear htb
      go_wp2_with fail
      go_ret
      exact ⟨s, q, rfl, hs2, HO4.out, HR4.out, by omega⟩
    | false =>
      clear htb
      go_wp2_with fail
      go_ret
      exact ⟨_, q, rfl, by decide, HO4.out, HR4.out, by omega⟩

theorem of8t (R : Nat) (A : Option Addr) (len cap p : Nat) (w : World) (h : Rd w R A len cap p) (hp : p ≤ 1048576) :
    Calls Tryz.prog 61 #[.pointer (some ⟨R, 0, none⟩), .slice (some ⟨w.heap.size, 0, none⟩) 8 8] (w.alloc (.cells #[.string ⟨#[]⟩, .string ⟨#[40]⟩, .string ⟨#[125]⟩, .string ⟨#[94, 48]⟩, .string ⟨#[94, 49]⟩, .string ⟨#[65]⟩, .string ⟨#[91]⟩, .string ⟨#[63]⟩] 9)) fun e w' => ∃ s : ByteArray, e = .returned (.string s) ∧ s.size ≤ 2 ∧ Only R w w' ∧ Rd w' R A len cap (p + 1) := by
  refine (of2 R A len cap p [⟨#[]⟩, ⟨#[40]⟩, ⟨#[125]⟩, ⟨#[94, 48]⟩, ⟨#[94, 49]⟩, ⟨#[65]⟩, ⟨#[91]⟩, ⟨#[63]⟩] w h (by decide) (by decide) hp).mono ?_
  rintro e w' ⟨z, rfl, hz, o, r⟩
  refine ⟨z, rfl, ?_, o, r⟩
  revert z; decide

set_option maxRecDepth 100000 in
set_option maxHeartbeats 3200000 in
theorem any5_any (R : Nat) (A : Option Addr) (len cap p : Nat) (w : World) (hr : Rd w R A len cap p) (hp : p ≤ 1000) :
    Calls Tryz.prog 38 #[.pointer (some ⟨R, 0, none⟩)] w (DrawTx 202 100004 R A len cap p w) := by
  have HG := Lib.hid (good5_any R A len cap p w hr hp)
  clear hr
  go_enter Tryz.func38, Tryz.ntmps38
  go_wp2_with fail
  refine HG.out.mono ?_
  rintro e w1 ⟨s, q, rfl, hs, o1, r1, hq⟩
  have HO1 := Lib.hid o1
  have HP := Lib.hid (pick2 R A len cap q 14 w1 r1 (by omega) (by omega) (by omega))
  clear o1 r1
  go_wp2_with fail
  refine HP.out.mono ?_
  rintro e w2 ⟨x, rfl, hx, o2, r2⟩
  have HO2 := Lib.hid (HO1.out.trans o2)
  have HR2 := Lib.hid r2
  clear o2 r2
  by_cases h0 : 0 < x
  · have g0 : decide (0 < x) = true := decide_eq_true h0
    go_wp2_with fail
    go_ret
    exact ⟨s, q + 1, rfl, by omega, HO2.out, HR2.out, by omega⟩
  · obtain rfl : x = 0 := by omega
    clear h0
    by_cases hz : s = ⟨#[]⟩
    · subst hz
      have gz : (⟨#[]⟩ : ByteArray).toList.isEmpty = true := by rw [show (⟨#[]⟩ : ByteArray).toList = [] from tb_toList []]; rfl
      go_wp2_with fail
      go_ret
      exact ⟨_, q + 1, rfl, by omega, HO2.out, HR2.out, by omega⟩
    · have hp0 : 0 < s.size := by
        rcases Nat.eq_zero_or_pos s.size with h | h
        · exact absurd (ba_ext (by rw [Array.toList_eq_nil_iff.2 (Array.eq_empty_of_size_eq_zero h)])) hz
        · exact h
      have gz : s.toList.isEmpty = false := by
        rw [Lib.toList_data]
        have : s.data.toList ≠ [] := fun e => by
          have h2 : s.data.toList.length = 0 := by rw [e]; rfl
          have h3 : s.size = s.data.toList.length := by simp
          omega
        cases h : s.data.toList with
        | nil => exact absurd h this
        | cons a l => rfl
      have HP3 := Lib.hid (pick2 R A len cap (q + 1) s.size w2 HR2.out (by omega) (by omega) (by omega))
      clear hz
      go_wp2_with fail
      refine HP3.out.mono ?_
      rintro e w5 ⟨k, rfl, hk, o5, r5⟩
      have HO5 := Lib.hid (HO2.out.trans o5)
      have hk1 : k ≤ s.size := by omega
      have hk2 : (k : Int) ≤ s.size := by omega
      have r5' : Rd (w5.drewN 1) R A len cap (q + 1 + 1) := r5.below (below_drewN5 w5 1)
      have HOF := Lib.hid (of8t R A len cap (q + 2) (w5.drewN 1) r5' (by omega))
      have HO5' : Hid (Only R w w5.drew) := HO5.out.trans (.of_below (below_drewN5 w5 1))
      clear o5 r5 r5'
      go_wp2_with fail
      go_region_with (first
        | (go_at_call 61; refine HOF.out.mono ?_; rintro e w6 ⟨u, rfl, hu, o6, r6⟩)
        | (go_at_call 34; refine (pick2 R A len cap (q + 2 + 1) 2 _ r6 (by omega) (by omega) (by omega)).mono ?_; rintro e w7 ⟨m, rfl, hm, o7, r7⟩; have hw : IntKind.i64.wrap ((k : Int) + (m : Int)) = ((k + m : Nat) : Int) := by (rw [IntWalk.i64_in _ (by omega)]; omega)))
      all_goals
        have HOX := Lib.hid (HO5'.out.trans (Only.trans o6 o7))
        have HRX := Lib.hid r7
        clear o6 r6 o7 r7
        go_wp2_with fail
        go_ret
        exact ⟨_, q + 4, rfl, by (rw [ByteArray.size_append, ByteArray.size_append, ByteArray.size_extract, ByteArray.size_extract]; omega), HOX.out, HRX.out, by omega⟩

/-- Some text of at most 202 bytes. -/
def DrawnTx (n : Nat) (w : World) (e : Ending) (w' : World) : Prop := ∃ s : ByteArray, e = .returned (.string s) ∧ s.size ≤ n ∧ Below w.heap.size w w'

theorem drawn_tx {n c p : Nat} {A : Option Addr} {len cap : Nat} {w w1 : World} (hb : Below w.heap.size w w1) {e : Ending} {w' : World} (h : DrawTx n c w.heap.size A len cap p w1 e w') : DrawnTx n w e w' := by
  obtain ⟨s, q, rfl, hs, ho, hr, hq⟩ := h
  exact ⟨s, rfl, hs, Only.below hb ho⟩
end Go.Proofs.YtgkamcnbpiipoaaGreat
