/-
  The law FnItems: as many items of a kind as their sign stands in the text; items are of one kind each. With the draws that it makes.
-/
import Derived.Test.YtelhogeaobofpaaLengthLaw
import Derived.Test.YtelhogeaobofpaaTextsLaw
namespace Go.Proofs.Ytelhogeaobofpaa
open Go.RowKit Go.Sort
attribute [local go_sem] Oper.semAt_some

theorem num3t (R : Nat) (A : Option Addr) (len cap p : Nat) (w : World) (h : Rd w R A len cap p) (hp : p ≤ 1048576) :
    Calls Try.prog 59 #[.pointer (some ⟨R, 0, none⟩), .slice (some ⟨w.heap.size, 0, none⟩) 3 3] (w.alloc (.cells #[.int .i64 9, .int .i64 10, .int .i64 8] 3)) fun e w' => ∃ n : Nat, e = .returned (.int .i64 n) ∧ n ≤ 10 ∧ Only R w w' ∧ Rd w' R A len cap (p + 1) := by
  refine (num2 R A len cap p [9, 10, 8] w h (by decide) (by decide) hp).mono ?_
  rintro e w' ⟨z, rfl, hz, o, r⟩
  simp only [List.mem_cons, List.not_mem_nil, or_false] at hz
  refine ⟨z.toNat, ret_int (by omega), by omega, o, r⟩
theorem num2t (a b : Nat) (ha : a ≤ 201) (hb : b ≤ 201) (R : Nat) (A : Option Addr) (len cap p : Nat) (w : World) (h : Rd w R A len cap p) (hp : p ≤ 1048576) :
    Calls Try.prog 59 #[.pointer (some ⟨R, 0, none⟩), .slice (some ⟨w.heap.size, 0, none⟩) 2 2] (w.alloc (.cells #[.int .i64 a, .int .i64 b] 3)) fun e w' => ∃ n : Nat, e = .returned (.int .i64 n) ∧ n ≤ 201 ∧ Only R w w' ∧ Rd w' R A len cap (p + 1) := by
  refine (num2 R A len cap p [(a : Int), (b : Int)] w h (by simp) (by simp) hp).mono ?_
  rintro e w' ⟨z, rfl, hz, o, r⟩
  simp only [List.mem_cons, List.not_mem_nil, or_false] at hz
  refine ⟨z.toNat, ret_int (by omega), by omega, o, r⟩
theorem of3t (a b c : ByteArray) (ha : a.size ≤ 1300) (hb : b.size ≤ 1300) (hc : c.size ≤ 1300) (R : Nat) (A : Option Addr) (len cap p : Nat) (w : World) (h : Rd w R A len cap p) (hp : p ≤ 1048576) :
    Calls Try.prog 57 #[.pointer (some ⟨R, 0, none⟩), .slice (some ⟨w.heap.size, 0, none⟩) 3 3] (w.alloc (.cells #[.string a, .string b, .string c] 9)) fun e w' => ∃ s : ByteArray, e = .returned (.string s) ∧ s.size ≤ 1300 ∧ Only R w w' ∧ Rd w' R A len cap (p + 1) := by
  refine (of2 R A len cap p [a, b, c] w h (by simp) (by simp) hp).mono ?_
  rintro e w' ⟨z, rfl, hz, o, r⟩
  refine ⟨z, rfl, ?_, o, r⟩
  simp only [List.mem_cons, List.not_mem_nil, or_false] at hz
  rcases hz with rfl | rfl | rfl
  · exact ha
  · exact hb
  · exact hc
theorem of11t (R : Nat) (A : Option Addr) (len cap p : Nat) (w : World) (h : Rd w R A len cap p) (hp : p ≤ 1048576) :
    Calls Try.prog 57 #[.pointer (some ⟨R, 0, none⟩), .slice (some ⟨w.heap.size, 0, none⟩) 11 11] (w.alloc (.cells #[.string ⟨#[88]⟩, .string ⟨#[63]⟩, .string ⟨#[40]⟩, .string ⟨#[123]⟩, .string ⟨#[94]⟩, .string ⟨#[46]⟩, .string ⟨#[61]⟩, .string ⟨#[35]⟩, .string ⟨#[65]⟩, .string ⟨#[]⟩, .string ⟨#[40, 41]⟩] 9)) fun e w' => ∃ s : ByteArray, e = .returned (.string s) ∧ s.size ≤ 2 ∧ Only R w w' ∧ Rd w' R A len cap (p + 1) := by
  refine (of2 R A len cap p [⟨#[88]⟩, ⟨#[63]⟩, ⟨#[40]⟩, ⟨#[123]⟩, ⟨#[94]⟩, ⟨#[46]⟩, ⟨#[61]⟩, ⟨#[35]⟩, ⟨#[65]⟩, ⟨#[]⟩, ⟨#[40, 41]⟩] w h (by decide) (by decide) hp).mono ?_
  rintro e w' ⟨z, rfl, hz, o, r⟩
  refine ⟨z, rfl, ?_, o, r⟩
  revert z; decide

set_option maxRecDepth 100000 in
theorem drawCountItems_any (A : Option Addr) (len cap : Nat) (w : World) (hb : Bytes w A len) (hlc : len ≤ cap) (hl : cap ≤ 9223372036854775807) :
    Calls Try.prog 32 #[.slice A len cap] w fun e w' => ∃ s t : ByteArray, e = .returned (.tuple #[.string s, .string t]) ∧ s.size ≤ 202 ∧ t.size ≤ 2 ∧ Below w.heap.size w w' := by
  have HC := Lib.hid (open_any A len cap w hb hlc hl)
  clear hb
  go_enter Try.func32, Try.ntmps32
  go_wp2_with fail
  refine HC.out.mono ?_
  rintro e w1 ⟨A', len', cap', rfl, hrd, b1⟩
  have HB := Lib.hid b1
  have HA := Lib.hid (any5_any w.heap.size A' len' cap' 0 w1 hrd (by omega))
  clear hrd b1
  go_wp2_with fail
  refine HA.out.mono ?_
  rintro e w2 ⟨s, q, rfl, hs, o2, r2, hq⟩
  have HO2 := Lib.hid (Only.below HB.out o2)
  have HF := Lib.hid (of11t w.heap.size A' len' cap' q w2 r2 (by omega))
  clear o2 r2
  go_wp2_with fail
  refine HF.out.mono ?_
  rintro e w3 ⟨t, rfl, ht, o3, r3⟩
  have HO3 := Lib.hid (Only.below HO2.out o3)
  clear o3 r3
  go_wp2_with fail
  go_ret2
  exact ⟨s, t, rfl, hs, ht, HO3.out⟩

set_option maxRecDepth 100000 in
set_option maxHeartbeats 1600000 in
theorem drawTextValid_any (A : Option Addr) (len cap : Nat) (w : World) (hb : Bytes w A len) (hlc : len ≤ cap) (hl : cap ≤ 9223372036854775807) :
    Calls Try.prog 33 #[.slice A len cap] w (DrawnTx 1300 w) := by
  have HC := Lib.hid (open_any A len cap w hb hlc hl)
  clear hb
  go_enter Try.func33, Try.ntmps33
  go_wp2_with fail
  refine HC.out.mono ?_
  rintro e w1 ⟨A', len', cap', rfl, hrd, b1⟩
  have HB := Lib.hid b1
  have HP := Lib.hid (pick2 w.heap.size A' len' cap' 0 14 w1 hrd (by omega) (by omega) (by omega))
  clear hrd b1
  go_wp2_with fail
  refine HP.out.mono ?_
  rintro e w2 ⟨x, rfl, hx, o2, r2⟩
  have HO2 := Lib.hid (Only.below HB.out o2)
  have HR2 := Lib.hid r2
  clear o2 r2
  by_cases h0 : x = 0
  · subst h0
    have HN := Lib.hid (num3t w.heap.size A' len' cap' 1 w2 HR2.out (by omega))
    go_wp2_with fail
    refine HN.out.mono ?_
    rintro e w3 ⟨k, rfl, hk, o3, r3⟩
    have HO3 := Lib.hid (Only.below HO2.out o3)
    have HN2 := Lib.hid (num2t 10 11 (by omega) (by omega) w.heap.size A' len' cap' 2 w3 r3 (by omega))
    clear o3 r3
    go_wp2_with fail
    refine HN2.out.mono ?_
    rintro e w4 ⟨n, rfl, hn, o4, r4⟩
    have HO4 := Lib.hid (Only.below HO3.out o4)
    have HR4 := Lib.hid r4
    clear o4 r4
    go_wp2_with fail
    refine (many_all ⟨#[40]⟩ k w4 (by decide) (by omega)).mono ?_
    rintro e w5 ⟨ta, rfl, hta, rfl⟩
    go_wp2_with fail
    refine (many_all ⟨#[41]⟩ k w4 (by decide) (by omega)).mono ?_
    rintro e w5 ⟨tb', rfl, htb, rfl⟩
    have HN3 := Lib.hid (num2t 200 201 (by omega) (by omega) w.heap.size A' len' cap' 3 w4 HR4.out (by omega))
    go_wp2_with fail
    refine HN3.out.mono ?_
    rintro e w5 ⟨m, rfl, hm, o5, r5⟩
    have HO5 := Lib.hid (Only.below HO4.out o5)
    have HR5 := Lib.hid r5
    clear o5 r5
    go_wp2_with fail
    refine (many_all ⟨#[65]⟩ m w5 (by decide) (by omega)).mono ?_
    rintro e w6 ⟨tc, rfl, htc, rfl⟩
    go_wp2_with fail
    refine (many_all ⟨#[91, 65, 93]⟩ n w5 (by decide) (by omega)).mono ?_
    rintro e w6 ⟨td, rfl, htd, rfl⟩
    have HF := Lib.hid (of3t (ta ++ ⟨#[65]⟩ ++ tb') tc (⟨#[35]⟩ ++ td) (by rw [ByteArray.size_append, ByteArray.size_append, sz1]; omega) (by omega) (by rw [ByteArray.size_append, sz1]; omega) w.heap.size A' len' cap' 4 w5 HR5.out (by omega))
    go_wp2_with fail
    refine HF.out.mono ?_
    rintro e w6 ⟨s, rfl, hs, o6, r6⟩
    have HO6 := Lib.hid (Only.below HO5.out o6)
    clear o6 r6
    go_wp2_with fail
    go_ret
    exact ⟨s, rfl, hs, HO6.out⟩
  · have g0 : ((x : Int) == 0) = false := by simp; omega
    have HA := Lib.hid (any5_any w.heap.size A' len' cap' 1 w2 HR2.out (by omega))
    clear h0
    go_wp2_with fail
    refine HA.out.mono ?_
    rintro e w3 ⟨s, q, rfl, hs, o3, r3, hq⟩
    have HO3 := Lib.hid (Only.below HO2.out o3)
    clear o3 r3
    go_wp2_with fail
    go_ret
    exact ⟨s, rfl, by omega, HO3.out⟩

/-- How often a sign stands among the first bytes. -/
def sgN (s t : ByteArray) (i : Nat) : Nat := (List.range i).countP fun j => decide (s.extract j (j + 1) = t)
theorem sgN_step (s t : ByteArray) (i : Nat) : sgN s t (i + 1) = sgN s t i + (if s.extract i (i + 1) = t then 1 else 0) := by
  unfold sgN
  rw [List.range_succ, List.countP_append, List.countP_cons, List.countP_nil, Nat.zero_add]
  simp
theorem sgN_le (s t : ByteArray) (i : Nat) : sgN s t i ≤ i := by
  have h : sgN s t i ≤ (List.range i).length := List.countP_le_length ..
  rw [List.length_range] at h; exact h
theorem sgN_bc (s : ByteArray) (c : UInt8) : ∀ (i : Nat), i ≤ s.size → sgN s ⟨#[c]⟩ i = bc c (s.data.toList.take i)
  | 0, _ => by rw [List.take_zero]; rfl
  | i + 1, h => by
    have hil : i < s.data.toList.length := by simp; omega
    rw [sgN_step, sgN_bc s c i (by omega), bc_step hil]
    have e : s.extract i (i + 1) = tb [s.data.toList[i]] := by
      have := tb_one s.data.toList i hil
      rw [tb_of] at this; exact this
    by_cases hc : s.data.toList[i] = c
    · rw [if_pos hc, if_pos (by rw [e, hc]; rfl)]
    · rw [if_neg hc, if_neg fun h2 => hc (by
        rw [e] at h2
        have := congrArg (fun b : ByteArray => b.data.toList) h2
        simpa [tb] using this)]
theorem sgN_all (s : ByteArray) (c : UInt8) : sgN s ⟨#[c]⟩ s.size = bc c s.data.toList := by
  rw [sgN_bc s c s.size (Nat.le_refl _)]
  have : s.data.toList.length = s.size := by simp
  rw [← this, List.take_length]
theorem sgKind_cases {s t : ByteArray} : (textB s.data.toList = false ∧ countZ s.data.toList t.data.toList = -1) ∨
    (textB s.data.toList = true ∧ ((countZ s.data.toList t.data.toList = -1) ∨ (t = ⟨#[88]⟩ ∧ 0 ≤ countZ s.data.toList t.data.toList) ∨ (t ≠ ⟨#[88]⟩ ∧ countZ s.data.toList t.data.toList = (sgN s t s.size : Int)))) := by
  cases htb : textB s.data.toList with
  | false => exact .inl ⟨rfl, countZ_no fun l _ hl _ _ => textB_not htb l hl⟩
  | true =>
    refine .inr ⟨rfl, ?_⟩
    obtain ⟨l, hl⟩ := textB_get htb
    by_cases hk : ∃ c, t.data.toList = [c] ∧ c ∈ ([88, 63, 40, 123, 94, 46, 61, 35] : List UInt8)
    · obtain ⟨c, e, hc⟩ := hk
      have ht : t = ⟨#[c]⟩ := by apply ba_ext; rw [e]
      have hz := countZ_yes hl e hc
      right
      by_cases h88 : c = 88
      · left
        exact ⟨by rw [ht, h88], by rw [hz]; omega⟩
      · right
        refine ⟨fun h => h88 (by rw [ht] at h; have := congrArg (fun b : ByteArray => b.data.toList) h; simpa using this), ?_⟩
        rw [hz, ht, sgN_all, hl.2.2]
        have hs := sgn_all
        have hlet : ∀ x ∈ ([63, 40, 123, 94, 46, 61, 35] : List UInt8), Sgn x ∧ x ≠ 91 ∧ x ≠ 93 ∧ x ≠ 41 ∧ x ≠ 125 ∧ x ≠ 88 := by
          intro x hx
          simp only [List.mem_cons, List.not_mem_nil, or_false] at hx
          rcases hx with rfl | rfl | rfl | rfl | rfl | rfl | rfl
          · exact ⟨hs.1, by decide, by decide, by decide, by decide, by decide⟩
          · exact ⟨hs.2.1, by decide, by decide, by decide, by decide, by decide⟩
          · exact ⟨hs.2.2.1, by decide, by decide, by decide, by decide, by decide⟩
          · exact ⟨hs.2.2.2.1, by decide, by decide, by decide, by decide, by decide⟩
          · exact ⟨hs.2.2.2.2.1, by decide, by decide, by decide, by decide, by decide⟩
          · exact ⟨hs.2.2.2.2.2.1, by decide, by decide, by decide, by decide, by decide⟩
          · exact ⟨hs.2.2.2.2.2.2.1, by decide, by decide, by decide, by decide, by decide⟩
        have hc2 : c ∈ ([63, 40, 123, 94, 46, 61, 35] : List UInt8) := by
          rcases List.mem_cons.1 hc with h | h
          · exact absurd h h88
          · exact h
        obtain ⟨a1, a2, a3, a4, a5, a6⟩ := hlet c hc2
        rw [bc_okL a1 a2 a3 a4 a5 a6 l 0 hl.2.1]
    · left
      exact countZ_no fun l c _ e hc => hk ⟨c, e, hc⟩

set_option maxRecDepth 100000 in
set_option maxHeartbeats 6400000 in
theorem exFnItems_walk (A : Option Addr) (len cap : Nat) (A' : Option Addr) (len' cap' : Nat) (w : World) (hb : Bytes w A len) (hlc : len ≤ cap) (hl : cap ≤ 9223372036854775807) (hb' : Bytes w A' len') (hlc' : len' ≤ cap') (hl' : cap' ≤ 9223372036854775807) :
    Calls Try.prog 9 #[.slice A len cap, .slice A' len' cap'] w fun e w' => e = .returned (.bool true) ∧ Below w.heap.size w w' := by
  by_cases hbig : 1048576 < len
  · have g0 : decide ((1048576 : Int) < len) = true := by simp; omega
    go_enter Try.func9, Try.ntmps9
    go_wp2_with fail
    go_ret
    exact ⟨rfl, Below.refl _ _⟩
  · have g0 : decide ((1048576 : Int) < len) = false := by simp; omega
    by_cases hbig' : 1048576 < len'
    · have g0' : decide ((1048576 : Int) < len') = true := by simp; omega
      go_enter Try.func9, Try.ntmps9
      go_wp2_with fail
      go_ret
      exact ⟨rfl, Below.refl _ _⟩
    · have g0' : decide ((1048576 : Int) < len') = false := by simp; omega
      have HD := Lib.hid (drawCountItems_any A len cap w hb hlc hl)
      have HBY := Lib.hid hb'
      clear hb hb'
      go_enter Try.func9, Try.ntmps9
      go_wp2_with fail
      refine HD.out.mono ?_
      rintro e w1 ⟨s, t, rfl, hs, ht, b1⟩
      have HB1 := Lib.hid b1
      have HD2 := Lib.hid (fun (W : World) (h : Below w.heap.size w W) => drawTextValid_any A' len' cap' W (HBY.out.below h) hlc' hl')
      clear b1
      have HI := Lib.hid (implItems_text s t)
      have SI := Lib.hid (fun W => specItems_text s t W (by omega) (by omega))
      have VT := Lib.hid (implValid_text s)
      have BT := Lib.hid (implBlocks_text s)
      have CX := Lib.hid (implItems_text s ⟨#[88]⟩)
      have CQ := Lib.hid (implItems_text s ⟨#[63]⟩)
      go_wp2_with fail
      refine (HI.out w1).mono ?_
      rintro e w2 ⟨rfl, b2⟩
      have HB2 := Lib.hid (below_trans_self HB1.out b2)
      have HD2' := Lib.hid (HD2.out w2 HB2.out)
      clear b2 HD2
      go_wp2_with fail
      refine HD2'.out.mono ?_
      rintro e w3 ⟨u, rfl, hu, b3⟩
      have HB3 := Lib.hid (below_trans_self HB2.out b3)
      clear b3
      have VO := Lib.hid (implValid_text u)
      have SO := Lib.hid (fun W => specValid_text u W (by omega))
      generalize textB u.data.toList = ou at VO SO
      rcases sgKind_cases (s := s) (t := t) with ⟨htb, hz⟩ | ⟨htb, hz⟩
      · rw [htb] at VT
        rw [hz] at HI SI
        rw [hz]
        clear htb hz
        go_wp2_with fail
        refine (SI.out w3).mono ?_
        rintro e w4 ⟨rfl, b4⟩
        have HB4 := Lib.hid (below_trans_self HB3.out b4)
        clear b4
        go_wp2_with fail
        refine (VO.out w4).mono ?_
        rintro e w5 ⟨rfl, b5⟩
        have HB5 := Lib.hid (below_trans_self HB4.out b5)
        clear b5
        go_wp2_with fail
        refine (SO.out w5).mono ?_
        rintro e w6 ⟨rfl, b6⟩
        have HB6 := Lib.hid (below_trans_self HB5.out b6)
        clear b6
        go_wp2_with fail
        refine (VT.out w6).mono ?_
        rintro e w7 ⟨rfl, b7⟩
        have HB7 := Lib.hid (below_trans_self HB6.out b7)
        clear b7
        go_wp2_with fail
        go_ret
        exact ⟨rfl, HB7.out⟩
      · obtain ⟨l, hl1⟩ := textB_get htb
        rw [htb] at VT BT
        rw [blocksV_yes hl1] at BT
        rw [show countZ s.data.toList (⟨#[88]⟩ : ByteArray).data.toList = (cnL 88 l : Int) from countZ_yes hl1 rfl (by decide)] at CX
        rw [show countZ s.data.toList (⟨#[63]⟩ : ByteArray).data.toList = (cnL 63 l : Int) from countZ_yes hl1 rfl (by decide)] at CQ
        have hbl := bl_lenL l
        have hz2 : (tb (blL l)).size = cnL 88 l + cnL 63 l := by rw [tb_size]; exact hbl
        have hm : cnL 88 l + cnL 63 l ≤ 200 := by rw [← hbl, ← blocksV_yes hl1]; exact blV_len
        generalize countZ s.data.toList t.data.toList = z at *
        generalize tb (blL l) = nm at *
        generalize cnL 88 l = cx at *
        generalize cnL 63 l = cq at *
        have HZ := Lib.hid hz
        have s1 : IntKind.i64.wrap ((cx : Int) + (cq : Int)) = (cx : Int) + (cq : Int) := IntWalk.i64_in _ (by omega)
        have e1 : ((cx : Int) + (cq : Int) != (nm.size : Int)) = false := by rw [hz2]; simp
        clear htb hz hl1 hbl
        go_wp2_with fail
        refine (SI.out w3).mono ?_
        rintro e w4 ⟨rfl, b4⟩
        have HB4 := Lib.hid (below_trans_self HB3.out b4)
        clear b4
        go_wp2_with fail
        refine (VO.out w4).mono ?_
        rintro e w5 ⟨rfl, b5⟩
        have HB5 := Lib.hid (below_trans_self HB4.out b5)
        clear b5
        go_wp2_with fail
        refine (SO.out w5).mono ?_
        rintro e w6 ⟨rfl, b6⟩
        have HB6 := Lib.hid (below_trans_self HB5.out b6)
        clear b6
        go_wp2_with fail
        refine (VT.out w6).mono ?_
        rintro e w7 ⟨rfl, b7⟩
        have HB7 := Lib.hid (below_trans_self HB6.out b7)
        clear b7
        go_wp2_with fail
        refine (BT.out w7).mono ?_
        rintro e w8 ⟨rfl, b8⟩
        have HB8 := Lib.hid (below_trans_self HB7.out b8)
        clear b8
        go_wp2_with fail
        refine (CX.out w8).mono ?_
        rintro e w9 ⟨rfl, b9⟩
        have HB9 := Lib.hid (below_trans_self HB8.out b9)
        clear b9
        go_wp2_with fail
        refine (CQ.out w9).mono ?_
        rintro e w10 ⟨rfl, b10⟩
        have HB10 := Lib.hid (below_trans_self HB9.out b10)
        clear b10
        go_wp2_with fail
        go_loopg [11, 63] s.size (fun gk sv iv wr => ∃ i : Nat, gk = s.size - i ∧ i ≤ s.size ∧ iv = .int .i64 i ∧ sv = .int .i64 (sgN s t i : Nat) ∧ Hid (Below w.heap.size w wr))
        case atStart => exact ⟨0, by omega, Nat.zero_le _, rfl, rfl, HB10.out⟩
        case round =>
          obtain ⟨i, rfl, hi, rfl, rfl, HB⟩ := hrel
          have hle := sgN_le s t i
          by_cases hil : i < s.size
          · have HST := Lib.hid (sgN_step s t i)
            have hi1 : i + 1 ≤ s.size := by omega
            obtain ⟨m, hm2⟩ : ∃ m, m = sgN s t i := ⟨_, rfl⟩
            rw [← hm2] at HST hle
            rw [← hm2]
            clear hm2
            by_cases he : s.extract i (i + 1) = t
            · have G := Lib.hid (show (if s.extract i (i + 1) = t then 1 else 0) = 1 from if_pos he)
              have ge : ((s.extract i (i + 1)).toList == t.toList) = true := beq_toList.2 he
              clear he
              go_wp2_with fail
              go_roundg (s.size - (i + 1))
              case measure => omega
              case rel => exact ⟨i + 1, rfl, by omega, by go_num, by rw [HST.out, G.out]; rfl, HB.out⟩
            · have G := Lib.hid (show (if s.extract i (i + 1) = t then 1 else 0) = 0 from if_neg he)
              have ge : ((s.extract i (i + 1)).toList == t.toList) = false := by
                cases h : ((s.extract i (i + 1)).toList == t.toList) with
                | false => rfl
                | true => exact absurd (beq_toList.1 h) he
              clear he
              go_wp2_with fail
              go_roundg (s.size - (i + 1))
              case measure => omega
              case rel => exact ⟨i + 1, rfl, by omega, by go_num, by rw [HST.out, G.out]; rfl, HB.out⟩
          · obtain rfl : i = s.size := by omega
            clear hi hil
            rcases HZ.out with hz | ⟨hk, hz⟩ | ⟨hk, hz⟩
            · subst hz
              go_wp2_with fail
              go_ret
              exact ⟨rfl, HB.out⟩
            · have gz : decide (z < 0) = false := decide_eq_false (by omega)
              have gk : (t.toList == [88]) = true := by rw [hk, show (⟨#[88]⟩ : ByteArray).toList = [88] from tb_toList [88]]; rfl
              clear hk
              go_wp2_with fail
              all_goals
                go_ret
                exact ⟨rfl, HB.out⟩
            · have gk : (t.toList == [88]) = false := by
                rw [← show (⟨#[88]⟩ : ByteArray).toList = [88] from tb_toList [88]]
                cases h : (t.toList == (⟨#[88]⟩ : ByteArray).toList) with
                | false => rfl
                | true => exact absurd (beq_toList.1 h) hk
              have gz : decide (z < 0) = false := decide_eq_false (by omega)
              have gq : (z == ((sgN s t s.size : Nat) : Int)) = true := by rw [hz]; simp
              clear hk
              subst hz
              go_wp2_with fail
              all_goals
                go_ret
                exact ⟨rfl, HB.out⟩
end Go.Proofs.Ytelhogeaobofpaa
