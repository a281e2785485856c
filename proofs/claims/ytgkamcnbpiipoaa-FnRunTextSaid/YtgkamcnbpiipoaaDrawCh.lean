/-
  Contracts of the model's l16Many and l2Choices.
-/
import Derived.Test.YtgkamcnbpiipoaaRd
import Derived.Laws.IdiomStrings
import Derived.IntWalk
namespace Go.Proofs.Ytgkamcnbpiipoaa
open Go.RowKit Go.Sort

theorem many_step {x n m r : Nat} (h : n = 2 * m + r) : (x + x) * m + r * x = x * n := by
  subst h
  rw [Nat.mul_add, Nat.add_mul, Nat.mul_comm r x, Nat.mul_left_comm x 2 m]
  omega

set_option maxRecDepth 100000 in
theorem many_any (s : ByteArray) (n : Nat) (w : World) (hs : s.size = 1) (hn : n ≤ 100) :
    Calls Try.prog 68 #[.string s, .int .i64 n] w fun e w' => ∃ t : ByteArray, e = .returned (.string t) ∧ t.size ≤ 100 ∧ w = w' := by
  go_enter Try.func68, Try.ntmps68
  go_wp2
  go_loop [0, 1, 5] (fun x c o => ∃ (a : ByteArray) (k : Nat) (t : ByteArray), x = .string a ∧ c = .int .i64 k ∧ o = .string t ∧ a.size ≤ 200 ∧ k ≤ 100 ∧ t.size + a.size * k ≤ 100) (fun _ c _ => (intOf c).toNat)
  case atStart => exact ⟨s, n, ⟨#[]⟩, rfl, rfl, rfl, by omega, hn, by rw [hs, Nat.one_mul]; show 0 + n ≤ 100; omega⟩
  case round =>
    obtain ⟨a, k, t, rfl, rfl, rfl, ha, hk, ht⟩ := hrel
    by_cases hk0 : 0 < k
    · have g0 : decide ((0 : Int) < k) = true := by simp; omega
      have hak : a.size ≤ a.size * k := Nat.le_mul_of_pos_right _ hk0
      have hts : t.size ≤ 100 := by omega
      have ha2 : a.size ≤ 100 := by omega
      by_cases hodd : k % 2 = 1
      · have g1 : ((k : Int) % 2 == 1) = true := by simp; omega
        have HS := Lib.hid (many_step (x := a.size) (n := k) (m := k / 2) (r := 1) (by omega))
        have HT := Lib.hid ht
        clear ht hodd hak
        go_wp2
        go_round
        case rel =>
          have h1 := HS.out; have h2 := HT.out
          exact ⟨a ++ a, k / 2, t ++ a, rfl, by go_num, rfl, by rw [ByteArray.size_append]; omega, by omega, by rw [ByteArray.size_append, ByteArray.size_append]; omega⟩
        case measure => simp [intOf]; omega
      · have g1 : ((k : Int) % 2 == 1) = false := by simp; omega
        have HS := Lib.hid (many_step (x := a.size) (n := k) (m := k / 2) (r := 0) (by omega))
        have HT := Lib.hid ht
        clear ht hodd hak
        go_wp2
        go_round
        case rel =>
          have h1 := HS.out; have h2 := HT.out
          exact ⟨a ++ a, k / 2, t, rfl, by go_num, rfl, by rw [ByteArray.size_append]; omega, by omega, by rw [ByteArray.size_append]; omega⟩
        case measure => simp [intOf]; omega
    · have hk00 : k = 0 := by omega
      subst hk00
      go_wp2
      go_ret
      exact ⟨t, rfl, by omega, rfl⟩

theorem num6 (R : Nat) (A : Option Addr) (len cap p : Nat) (w : World) (h : Rd w R A len cap p) (hp : p ≤ 1048576) :
    Calls Try.prog 64 #[.pointer (some ⟨R, 0, none⟩), .slice (some ⟨w.heap.size, 0, none⟩) 6 6] (w.alloc (.cells #[.int .i64 4, .int .i64 6, .int .i64 8, .int .i64 3, .int .i64 12, .int .i64 0] 3)) fun e w' => ∃ n : Nat, e = .returned (.int .i64 n) ∧ n ≤ 12 ∧ Only R w w' ∧ Rd w' R A len cap (p + 1) := by
  refine (num2 R A len cap p [4, 6, 8, 3, 12, 0] w h (by decide) (by decide) hp).mono ?_
  rintro e w' ⟨z, rfl, hz, o, r⟩
  simp only [List.mem_cons, List.not_mem_nil, or_false] at hz
  refine ⟨z.toNat, ret_int (by omega), by omega, o, r⟩

theorem num2b (R : Nat) (A : Option Addr) (len cap p : Nat) (w : World) (h : Rd w R A len cap p) (hp : p ≤ 1048576) :
    Calls Try.prog 64 #[.pointer (some ⟨R, 0, none⟩), .slice (some ⟨w.heap.size, 0, none⟩) 2 2] (w.alloc (.cells #[.int .i64 20, .int .i64 21] 3)) fun e w' => ∃ n : Nat, e = .returned (.int .i64 n) ∧ n ≤ 21 ∧ Only R w w' ∧ Rd w' R A len cap (p + 1) := by
  refine (num2 R A len cap p [20, 21] w h (by decide) (by decide) hp).mono ?_
  rintro e w' ⟨z, rfl, hz, o, r⟩
  simp only [List.mem_cons, List.not_mem_nil, or_false] at hz
  refine ⟨z.toNat, ret_int (by omega), by omega, o, r⟩

theorem ofLR (R : Nat) (A : Option Addr) (len cap p : Nat) (w : World) (h : Rd w R A len cap p) (hp : p ≤ 1048576) :
    Calls Try.prog 48 #[.pointer (some ⟨R, 0, none⟩), .slice (some ⟨w.heap.size, 0, none⟩) 2 2] (w.alloc (.cells #[.string ⟨#[108]⟩, .string ⟨#[114]⟩] 9)) fun e w' => ∃ s : ByteArray, e = .returned (.string s) ∧ s.size ≤ 1 ∧ Only R w w' ∧ Rd w' R A len cap (p + 1) := by
  refine (of2 R A len cap p [⟨#[108]⟩, ⟨#[114]⟩] w h (by decide) (by decide) hp).mono ?_
  rintro e w' ⟨z, rfl, hz, o, r⟩
  refine ⟨z, rfl, ?_, o, r⟩
  revert z; decide

theorem ofXL (R : Nat) (A : Option Addr) (len cap p : Nat) (w : World) (h : Rd w R A len cap p) (hp : p ≤ 1048576) :
    Calls Try.prog 48 #[.pointer (some ⟨R, 0, none⟩), .slice (some ⟨w.heap.size, 0, none⟩) 3 3] (w.alloc (.cells #[.string ⟨#[120]⟩, .string ⟨#[76]⟩, .string ⟨#[32]⟩] 9)) fun e w' => ∃ s : ByteArray, e = .returned (.string s) ∧ s.size ≤ 1 ∧ Only R w w' ∧ Rd w' R A len cap (p + 1) := by
  refine (of2 R A len cap p [⟨#[120]⟩, ⟨#[76]⟩, ⟨#[32]⟩] w h (by decide) (by decide) hp).mono ?_
  rintro e w' ⟨z, rfl, hz, o, r⟩
  refine ⟨z, rfl, ?_, o, r⟩
  revert z; decide

def ChPost (n R : Nat) (A : Option Addr) (len cap p : Nat) (w : World) (e : Ending) (w' : World) : Prop :=
  ∃ (s : ByteArray) (q : Nat), e = .returned (.string s) ∧ s.size ≤ n ∧ Only R w w' ∧ Rd w' R A len cap q ∧ q ≤ p + 20

set_option maxRecDepth 100000 in
set_option maxHeartbeats 1600000 in
theorem l2Choices_any (R : Nat) (A : Option Addr) (len cap p : Nat) (w : World) (hr : Rd w R A len cap p) (hp : p ≤ 1048000) :
    Calls Try.prog 40 #[.pointer (some ⟨R, 0, none⟩)] w (ChPost 100 R A len cap p w) := by
  have HC := Lib.hid (num6 R A len cap p w hr (by omega))
  clear hr
  go_enter Try.func40, Try.ntmps40
  go_wp2_with fail
  refine HC.out.mono ?_
  rintro e w1 ⟨n, rfl, hn, o1, r1⟩
  have HO1 := Lib.hid o1
  have HR1 := Lib.hid r1
  clear o1 r1
  go_wp2_with fail
  go_loopw [3, 7] (fun s c wr => ∃ (j q : Nat) (t : ByteArray), j ≤ n ∧ c = .int .i64 j ∧ s = .string t ∧ t.size ≤ j ∧ q ≤ p + 1 + j ∧ Rd wr R A len cap q ∧ Only R w wr) (fun _ c _ => n - (intOf c).toNat)
  case atStart => exact ⟨0, p + 1, ⟨#[]⟩, Nat.zero_le _, rfl, rfl, Nat.zero_le _, by omega, HR1.out, HO1.out⟩
  case round =>
    obtain ⟨j, q, t, hj, rfl, rfl, ht, hq, hrd, ho⟩ := hrel
    have HRD := Lib.hid hrd
    have HO := Lib.hid ho
    clear hrd ho
    by_cases hlt : j < n
    · have HL := Lib.hid (ofLR R A len cap q wr HRD.out (by omega))
      go_wp2_with fail
      refine HL.out.mono ?_
      rintro e w2 ⟨s, rfl, hs, o2, r2⟩
      have HO2 := Lib.hid (HO.out.trans o2)
      have HR2 := Lib.hid r2
      clear o2 r2
      go_wp2_with fail
      go_roundw
      case rel => exact ⟨j + 1, q + 1, _, by omega, by go_num, rfl, by rw [ByteArray.size_append]; omega, by omega, HR2.out, HO2.out⟩
      case measure => simp [intOf]; omega
    · have HP := Lib.hid (pick2 R A len cap q 24 wr HRD.out (by omega) (by omega) (by omega))
      go_wp2_with fail
      refine HP.out.mono ?_
      rintro e w2 ⟨x, rfl, hx, o2, r2⟩
      have HO2 := Lib.hid (HO.out.trans o2)
      have HR2 := Lib.hid r2
      clear o2 r2
      by_cases h0 : x = 0
      · have g0 : ((x : Int) == 0) = true := by rw [h0]; rfl
        have HL := Lib.hid (ofXL R A len cap (q + 1) w2 HR2.out (by omega))
        clear h0
        go_wp2_with fail
        refine HL.out.mono ?_
        rintro e w3 ⟨s, rfl, hs, o3, r3⟩
        have HO3 := Lib.hid (HO2.out.trans o3)
        have HR3 := Lib.hid r3
        clear o3 r3
        go_wp2_with fail
        go_ret
        exact ⟨_, q + 2, rfl, by rw [ByteArray.size_append]; omega, HO3.out, HR3.out, by omega⟩
      · have g0 : ((x : Int) == 0) = false := by simp; omega
        by_cases h1 : x = 1
        · have g1 : ((x : Int) == 1) = true := by rw [h1]; rfl
          have HN := Lib.hid (num2b R A len cap (q + 1) w2 HR2.out (by omega))
          clear h0 h1
          go_wp2_with fail
          refine HN.out.mono ?_
          rintro e w3 ⟨m, rfl, hm, o3, r3⟩
          have HO3 := Lib.hid (HO2.out.trans o3)
          have HR3 := Lib.hid r3
          clear o3 r3
          go_wp2_with fail
          refine (many_any ⟨#[108]⟩ m w3 rfl (by omega)).mono ?_
          rintro e w4 ⟨s, rfl, hs, rfl⟩
          go_wp2_with fail
          go_ret
          exact ⟨_, q + 2, rfl, hs, HO3.out, HR3.out, by omega⟩
        · have g1 : ((x : Int) == 1) = false := by simp; omega
          clear h0 h1
          go_wp2_with fail
          go_ret
          exact ⟨_, q + 1, rfl, by omega, HO2.out, HR2.out, by omega⟩
end Go.Proofs.Ytgkamcnbpiipoaa
