/-
  Contract of the model's DrawEndsSilently.
-/
import Derived.Test.YtgkamcnbpiipoaaDrawRunText
namespace Go.Proofs.Ytgkamcnbpiipoaa
open Go.RowKit Go.Sort

theorem of5s (R : Nat) (A : Option Addr) (len cap p : Nat) (w : World) (h : Rd w R A len cap p) (hp : p ≤ 1048576) :
    Calls Try.prog 48 #[.pointer (some ⟨R, 0, none⟩), .slice (some ⟨w.heap.size, 0, none⟩) 5 5] (w.alloc (.cells #[.string ⟨#[65, 123, 94, 48, 125]⟩, .string ⟨#[123, 61, 49, 94, 48, 125]⟩, .string ⟨#[123, 63, 65, 91, 123, 94, 48, 125, 93, 91, 94, 48, 93, 125]⟩, .string ⟨#[40, 123, 94, 48, 125, 41, 65]⟩, .string ⟨#[65, 123, 66, 94, 48, 125]⟩] 9)) fun e w' => ∃ s : ByteArray, e = .returned (.string s) ∧ s.size ≤ 202 ∧ Only R w w' ∧ Rd w' R A len cap (p + 1) := by
  refine (of2 R A len cap p [⟨#[65, 123, 94, 48, 125]⟩, ⟨#[123, 61, 49, 94, 48, 125]⟩, ⟨#[123, 63, 65, 91, 123, 94, 48, 125, 93, 91, 94, 48, 93, 125]⟩, ⟨#[40, 123, 94, 48, 125, 41, 65]⟩, ⟨#[65, 123, 66, 94, 48, 125]⟩] w h (by decide) (by decide) hp).mono ?_
  rintro e w' ⟨z, rfl, hz, o, r⟩
  refine ⟨z, rfl, ?_, o, r⟩
  revert z; decide

set_option maxRecDepth 100000 in
theorem drawEnds_any (A : Option Addr) (len cap : Nat) (w : World) (hb : Bytes w A len) (hlc : len ≤ cap) (hl : cap ≤ 9223372036854775807) :
    Calls Try.prog 14 #[.slice A len cap] w (DrawnTC w) := by
  have HC := Lib.hid (open_any A len cap w hb hlc hl)
  clear hb
  go_enter Try.func14, Try.ntmps14
  go_wp2_with fail
  refine HC.out.mono ?_
  rintro e w1 ⟨A', len', cap', rfl, hrd, b1⟩
  have HB := Lib.hid b1
  have HP := Lib.hid (pick2 w.heap.size A' len' cap' 0 3 w1 hrd (by omega) (by omega) (by omega))
  clear hrd b1
  go_wp2_with fail
  refine HP.out.mono ?_
  rintro e w2 ⟨x, rfl, hx, o2, r2⟩
  have HB2 := Lib.hid (Only.below HB.out o2)
  have HR2 := Lib.hid r2
  clear o2 r2
  by_cases h0 : x = 0
  · have g0 : ((x : Int) == 0) = true := by rw [h0]; rfl
    have HF := Lib.hid (of5s w.heap.size A' len' cap' 1 w2 HR2.out (by omega))
    clear h0
    go_wp2_with fail
    refine HF.out.mono ?_
    rintro e w3 ⟨s, rfl, hs, o3, r3⟩
    have HB3 := Lib.hid (Only.below HB2.out o3)
    have HCH := Lib.hid (l2Choices_any w.heap.size A' len' cap' 2 w3 r3 (by omega))
    clear o3 r3
    go_wp2_with fail
    refine HCH.out.mono ?_
    rintro e w4 ⟨t, q3, rfl, ht, ho3, _, _⟩
    have HB4 := Lib.hid (Only.below HB3.out ho3)
    clear ho3
    go_wp2_with fail
    exact bodyPost_ret (v := .tuple #[.string s, .string t]) (by simp [results, Try.results14, go_sem]) rfl ⟨s, t, rfl, hs, ht, HB4.out⟩
  · have g0 : ((x : Int) == 0) = false := by simp; omega
    have HA := Lib.hid (any5_any w.heap.size A' len' cap' 1 w2 HR2.out (by omega))
    clear h0
    go_wp2_with fail
    refine HA.out.mono ?_
    rintro e w3 ⟨s, q, rfl, hs, ho, hr, hq⟩
    have HB3 := Lib.hid (Only.below HB2.out ho)
    have HCH := Lib.hid (l2Choices_any w.heap.size A' len' cap' q w3 hr (by omega))
    clear ho hr
    go_wp2_with fail
    refine HCH.out.mono ?_
    rintro e w4 ⟨t, q3, rfl, ht, ho3, _, _⟩
    have HB4 := Lib.hid (Only.below HB3.out ho3)
    clear ho3
    go_wp2_with fail
    exact bodyPost_ret (v := .tuple #[.string s, .string t]) (by simp [results, Try.results14, go_sem]) rfl ⟨s, t, rfl, hs, ht, HB4.out⟩

end Go.Proofs.Ytgkamcnbpiipoaa
