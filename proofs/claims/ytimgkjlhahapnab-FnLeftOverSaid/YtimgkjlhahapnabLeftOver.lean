/-
  The law FnLeftOver, walked.
-/
import Derived.Test.YtimgkjlhahapnabDrawRun
import Derived.Test.YtimgkjlhahapnabSpecRun
import Derived.Test.YtimgkjlhahapnabRunMore
namespace Go.Proofs.Ytimgkjlhahapnab
open Go.RowKit Go.Sort

set_option maxRecDepth 100000 in
set_option maxHeartbeats 1600000 in
theorem leftOver_walk (A : Option Addr) (la ca : Nat) (w : World) (hA : Bytes w A la) (h1 : la ≤ ca) (h3 : ca ≤ 9223372036854775807) :
    Calls Try.prog 13 #[.slice A la ca] w fun e w' => e = .returned (.bool true) ∧ Below w.heap.size w w' := by
  by_cases g1 : (1048576 : Int) < la
  · clear hA
    go_enter Try.func13, Try.ntmps13
    go_wp2_with fail
    go_ret
    exact ⟨rfl, Below.refl _ _⟩
  have HA := Lib.hid (drawRunGraph_any A la ca w hA h1 h3)
  clear hA
  go_enter Try.func13, Try.ntmps13
  go_wp2_with fail
  refine HA.out.mono ?_
  intro e w1 hd1
  obtain ⟨A1, c1, g, s, rfl, hc1, gg, hn1, hs100, b1⟩ := drawnRun_of hd1
  have HB1 := Lib.hid b1
  obtain ⟨x, hx⟩ : ∃ x, x = runT g s := ⟨_, rfl⟩
  obtain ⟨y, hy⟩ : ∃ y, y = runE g s := ⟨_, rfl⟩
  obtain ⟨v, hv⟩ : ∃ v, v = runB g s := ⟨_, rfl⟩
  have HI := Lib.hid (fun w (h : Gr w A1 g) => (implRun_any A1 c1 g s w h (by omega) (by omega)).mono fun e w' h => show e = .returned (.tuple #[.string x, .int .i64 y, .bool v]) ∧ Below w.heap.size w w' from hx ▸ hy ▸ hv ▸ h)
  have HS := Lib.hid (fun w (h : Gr w A1 g) => (specRun_any A1 c1 g s w h (by omega) hc1 (by omega)).mono fun e w' h => show e = .returned (.tuple #[.string x, .int .i64 y, .bool v]) ∧ Below w.heap.size w w' from hx ▸ hy ▸ hv ▸ h)
  have HX := Lib.hid hx
  have HY := Lib.hid hy
  have HV := Lib.hid hv
  clear hd1 b1 hx hy hv
  go_wp2_with fail
  refine (HI.out w1 gg).mono ?_
  rintro e w2 ⟨rfl, b2⟩
  have gg2 := gg.below b2
  have HB2 := Lib.hid (below_trans_self HB1.out b2)
  clear b2
  go_wp2_with fail
  refine (HS.out w2 gg2).mono ?_
  rintro e w3 ⟨rfl, b3⟩
  have gg3 := gg2.below b3
  have HB3 := Lib.hid (below_trans_self HB2.out b3)
  clear b3
  cases v with
  | false =>
    have hxe : x = ⟨#[]⟩ := by rw [HX.out, runT_no HV.out.symm]
    subst hxe
    go_wp2_with fail
    go_ret
    exact ⟨rfl, HB3.out⟩
  | true =>
    by_cases hy1 : y = 1
    · have q1 : (y == 1) = true := by rw [hy1]; rfl
      clear hy1
      go_wp2_with fail
      go_ret
      exact ⟨rfl, HB3.out⟩
    · have q1 : (y == 1) = false := by simpa using hy1
      by_cases h20 : 20 ≤ s.size
      · have q2 : decide ((20 : Int) ≤ s.size) = true := by simp; omega
        clear hy1 h20
        go_wp2_with fail
        go_ret
        exact ⟨rfl, HB3.out⟩
      · have q2 : decide ((20 : Int) ≤ s.size) = false := by simp; omega
        have hey : runE g s ≠ 1 := by rw [← HY.out]; exact hy1
        have hK := fun (c : UInt8) (u : ByteArray) (hc : c = 108 ∨ c = 114) (hu : u = s ++ ⟨#[c]⟩) w (h : Gr w A1 g) => implRun_over A1 c1 g s u c w h (by omega) (by omega) HV.out.symm hey hc hu
        rw [← HX.out, ← HY.out] at hK
        have HL := Lib.hid (hK 108 (s ++ ⟨#[108]⟩) (.inl rfl) rfl)
        have HR := Lib.hid (hK 114 (s ++ ⟨#[114]⟩) (.inr rfl) rfl)
        clear hy1 h20 hK hey
        go_wp2_with fail
        refine (HL.out w3 gg3).mono ?_
        rintro e w4 ⟨rfl, b4⟩
        have gg4 := gg3.below b4
        have HB4 := Lib.hid (below_trans_self HB3.out b4)
        clear b4
        go_wp2_with fail
        refine (HR.out w4 gg4).mono ?_
        rintro e w5 ⟨rfl, b5⟩
        have HB5 := Lib.hid (below_trans_self HB4.out b5)
        clear b5
        have q3 : (x.toList == x.toList) = true := by simp
        have q4 : (y == y) = true := by simp
        go_wp2_with fail
        go_ret
        exact ⟨rfl, HB5.out⟩
end Go.Proofs.Ytimgkjlhahapnab
