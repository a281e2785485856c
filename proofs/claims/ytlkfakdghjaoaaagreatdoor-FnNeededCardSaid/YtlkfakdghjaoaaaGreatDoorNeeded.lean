import Derived.Test.YtlkfakdghjaoaaaGreatDoorMakeFace
import Derived.Test.YtlkfakdghjaoaaaGreatDoorCount
import Derived.Test.YtlkfakdghjaoaaaGreatDoorInts
set_option maxRecDepth 100000
namespace Go.Proofs.YtlkfakdghjaoaaaGreatDoor
open Go.RowKit Go.Sort
noncomputable def fi (g : List Bl) : List Int := if aY g = true then [bH (aD g) [40], bH (aD g) [123], bH (aD g) [94]] else []
theorem nk (A : Option Addr) (cap : Nat) (g : List Bl) (w : World) (hg : Gr w A g) (hn : g.length + aO g ≤ 1048576) :
  Calls Tryz.prog 25 #[.slice A g.length cap] w fun e w' => (∃ v, e = .returned (.tuple #[v, .bool (aY g)]) ∧ IntsV w' w.heap.size v (fi g)) ∧ Below w.heap.size w w' := by
 have HC := GR (ke A cap g w hg hn)
 have H1 : Hid (∀ W, Calls Tryz.prog 66 #[.string (tb (aD g)), .string ⟨#[40]⟩] W fun e w' => e = .returned (.int .i64 (bH (aD g) [40])) ∧ Below W.heap.size W w') := fun W => fU (aD g) [40] W
 have H2 : Hid (∀ W, Calls Tryz.prog 66 #[.string (tb (aD g)), .string ⟨#[123]⟩] W fun e w' => e = .returned (.int .i64 (bH (aD g) [123])) ∧ Below W.heap.size W w') := fun W => fU (aD g) [123] W
 have H3 : Hid (∀ W, Calls Tryz.prog 66 #[.string (tb (aD g)), .string ⟨#[94]⟩] W fun e w' => e = .returned (.int .i64 (bH (aD g) [94])) ∧ Below W.heap.size W w') := fun W => fU (aD g) [94] W
 clear hg
 cases hb : aY g with
 | false =>
  rw [hb] at HC
  have HR : Hid (fi g = []) := GR (by unfold fi; rw [hb]; rfl)
  clear hb
  go_enter Tryz.func25, Tryz.ntmps25
  go_wp2_with fail
  refine HC.out.mono ?_
  rintro e w1 ⟨rfl, b1⟩
  have HB1 := GR b1
  clear b1
  go_wp2_with fail
  go_ret2
  refine ⟨⟨_, rfl, .inl ⟨rfl, by rw [HR.out]; rfl⟩⟩, HB1.out⟩
 | true =>
  have hm : fh g = tb (aD g) := by unfold fh; rw [if_pos hb]
  rw [hb, hm] at HC
  have HR : Hid (fi g = [bH (aD g) [40], bH (aD g) [123], bH (aD g) [94]]) := GR (by unfold fi; rw [if_pos hb])
  clear hb hm
  go_enter Tryz.func25, Tryz.ntmps25
  go_wp2_with fail
  refine HC.out.mono ?_
  rintro e w1 ⟨rfl, b1⟩
  have HB1 := GR b1
  clear b1
  go_wp2_with fail
  refine (H1.out _).mono ?_
  rintro e w2 ⟨rfl, b2⟩
  have HB2 := GR (HB1.out.trans (b2.mono HB1.out.size))
  clear b2
  go_wp2_with fail
  refine (H2.out _).mono ?_
  rintro e w3 ⟨rfl, b3⟩
  have HB3 := GR (HB2.out.trans (b3.mono HB2.out.size))
  clear b3
  go_wp2_with fail
  refine (H3.out _).mono ?_
  rintro e w4 ⟨rfl, b4⟩
  have HB4 := GR (HB3.out.trans (b4.mono HB3.out.size))
  clear b4
  generalize bH (aD g) [40] = za at HR ⊢
  generalize bH (aD g) [123] = zb at HR ⊢
  generalize bH (aD g) [94] = zc at HR ⊢
  go_wp2_with fail
  go_ret2
  refine ⟨⟨_, rfl, .inr ⟨_, 3, 3, #[.int .i64 za, .int .i64 zb, .int .i64 zc], by rw [HR.out]; rfl, HB4.out.size, Blk.newAt _ _ rfl, by rw [HR.out]; exact Nat.le_refl _, fun k hk => ?_⟩⟩, HB4.out.alloc HB4.out.size _⟩
  rw [HR.out] at hk
  simp only [HR.out]
  rcases k with _ | _ | _ | k
  ·rfl
  ·rfl
  ·rfl
  ·exact absurd hk (by simp)
theorem nl (A : Option Addr) (cap : Nat) (g : List Bl) (w : World) (hg : Gr w A g) (hn : g.length + aO g ≤ 1048576) (hcap : g.length ≤ cap) :
  Calls Tryz.prog 26 #[.slice A g.length cap] w fun e w' => (∃ v, e = .returned (.tuple #[v, .bool (aY g)]) ∧ IntsV w' w.heap.size v (fi g)) ∧ Below w.heap.size w w' := by
 have HC := GR (kg A cap g w hg hn hcap)
 clear hg
 cases hb : aY g with
 | false =>
  rw [hb] at HC
  have HR : Hid (fi g = []) := GR (by unfold fi; rw [hb]; rfl)
  clear hb
  go_enter Tryz.func26, Tryz.ntmps26
  go_wp2_with fail
  refine HC.out.mono ?_
  rintro e w1 ⟨rfl, b1⟩
  have HB1 := GR b1
  clear b1
  go_wp2_with fail
  go_ret2
  refine ⟨⟨_, rfl, .inr ⟨_, 0, 3, #[], by rw [HR.out]; rfl, HB1.out.size, Blk.newAt _ _ rfl, by rw [HR.out]; exact Nat.le_refl _, fun k hk => ?_⟩⟩, HB1.out.alloc HB1.out.size _⟩
  rw [HR.out] at hk
  exact absurd hk (by simp)
 | true =>
  have hm : fh g = tb (aD g) := by unfold fh; rw [if_pos hb]
  rw [hb, hm] at HC
  have HR : Hid (fi g = [bH (aD g) [40], bH (aD g) [123], bH (aD g) [94]]) := GR (by unfold fi; rw [if_pos hb])
  have HLT : Hid ((aD g).length ≤ 1048576) := GR (by
   have h := hb
   unfold aY at h
   rw [Bool.and_eq_true] at h
   have := fB h.1
   omega)
  have H1 : Hid (∀ W, Calls Tryz.prog 67 #[.string (tb (aD g)), .string ⟨#[40]⟩] W fun e w' => e = .returned (.int .i64 (bH (aD g) [40])) ∧ Below W.heap.size W w') := fun W => gh (aD g) [40] W HLT.out (by decide)
  have H2 : Hid (∀ W, Calls Tryz.prog 67 #[.string (tb (aD g)), .string ⟨#[123]⟩] W fun e w' => e = .returned (.int .i64 (bH (aD g) [123])) ∧ Below W.heap.size W w') := fun W => gh (aD g) [123] W HLT.out (by decide)
  have H3 : Hid (∀ W, Calls Tryz.prog 67 #[.string (tb (aD g)), .string ⟨#[94]⟩] W fun e w' => e = .returned (.int .i64 (bH (aD g) [94])) ∧ Below W.heap.size W w') := fun W => gh (aD g) [94] W HLT.out (by decide)
  clear hb hm
  go_enter Tryz.func26, Tryz.ntmps26
  go_wp2_with fail
  refine HC.out.mono ?_
  rintro e w1 ⟨rfl, b1⟩
  have HB1 := GR b1
  clear b1
  go_wp2_with fail
  refine (H1.out _).mono ?_
  rintro e w2 ⟨rfl, b2⟩
  have HB2 := GR (HB1.out.trans (b2.mono HB1.out.size))
  clear b2
  go_wp2_with fail
  refine (H2.out _).mono ?_
  rintro e w3 ⟨rfl, b3⟩
  have HB3 := GR (HB2.out.trans (b3.mono HB2.out.size))
  clear b3
  go_wp2_with fail
  refine (H3.out _).mono ?_
  rintro e w4 ⟨rfl, b4⟩
  have HB4 := GR (HB3.out.trans (b4.mono HB3.out.size))
  clear b4
  generalize bH (aD g) [40] = za at HR ⊢
  generalize bH (aD g) [123] = zb at HR ⊢
  generalize bH (aD g) [94] = zc at HR ⊢
  go_wp2_with fail
  go_ret2
  refine ⟨⟨_, rfl, .inr ⟨_, 3, 3, #[.int .i64 za, .int .i64 zb, .int .i64 zc], by rw [HR.out]; rfl, HB4.out.size, Blk.newAt _ _ rfl, by rw [HR.out]; exact Nat.le_refl _, fun k hk => ?_⟩⟩, HB4.out.alloc HB4.out.size _⟩
  rw [HR.out] at hk
  simp only [HR.out]
  rcases k with _ | _ | _ | k
  ·rfl
  ·rfl
  ·rfl
  ·exact absurd hk (by simp)
end Go.Proofs.YtlkfakdghjaoaaaGreatDoor
