import Derived.Test.YtlkfakdghjaoaaaGreatDoorJ11
import Derived.Test.YtlkfakdghjaoaaaGreatDoorMadeSaid
import Derived.Test.YtlkfakdghjaoaaaGreatDoorRunEnds
set_option maxRecDepth 100000
set_option maxHeartbeats 3200000
namespace Go.Proofs.YtlkfakdghjaoaaaGreatDoor
open Go.RowKit Go.Sort
theorem ul (A : Option Addr) (la ca : Nat) (w : World) (hA : Bytes w A la) (h1 : la ≤ ca) (h3 : ca ≤ 9223372036854775807) :
  Calls Tryz.prog 10 #[.slice A la ca] w fun e w' => e = .returned (.bool true) ∧ Below w.heap.size w w' := by
 by_cases g1 : (1048576 : Int) < la
 ·clear hA
  go_enter Tryz.func10, Tryz.ntmps10
  go_wp2_with fail
  go_ret
  exact ⟨rfl, Below.refl _ _⟩
 have HA := GR (pF A la ca w hA h1 h3)
 clear hA
 go_enter Tryz.func10, Tryz.ntmps10
 go_wp2_with fail
 refine HA.out.mono ?_
 intro e w1 hd1
 obtain ⟨A1, c1, g, ch, rfl, hc1, gg, hn1, hch, b1⟩ := xj hd1
 have HB1 := GR b1
 have HG1 := GR gg
 clear hd1 b1 gg
 obtain ⟨mb, hmb⟩ : ∃ x, x = aY g := ⟨_, rfl⟩
 obtain ⟨mv, hmv⟩ : ∃ x, x = fh g := ⟨_, rfl⟩
 obtain ⟨tr, htr⟩ : ∃ x, x = lp g ch := ⟨_, rfl⟩
 obtain ⟨z, hz⟩ : ∃ x, x = lq g ch := ⟨_, rfl⟩
 obtain ⟨rb, hrb⟩ : ∃ x, x = fl g ch := ⟨_, rfl⟩
 have HPI : Hid (∀ W, Gr W A1 g → Calls Tryz.prog 47 #[.slice A1 g.length c1, .string ch] W fun e w' => e = .returned (.tuple #[.string tr, .int .i64 z, .bool rb]) ∧ Below W.heap.size W w') := fun W h => by
  have := x5 A1 c1 g ch W h (by omega) (by omega)
  unfold oK at this
  rw [← htr, ← hz, ← hrb] at this
  exact this
 have HMI := GR (fun W (h : Gr W A1 g) => (hmv ▸ hmb ▸ ke A1 c1 g W h (by omega) : Calls Tryz.prog 12 #[.slice A1 g.length c1] W fun e w' => e = .returned (.tuple #[.string mv, .bool mb]) ∧ Below W.heap.size W w'))
 have HMS := GR (fun W (h : Gr W A1 g) => (hmv ▸ hmb ▸ kg A1 c1 g W h (by omega) hc1 : Calls Tryz.prog 13 #[.slice A1 g.length c1] W fun e w' => e = .returned (.tuple #[.string mv, .bool mb]) ∧ Below W.heap.size W w'))
 have HRT : Hid (mb = true → ∀ W, Calls Tryz.prog 46 #[.string mv, .string ch] W fun e w' => e = .returned (.tuple #[.string tr, .int .i64 z, .bool rb]) ∧ Below W.heap.size W w') := fun h W => by
  rw [hmb] at h
  obtain ⟨q, hq, hr, _⟩ := vp h ch
  have hm : mv = tb (aD g) := by rw [hmv]; unfold fh; rw [if_pos h]
  have := kM (aD g) ch.data.toList W (by have : ch.data.toList.length = ch.size := dm; omega)
  rw [jP, ← hm] at this
  refine this.mono ?_
  rintro e w' ⟨o, ho, rfl, hb⟩
  have := hq.uniq ho
  subst this
  rw [hr, ← htr, ← hz, ← hrb]
  exact ⟨rfl, hb⟩
 have HES : Hid (mb = true → ∀ W, Calls Tryz.prog 49 #[.string mv, .string ch] W fun e w' => e = .returned (.bool false) ∧ Below W.heap.size W w') := fun h W => by
  rw [hmb] at h
  obtain ⟨q, hq, _, hr⟩ := vp h ch
  have hm : mv = tb (aD g) := by rw [hmv]; unfold fh; rw [if_pos h]
  have := wg (aD g) ch.data.toList W (by have : ch.data.toList.length = ch.size := dm; omega)
  rw [jP, ← hm] at this
  refine this.mono ?_
  rintro e w' ⟨o, ho, rfl, hb⟩
  have := hq.uniq ho
  subst this
  rw [hr]
  exact ⟨rfl, hb⟩
 have HNO : Hid (mb = false → mv.toList = []) := GR fun h => by rw [hmv]; unfold fh; rw [if_neg (by rw [← hmb, h]; simp), Lib.toList_data]
 have q1 : (mb == mb) = true := by simp
 have q2 : (mb != mb) = false := by simp
 have q3 : (tr.toList == tr.toList) = true := by simp
 have q4 : (z == z) = true := by simp
 have q5 : (rb == rb) = true := by simp
 clear hmb hmv htr hz hrb
 go_wp2_with fail
 refine (HMI.out w1 HG1.out).mono ?_
 rintro e w2 ⟨rfl, b2⟩
 have HG2 := GR (HG1.out.below b2)
 have HB2 := GR (af HB1.out b2)
 clear b2
 go_wp2_with fail
 refine (HMS.out w2 HG2.out).mono ?_
 rintro e w3 ⟨rfl, b3⟩
 have HG3 := GR (HG2.out.below b3)
 have HB3 := GR (af HB2.out b3)
 clear b3
 go_wp2_with fail
 refine (HPI.out w3 HG3.out).mono ?_
 rintro e w4 ⟨rfl, b4⟩
 have HB4 := GR (af HB3.out b4)
 clear b4
 cases mb with
 | false =>
  have q0 : mv.toList = [] := HNO.out rfl
  go_wp2_with fail
  go_ret
  exact ⟨rfl, HB4.out⟩
 | true =>
  go_wp2_with fail
  refine (HRT.out (by trivial) w4).mono ?_
  rintro e w5 ⟨rfl, b5⟩
  have HB5 := GR (af HB4.out b5)
  clear b5
  go_wp2_with fail
  refine (HES.out (by trivial) w5).mono ?_
  rintro e w6 ⟨rfl, b6⟩
  have HB6 := GR (af HB5.out b6)
  clear b6
  go_wp2_with fail
  go_ret
  exact ⟨rfl, HB6.out⟩
end Go.Proofs.YtlkfakdghjaoaaaGreatDoor
