import Derived.Test.YtlkfakdghjaoaaaGreatDoorJ15
set_option maxRecDepth 100000
namespace Go.Proofs.YtlkfakdghjaoaaaGreatDoor
open Go.RowKit Go.Sort
attribute [local go_sem] Oper.semAt_some
noncomputable def j3 (s : List UInt8) : Bool := dw s && decide (dp s).Nodup
theorem AI {s : List UInt8} (h : ¬ (dp s).Nodup) : j3 s = false := by unfold j3; rw [decide_eq_false h, Bool.and_false]
theorem uQ {s : List UInt8} (h : (dp s).Nodup) : j3 s = dw s := by unfold j3; rw [decide_eq_true h, Bool.and_true]
theorem AJ {l : List UInt8} (h : ∀ i (hi : i < l.length), l[i] ∉ l.drop (i + 1)) : l.Nodup := by
 induction l with
 | nil => exact List.nodup_nil
 | cons a l ih =>
  rw [List.nodup_cons]
  refine ⟨by have := h 0 (by simp); simpa using this, ih fun i hi => ?_⟩
  have := h (i + 1) (by simpa using hi)
  simpa using this
theorem DS {l : List UInt8} {i : Nat} (hi : i < l.length) (h : l[i] ∈ l.drop (i + 1)) : ¬ l.Nodup := by
 intro hn
 obtain ⟨k, hk, e⟩ := List.getElem_of_mem h
 rw [List.getElem_drop] at e
 rw [List.length_drop] at hk
 have h2 := (List.pairwise_iff_getElem.1 hn) i (i + 1 + k) hi (by omega) (by omega)
 exact h2 e.symm
theorem qt (l : List UInt8) (a b : Nat) : (tb l).extract a b = tb ((l.drop a).take (b - a)) := by
 apply aV
 rw [aA]
 show ((tb l).extract a b).data.toList = _
 rw [ByteArray.data_extract, Array.toList_extract, aA]
theorem DT (l : List UInt8) (i : Nat) (h : i < l.length) : (tb l).extract i (i + 1) = tb [l[i]] := by
 rw [qt]
 rw [show i + 1 - i = 1 by omega, List.drop_eq_getElem_cons h]
 rfl
theorem DU (l : List UInt8) (i : Nat) : (tb l).extract i l.length = tb (l.drop i) := by
 rw [qt, List.take_of_length_le (by rw [List.length_drop]; exact Nat.le_refl _)]
theorem Cx (nm : List UInt8) (i : Nat) (h : i < nm.length) (W : World) :
  Calls Tryz.prog 63 #[.string ((tb nm).extract (i + 1) nm.length), .string ((tb nm).extract i (i + 1))] W fun e w' => e = .returned (.bool (decide (nm[i] ∈ nm.drop (i + 1)))) ∧ W = w' := by
 rw [DU, DT nm i h]
 refine (Tryz.strings_Contains_one (tb (nm.drop (i + 1))) nm[i] W).mono ?_
 rintro e w' ⟨rfl, rfl⟩
 refine ⟨?_, rfl⟩
 rw [aA]
 by_cases hm : nm[i] ∈ nm.drop (i + 1)
 ·rw [decide_eq_true hm, decide_eq_true (eF.2 hm)]
 ·rw [decide_eq_false hm, decide_eq_false fun h => hm (eF.1 h)]
theorem pr (s : List UInt8) (w : World) :
  Calls Tryz.prog 21 #[.string (tb s)] w fun e w' => e = .returned (.bool (j3 s)) ∧ Below w.heap.size w w' := by
 have H1 := F7 (jo s w)
 obtain ⟨nm, hnm⟩ : ∃ nm, nm = dp s := ⟨_, rfl⟩
 have hl : nm.length ≤ 200 := by rw [hnm]; exact Eb
 have HNM := F7 hnm
 have hz : (tb nm).size = nm.length := ay nm
 go_enter Tryz.func21, Tryz.ntmps21
 go_wp2_with fail
 refine H1.out.mono ?_
 rintro e w1 ⟨rfl, b1⟩
 rw [← HNM.out]
 have HB1 := F7 b1
 clear b1 hnm
 go_wp2_with fail
 go_loopg [13] nm.length (fun gk iv wr => ∃ i : Nat, gk = nm.length - i ∧ i ≤ nm.length ∧ iv = .int .i64 i ∧ Hid (∀ k (h : k < nm.length), k < i → nm[k] ∉ nm.drop (k + 1)) ∧ Hid (Below w.heap.size w wr))
 case atStart => exact ⟨0, by omega, Nat.zero_le _, rfl, fun k _ h => absurd h (Nat.not_lt_zero k), HB1.out⟩
 case round =>
  obtain ⟨i, rfl, hi, rfl, HP, HB⟩ := hrel
  by_cases hil : i < nm.length
  ·have tC : ∀ n, Calls Tryz.prog 63 #[.string ((tb nm).extract (i + 1) nm.length), .string ((tb nm).extract i (i + 1))] (wr.drewN n) fun e w'' => e = .returned (.bool (decide (nm[i] ∈ nm.drop (i + 1)))) ∧ ∃ m, w'' = wr.drewN m := fun n => Calls.quiet_of_same ((Cx nm i hil (wr.drewN n)).mono fun _ _ ⟨a, b⟩ => ⟨a, b.symm⟩)
   have s1 : IntKind.i64.wrap ((i : Int) + 1) = (i : Int) + 1 := IntWalk.i64_in _ (by omega)
   have s2 : ((i : Int) + 1).toNat = i + 1 := by omega
   go_wp2_with fail
   go_quiet (with_reducible exact tC _)
   clear tC
   by_cases hm : nm[i] ∈ nm.drop (i + 1)
   ·have HE := F7 (show j3 s = false from AI (by rw [← HNM.out]; exact DS hil hm))
    rw [show decide (nm[i] ∈ nm.drop (i + 1)) = true from decide_eq_true hm]
    clear hm
    go_wp2_with fail
    go_ret
    exact ⟨by rw [HE.out]; rfl, HB.out.trans ((oP _ nq).mono HB.out.size)⟩
   ·have HP2 : Hid (∀ k (h : k < nm.length), k < i + 1 → nm[k] ∉ nm.drop (k + 1)) := fun k h hk => by
     rcases Nat.lt_or_ge k i with h1 | h1
     ·exact HP.out k h h1
     ·obtain rfl : k = i := by omega
      exact hm
    rw [show decide (nm[i] ∈ nm.drop (i + 1)) = false from decide_eq_false hm]
    clear hm
    go_wp2_with fail
    go_roundg (nm.length - (i + 1))
    case measure => omega
    case rel => exact ⟨i + 1, rfl, by omega, by go_num, HP2.out, HB.out.trans ((oP _ nq).mono HB.out.size)⟩
  ·have hin : i = nm.length := by omega
   have HE := F7 (show j3 s = dw s from uQ (by rw [← HNM.out]; exact AJ fun k h => HP.out k h (by omega)))
   clear hin
   go_wp2_with fail
   go_ret
   exact ⟨by rw [HE.out]; rfl, HB.out⟩
end Go.Proofs.YtlkfakdghjaoaaaGreatDoor
namespace Go.Proofs.YtlkfakdghjaoaaaGreatDoor
open Go.RowKit Go.Sort
attribute [local go_sem] Oper.semAt_some
noncomputable def pu (s : List UInt8) : Bool := decide (0 < er s [61]) || decide (0 < er s [35])
theorem EN {s : List UInt8} (h : 0 < er s [61]) : pu s = true := by unfold pu; rw [decide_eq_true h, Bool.true_or]
theorem EO {s : List UInt8} (h : ¬ 0 < er s [61]) : pu s = decide (0 < er s [35]) := by unfold pu; rw [decide_eq_false h, Bool.false_or]
theorem nB (s : List UInt8) (w : World) :
  Calls Tryz.prog 23 #[.string (tb s)] w fun e w' => e = .returned (.bool (pu s)) ∧ Below w.heap.size w w' := by
 have H1 : Hid (∀ W, Calls Tryz.prog 66 #[.string (tb s), .string ⟨#[61]⟩] W fun e w' => e = .returned (.int .i64 (er s [61])) ∧ Below W.heap.size W w') := fun W => iz s [61] W
 have H2 : Hid (∀ W, Calls Tryz.prog 66 #[.string (tb s), .string ⟨#[35]⟩] W fun e w' => e = .returned (.int .i64 (er s [35])) ∧ Below W.heap.size W w') := fun W => iz s [35] W
 by_cases hq : 0 < er s [61]
 ·have HQ := F7 (EN hq)
  have g1 : decide (0 < er s [61]) = true := decide_eq_true hq
  go_enter Tryz.func23, Tryz.ntmps23
  go_wp2_with fail
  refine (H1.out _).mono ?_
  rintro e w1 ⟨rfl, b1⟩
  go_wp2_with fail
  go_ret
  exact ⟨by rw [HQ.out]; rfl, b1⟩
 ·have HQ := F7 (EO hq)
  have g1 : decide (0 < er s [61]) = false := decide_eq_false hq
  go_enter Tryz.func23, Tryz.ntmps23
  go_wp2_with fail
  refine (H1.out _).mono ?_
  rintro e w1 ⟨rfl, b1⟩
  go_wp2_with fail
  refine (H2.out _).mono ?_
  rintro e w2 ⟨rfl, b2⟩
  go_wp2_with fail
  go_ret
  exact ⟨by rw [HQ.out]; rfl, ac b1 b2⟩
end Go.Proofs.YtlkfakdghjaoaaaGreatDoor
