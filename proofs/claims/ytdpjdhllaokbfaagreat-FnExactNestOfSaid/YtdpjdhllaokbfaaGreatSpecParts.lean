/-
  The model's PartOf.
-/
import Derived.Test.YtdpjdhllaokbfaaGreatPartLink
import Derived.Test.YtdpjdhllaokbfaaGreatPartSpec
namespace Go.Proofs.YtdpjdhllaokbfaaGreat
open Go.RowKit Go.Sort

theorem cutL_nil (W : List Nat) : cutL W [] = W := by unfold cutL; rw [List.filter_eq_self]; intro x _; simp
theorem partV_len {g : List Bl} (hv : validB g = true) (s : ByteArray) : (partV g s).length ≤ 26 := by
  have h26 := (valid_iff.1 hv).2.1
  cases hl : liveOf g s with
  | none => rw [partV_dead hl]; exact Nat.zero_le _
  | some i => rw [partV_live hl]; exact Nat.le_trans (nodup_lt_len _ _ (partL_nodup g _ i) fun x hx => reach_ok hv _ (partL_sub (reach_ok hv) hx)) h26
set_option maxRecDepth 100000 in
theorem specPartOf_any (A : Option Addr) (cap : Nat) (g : List Bl) (s : ByteArray) (w : World) (hg : Gr w A g) (hn : g.length + tot g ≤ 1048576) (hcap : g.length ≤ cap) :
    Calls Tryz.prog 20 #[.slice A g.length cap, .string s] w fun e w' => e = .returned (.tuple #[.string (namesAt g (partV g s)), .bool (!(partV g s).isEmpty)]) ∧ Below w.heap.size w w' := by
  have HL := Lib.hid (l3Live_any A cap g s w hg hn hcap)
  have HG := Lib.hid hg
  clear hg
  cases hl : liveOf g s with
  | none =>
    rw [hl] at HL
    have HL2 : Hid (Calls Tryz.prog 44 #[.slice A g.length cap, .string s] w fun e w' => e = .returned (.int .i64 (-1)) ∧ Below w.heap.size w w') := HL
    have HP := Lib.hid (partV_dead hl)
    clear hl HL
    go_enter Tryz.func20, Tryz.ntmps20
    go_wp2_with fail
    refine HL2.out.mono ?_
    rintro e w1 ⟨rfl, b1⟩
    go_wp2_with fail
    go_ret2
    exact ⟨by rw [HP.out]; rfl, b1⟩
  | some i =>
    obtain ⟨hv, hp, hr⟩ := liveOf_is hl
    obtain ⟨hi, hnm⟩ := posOf_is hp
    rw [hl] at HL
    have HL2 : Hid (Calls Tryz.prog 44 #[.slice A g.length cap, .string s] w fun e w' => e = .returned (.int .i64 (i : Int)) ∧ Below w.heap.size w w') := HL
    have HP := Lib.hid (partV_live hl)
    have hil : ¬ ((i : Int) < 0) := by omega
    have HNM := Lib.hid (show s = nthName g i by rw [nthName_at hi, hnm])
    have HV := Lib.hid hv
    obtain ⟨rs, hrs⟩ : ∃ rs, rs = namesAt g (reachS g) := ⟨_, rfl⟩
    have HRS := Lib.hid hrs
    have HR1 := Lib.hid (fun w (h : Gr w A g) => (l1Reached_any A cap g w h hn hv).mono fun e w' h => show e = .returned (.string rs) ∧ Below w.heap.size w w' from hrs ▸ h)
    have HPL := Lib.hid (partV_len hv s)
    have HPS := Lib.hid (namesAt_size hv (partV g s) fun x hx => (partV_lt x hx).1)
    obtain ⟨pt, hpt⟩ : ∃ pt, pt = namesAt g (partV g s) := ⟨_, rfl⟩
    have HPT := Lib.hid hpt
    have HR2 := Lib.hid (fun w (h : Gr w A g) => (l10Part_any A cap g i (reachS g) [] s rs ⟨#[]⟩ w h hn hv hi HNM.out (reach_ok hv) (fun x hx => by cases hx) (by have := reachS_len hv; omega) (by simp) hrs rfl).mono fun e w' h => show e = .returned (.string pt) ∧ Below w.heap.size w w' by
      rw [cutL_nil, ← partV_live hl, ← hpt] at h; exact h)
    clear hl HL hv hp hr hnm hrs hpt
    go_enter Tryz.func20, Tryz.ntmps20
    go_wp2_with fail
    refine HL2.out.mono ?_
    rintro e w1 ⟨rfl, b1⟩
    have HB1 := Lib.hid b1
    clear b1
    go_wp2_with fail
    refine (HR1.out w1 (HG.out.below HB1.out)).mono ?_
    rintro e w2 ⟨rfl, b2⟩
    have HB2 := Lib.hid (HB1.out.trans (b2.mono HB1.out.size))
    clear b2
    go_wp2_with fail
    refine (HR2.out w2 (HG.out.below HB2.out)).mono ?_
    rintro e w3 ⟨rfl, b3⟩
    have HB3 := Lib.hid (HB2.out.trans (b3.mono HB2.out.size))
    clear b3
    rw [← HPT.out] at HPS
    cases hq : partV g s with
    | nil =>
      have h0 : pt.toList.isEmpty = true := emp_yes (by rw [HPS.out, hq]; rfl)
      have HE := Lib.hid hq
      clear hq
      go_wp2_with fail
      go_ret2
      exact ⟨by rw [HPT.out, HE.out]; rfl, HB3.out⟩
    | cons x xs =>
      have h0 : pt.toList.isEmpty = false := emp_no (by rw [HPS.out, hq]; simp)
      have HE := Lib.hid hq
      clear hq
      go_wp2_with fail
      go_ret2
      exact ⟨by rw [HPT.out, HE.out]; rfl, HB3.out⟩
end Go.Proofs.YtdpjdhllaokbfaaGreat
