/-
  The model's runs of texts: the outcome, RunText and NumberIn.
-/
import Derived.Test.YtgkamcnbpiipoaaGreatMRun
import Derived.Test.YtgkamcnbpiipoaaGreatRunVal
namespace Go.Proofs.YtgkamcnbpiipoaaGreat
open Go.RowKit Go.Sort
attribute [local go_sem] Oper.semAt_some

theorem mstay_any {P : Nat → Prop} {R : Nat} {w w' : World} (h : Below w.heap.size w w') (hR : w.heap.size ≤ R) : Stay w P w' (MNotR R) := ⟨h.size, fun b hb _ => ⟨by show b ≠ R; omega, h.block b hb⟩⟩

set_option maxRecDepth 100000 in
theorem l6Run_any {P : Nat → Prop} (l : List It) (A : Option Addr) (n k : Nat) (c : List UInt8) (w : World) (hbl : (txL l).length ≤ 1048576) (hrow : MRowAt w P l (.slice A n k)) (hol : OkL l 0) :
    Calls Tryz.prog 51 #[.slice A n k, .string (tb c)] w fun e w' => ∃ o, Runs (.l l) (rs0 c) o ∧ e = .returned (.pointer (some ⟨w.heap.size, 0, none⟩)) ∧ MFin w' w.heap.size o.code o.trace o.num ∧ Below w.heap.size w w' := by
  obtain ⟨W, hW⟩ : ∃ W, W = w.alloc (.cells #[.string (tb c), .string (tb []), .int .i64 0, .int .i64 0, .bool false, .int .i64 (-1), .int .i64 0] 98) := ⟨_, rfl⟩
  have hbW : Below w.heap.size w W := by rw [hW]; exact (Below.refl _ w).alloc (Nat.le_refl _) _
  have hTW : Mtr W w.heap.size (rs0 c) (-1) := by rw [hW]; exact Blk.new w _ _
  have hsW : W.heap.size = w.heap.size + 1 := by rw [hW]; simp
  have HD := Lib.hid (mdoAll_any w.heap.size l (.slice A n k) 0 (rs0 c) W ⟨Nat.zero_le _, Nat.zero_le _⟩ hbl (hrow.stay (mstay_any hbW (Nat.le_refl _))) hol hTW)
  have HW := Lib.hid hW
  have HBW := Lib.hid hbW
  have HOL := Lib.hid hol
  clear hW hbW hTW hbl hrow hol
  go_enter Tryz.func51, Tryz.ntmps51
  go_wp2_with (rw [show (⟨#[]⟩ : ByteArray) = tb [] from rfl, ← HW.out])
  refine HD.out.mono ?_
  rintro e w2 ⟨rfl, ho, o, hr, hm⟩
  have HR := Lib.hid hr
  have HB2 := Lib.hid (show Below w.heap.size w w2 from ⟨ho.os.trans HBW.out.os, ho.tape.trans HBW.out.tape, ho.output.trans HBW.out.output, by have := ho.size; omega, fun k hk => (ho.block k (by omega) (by omega)).trans (HBW.out.block k hk)⟩)
  match o, hm, HR with
  | .next s, hm, HR =>
    have HS := Lib.hid (mstop w.heap.size 0 s w2 hm)
    clear hm hr ho
    go_wp2_with fail
    refine HS.out.mono ?_
    rintro e w3 ⟨rfl, hf, ho⟩
    have HF := Lib.hid hf
    have HB3 := Lib.hid (Only.below HB2.out ho)
    clear hf ho
    go_wp2_with fail
    go_ret
    exact ⟨_, HR.out, rfl, HF.out, HB3.out⟩
  | .leave m s, hm, HR => exact absurd (Runs.leave_lt (t := .l l) (f := 0) hr HOL.out) (Nat.not_lt_zero _)
  | .fin q t m, hm, HR =>
    have HS := Lib.hid (mstop_over w.heap.size 0 q t m w2 hm)
    have HF := Lib.hid hm
    clear hm hr ho
    go_wp2_with fail
    refine HS.out.mono ?_
    rintro e w3 ⟨rfl, rfl⟩
    go_wp2_with fail
    go_ret
    exact ⟨_, HR.out, rfl, HF.out, HB2.out⟩


set_option maxRecDepth 100000 in
theorem specRunText_any (s c : List UInt8) (w : World) (hs : s.length ≤ 1048576) (hc : c.length ≤ 4611686018427387904) :
    Calls Tryz.prog 25 #[.string (tb s), .string (tb c)] w fun e w' => ∃ o, RanT s c o ∧ e = .returned (rtV o) ∧ Below w.heap.size w w' := by
  have HIT := Lib.hid (l5Read_any s w hs)
  have HCS := Lib.hid (by rw [tb_size]; exact hc : (tb c).size ≤ 4611686018427387904)
  clear hc hs
  go_enter Tryz.func25, Tryz.ntmps25
  go_wp2_with fail
  refine HIT.out.mono ?_
  rintro e w1 (⟨l, A, m, cp, htx, rfl, hrow, hb⟩ | ⟨hno, A, cp, rfl, hb⟩)
  · have HC := Lib.hid (specChoices_any (tb c) w1 HCS.out)
    have HB := Lib.hid hb
    have HTX := Lib.hid htx
    have HROW := Lib.hid hrow
    clear htx hrow hb
    go_wp2_with fail
    refine HC.out.mono ?_
    rintro e w2 ⟨rfl, hb2⟩
    have HB2 := Lib.hid (HB.out.trans (hb2.mono HB.out.size))
    cases hcb : choicesB (tb c) with
    | false =>
      have HN := Lib.hid (show RanT s c none from .inr hcb)
      clear hb2 hcb
      go_wp2_with fail
      refine bodyPost_ret (v := rtV none) (by simp [results, Tryz.results25, go_sem, rtV, tb]) rfl ?_
      exact ⟨none, HN.out, rfl, HB2.out⟩
    | true =>
      have hlen : (txL l).length ≤ 1048576 := by have h := HTX.out; have h1 := h.1; rw [h.2.2] at h1; omega
      have HD := Lib.hid (l6Run_any (P := NewIn w) l A m cp c w2 hlen (HROW.out.stay ⟨hb2.size, fun b hb hp => ⟨hp, hb2.block b hb⟩⟩) HTX.out.2.1)
      have HC1 := Lib.hid hcb
      clear hb2 hcb hlen
      go_wp2_with fail
      refine HD.out.mono ?_
      rintro e w3 ⟨o, hr, rfl, ⟨xc, xd, hf⟩, hb3⟩
      have HN := Lib.hid (show RanT s c (some o) from ⟨l, HTX.out, HC1.out, hr⟩)
      have HB3 := Lib.hid (HB2.out.trans (hb3.mono HB2.out.size))
      have hltw := hf.lt
      have c1 : w3.cell? ⟨w2.heap.size, 1, none⟩ = some (.string (tb o.trace)) := hf.cell 1
      have c3 : w3.cell? ⟨w2.heap.size, 3, none⟩ = some (.int .i64 (o.code : Nat)) := hf.cell 3
      clear hr hb3 hf
      go_wp2_with fail
      go_quiet (fail)
      go_wp2_with fail
      refine bodyPost_ret (v := rtV (some o)) (by simp [results, Tryz.results25, go_sem, rtV]) rfl ?_
      exact ⟨some o, HN.out, rfl, HB3.out.trans ((mbelow_drew _ _).mono HB3.out.size)⟩
  · have HN := Lib.hid (show RanT s c none from .inl hno)
    have HB := Lib.hid hb
    clear hno hb
    go_wp2_with fail
    refine bodyPost_ret (v := rtV none) (by simp [results, Tryz.results25, go_sem, rtV, tb]) rfl ?_
    exact ⟨none, HN.out, rfl, HB.out⟩

end Go.Proofs.YtgkamcnbpiipoaaGreat
