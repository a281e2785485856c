/-
  The model reads a text: all of it.
-/
import Derived.Test.YtgkamcnbpiipoaaGreatMItemBlk
import Derived.Test.YtgkamcnbpiipoaaGreatMItemLoop
import Derived.Test.YtgkamcnbpiipoaaGreatMItemAskYes
import Derived.Test.YtgkamcnbpiipoaaGreatMItemPick
namespace Go.Proofs.YtgkamcnbpiipoaaGreat
open Go.RowKit Go.Sort

theorem mitem_any (n : Nat) (HB : MBodyOk n) : MItemOk (n + 1) := by
  intro R f tx p w hn hp htx hf h
  obtain ⟨c, hc⟩ : ∃ c, tx[p]? = some c := ⟨_, List.getElem?_eq_getElem hp⟩
  cases hl : letB c with
  | true => exact mitem_blk R f p tx c w hl hc htx h
  | false =>
    by_cases e1 : c = 63
    · cases hb : tx[p + 1]? with
      | none => exact mitem_ask_no R f p tx c w e1 hc (fun b e => by rw [hb] at e; cases e) htx h
      | some b =>
        cases hlb : letB b with
        | true => exact mitem_ask_yes n HB R f p tx c b w e1 hc hb hlb hn htx hf h
        | false => exact mitem_ask_no R f p tx c w e1 hc (fun b' e => by rw [hb] at e; cases e; exact hlb) htx h
    by_cases e2 : c = 46
    · exact mitem_stop R f p tx c w e2 hc htx h
    by_cases e3 : c = 40
    · exact mitem_frame_false n HB R f p tx c w e3 hc hn htx hf h
    by_cases e4 : c = 123
    · exact mitem_frame_true n HB R f p tx c w e4 hc hn htx hf h
    by_cases e5 : c = 94
    · exact mitem_leave R f p tx c w e5 hc htx h
    by_cases e6 : c = 61
    · exact mitem_set R f p tx c w e6 hc htx h
    by_cases e7 : c = 35
    · exact mitem_pick n HB R f p tx c w e7 hc hn htx hf h
    exact mitem_other R f p tx c w hl ⟨e1, e2, e3, e4, e5, e6, e7⟩ hc htx h
theorem mbody_all : ∀ n, MBodyOk n
  | 0 => mbody_any 0 fun R f tx p w hn hp _ _ _ => by omega
  | n + 1 => mbody_any (n + 1) (mitem_any n (mbody_all n))

theorem no_zero {l : List It} {f : Nat} (h : OkL l f) : (0 : UInt8) ∉ txL l := by
  have h1 := bc_okL (x := 0) ⟨by decide, fun n hn e => by have := congrArg UInt8.toNat e; unfold dig at this; simp at this; omega⟩ (by decide) (by decide) (by decide) (by decide) (by decide) l f h
  have h2 : cnL 0 l = 0 := by
    rw [← cn_evL 0 l 0, List.countP_eq_zero]
    rintro ⟨k, i⟩ _
    cases i with
    | frame b _ => cases b <;> simp [kdI, opn]
    | _ => simp [kdI]
  rw [h2] at h1
  intro hm
  have h3 := List.countP_eq_zero.1 h1 0 hm
  simp at h3

/-- What the model's reading of a text hands back. -/
def MReadPost (s : List UInt8) (w : World) (e : Ending) (w' : World) : Prop :=
  (∃ l A n k, textOk s l ∧ e = .returned (.tuple #[.slice A n k, .bool true]) ∧ MRowAt w' (NewIn w) l (.slice A n k) ∧ Below w.heap.size w w') ∨
  ((∀ l, ¬ textOk s l) ∧ ∃ A k, e = .returned (.tuple #[.slice A 0 k, .bool false]) ∧ Below w.heap.size w w')

theorem stay_less' {w w1 w2 : World} (h : w.heap.size ≤ w1.heap.size) : Stay w2 (NewIn w1) w2 (NewIn w) := ⟨Nat.le_refl _, fun _ _ hp => ⟨Nat.le_trans h hp, rfl⟩⟩
theorem below_only' {w w1 w2 : World} {B R : Nat} (h : Below B w w1) (k : Only R w1 w2) (hR : B ≤ R) (hB : B ≤ w1.heap.size) : Below B w w2 :=
  ⟨k.os.trans h.os, k.tape.trans h.tape, k.output.trans h.output, Nat.le_trans h.size k.size, fun i hi => (k.block i (by omega) (Nat.lt_of_lt_of_le hi hB)).trans (h.block i hi)⟩

set_option maxRecDepth 100000 in
set_option maxHeartbeats 1600000 in
theorem l5Read_any (s : List UInt8) (w : World) (hs : s.length ≤ 1048576) :
    Calls Tryz.prog 48 #[.string (tb s)] w (MReadPost s w) := by
  have hz : (tb s).size = s.length := tb_size s
  have hR : Mrd (w.alloc (.cells #[.string (tb s), .int .i64 0, .bool false, .int .i64 0] 121)) w.heap.size s 0 false 0 := Blk.new w _ _
  have HBD := Lib.hid (mbody_all s.length w.heap.size 0 s 0 0 _ (by omega) (by omega) hs (by omega) hR)
  have hb0 := (Below.refl w.heap.size w).alloc (Nat.le_refl _) (.cells #[.string (tb s), .int .i64 0, .bool false, .int .i64 0] 121)
  have HB0 := Lib.hid hb0
  have HZ := Lib.hid hz
  obtain ⟨x, hx⟩ : ∃ x, x = tb s := ⟨_, rfl⟩
  clear hR hb0 hz
  rw [← hx] at HBD HB0 HZ ⊢
  clear hx
  go_enter Tryz.func48, Tryz.ntmps48
  go_wp2_with fail
  refine HBD.out.mono ?_
  rintro e w1 (⟨l, p, v, hl, hd, _, hp, hh, rfl, hrow, hm, ho⟩ | ⟨A, m, k, p, hno, hfar, rfl, hm, ho⟩)
  · obtain ⟨xs, ⟨A, k, rfl, hx2⟩, hx3⟩ := hrow
    have HROW : Hid (MRowAt w1 (NewIn (w.alloc (.cells #[.string x, .int .i64 0, .bool false, .int .i64 0] 121))) l (.slice A l.length k)) := ⟨xs, ⟨A, k, rfl, hx2⟩, hx3⟩
    have HB1 := Lib.hid (below_only' HB0.out ho (Nat.le_refl _) (by simp))
    have c1 := Blk.cell hm 1
    have c2 := Blk.cell hm 2
    have HL := Lib.hid hl
    have HD := Lib.hid hd
    have HH := Lib.hid hh
    have hbs := HB1.out.size
    clear hl hd hh hm ho hx2 hx3
    have hpx : p ≤ x.size := by have := HZ.out; omega
    by_cases hpe : p = x.size
    · have q1 : ((p : Int) != (x.size : Int)) = false := by rw [hpe]; simp
      have HE : Hid (s = txL l) := by
        show s = txL l
        have h5 := HD.out
        rw [List.drop_zero, hpe, HZ.out, List.drop_length, List.append_nil] at h5
        exact h5
      clear hpe
      by_cases h200 : 200 < x.size
      · have q2 : decide ((200 : Int) < (x.size : Int)) = true := decide_eq_true (by omega)
        go_wp2_with fail
        go_ret2
        exact .inr ⟨fun l' h => by have := h.1; have := HZ.out; omega, _, _, rfl, HB1.out.alloc hbs _⟩
      · have q2 : decide ((200 : Int) < (x.size : Int)) = false := decide_eq_false (by omega)
        go_wp2_with fail
        go_ret2
        exact .inl ⟨l, _, _, _, ⟨by have := HZ.out; omega, HL.out, HE.out⟩, rfl, HROW.out.stay (stay_less' (by simp)), HB1.out⟩
    · have q1 : ((p : Int) != (x.size : Int)) = true := by simpa using (by omega : ¬ (p : Int) = (x.size : Int))
      have HN : Hid (∀ l, ¬ textOk s l) := by
        intro l' h
        have hlt : p < s.length := by have := HZ.out; omega
        rcases HH.out with e | ⟨t, e⟩
        · have := congrArg List.length e; simp at this; omega
        · have h5 := HD.out
          rw [List.drop_zero, e] at h5
          have h6 : (0 : UInt8) ∈ s := by rw [h5]; simp
          rw [h.2.2] at h6
          exact no_zero h.2.1 h6
      clear hpe
      go_wp2_with fail
      go_ret2
      exact .inr ⟨HN.out, _, _, rfl, HB1.out.alloc hbs _⟩
  · have HB1 := Lib.hid (below_only' HB0.out ho (Nat.le_refl _) (by simp))
    have c2 := Blk.cell hm 2
    have hbs := HB1.out.size
    have HN : Hid (∀ l, ¬ textOk s l) := fun l h => hno l [] h.2.1 (.inl rfl) (by rw [List.append_nil, List.drop_zero]; exact h.2.2)
    clear hm ho hno
    go_wp2_with fail
    go_ret2
    exact .inr ⟨HN.out, _, _, rfl, HB1.out.alloc hbs _⟩
end Go.Proofs.YtgkamcnbpiipoaaGreat

/-
  The model's TextValid.
-/
namespace Go.Proofs.YtgkamcnbpiipoaaGreat
open Go.RowKit Go.Sort

set_option maxRecDepth 100000 in
theorem specTextValid_any (s : List UInt8) (w : World) (hs : s.length ≤ 1048576) :
    Calls Tryz.prog 22 #[.string (tb s)] w fun e w' => ((∃ l, textOk s l) ∧ e = .returned (.bool true) ∨ (∀ l, ¬ textOk s l) ∧ e = .returned (.bool false)) ∧ Below w.heap.size w w' := by
  have HC := Lib.hid (l5Read_any s w hs)
  go_enter Tryz.func22, Tryz.ntmps22
  go_wp2_with fail
  refine HC.out.mono ?_
  rintro e w1 (⟨l, A, n, k, hl, rfl, _, b1⟩ | ⟨hno, A, k, rfl, b1⟩)
  · have HL := Lib.hid hl
    have HB := Lib.hid b1
    clear hl b1
    go_wp2_with fail
    go_ret
    exact ⟨.inl ⟨⟨l, HL.out⟩, rfl⟩, HB.out⟩
  · have HN := Lib.hid hno
    have HB := Lib.hid b1
    clear hno b1
    go_wp2_with fail
    go_ret
    exact ⟨.inr ⟨HN.out, rfl⟩, HB.out⟩
end Go.Proofs.YtgkamcnbpiipoaaGreat
