/-
  FramesIn of both.
-/
import Derived.Test.YtelhogeaobofpaaEvery
import Derived.Test.YtelhogeaobofpaaSpecFrames
import Derived.Test.YtelhogeaobofpaaTextB
namespace Go.Proofs.Ytelhogeaobofpaa
open Go.RowKit Go.Sort
attribute [local go_sem] Oper.semAt_some

open Classical in
/-- How many frames lie within each other; -1 if it is no text. -/
noncomputable def framesZ (s : List UInt8) : Int := if h : ∃ l, textOk s l then (dpL h.choose : Int) else -1
theorem framesZ_yes {s : List UInt8} {l : List It} (h : textOk s l) : framesZ s = (dpL l : Int) := by
  have k : ∃ l, textOk s l := ⟨l, h⟩
  unfold framesZ
  rw [dif_pos k, textOk_uniq k.choose_spec h]
theorem framesZ_no {s : List UInt8} (h : ∀ l, ¬ textOk s l) : framesZ s = -1 := dif_neg fun ⟨l, hl⟩ => h l hl

theorem mostF_le {α : Type} (p : α → Nat) : ∀ (l : List α) (m : Nat), m ≤ mostF p m l
  | [], m => Nat.le_refl _
  | x :: l, m => by rw [mostF_cons]; exact Nat.le_trans (Nat.le_max_left _ _) (mostF_le p l _)
theorem mostF_mem {α : Type} (p : α → Nat) : ∀ (l : List α) (m : Nat) (x : α), x ∈ l → p x ≤ mostF p m l
  | y :: l, m, x, h => by
    rw [mostF_cons]
    rcases List.mem_cons.1 h with rfl | h
    · exact Nat.le_trans (Nat.le_max_right _ _) (mostF_le p l _)
    · exact mostF_mem p l _ x h

set_option maxRecDepth 100000 in
theorem specFramesIn_any (s : List UInt8) (w : World) (hs : s.length ≤ 1048576) :
    Calls Try.prog 28 #[.string (tb s)] w fun e w' => e = .returned (.int .i64 (framesZ s)) ∧ Below w.heap.size w w' := by
  have HC := Lib.hid (l5Read_any s w hs)
  go_enter Try.func28, Try.ntmps28
  go_wp2_with fail
  refine HC.out.mono ?_
  rintro e w1 (⟨l, A, n, k, hl, rfl, hrow, b1⟩ | ⟨hno, A, k, rfl, b1⟩)
  · have hlen : (txL l).length < 201 := by have := hl.1; rw [hl.2.2] at this; omega
    have hd9 : dpL l ≤ 9 := by have := dp_okL l 0 hl.2.1 (by omega); omega
    have hrow2 : MRowAt w1 (fun b => w.heap.size ≤ b ∧ b < w1.heap.size) l (.slice A n k) := hrow.stay ⟨Nat.le_refl _, fun b hb hp => ⟨⟨hp, hb⟩, rfl⟩⟩
    have HF := Lib.hid (l5Frames_any w1 _ (fun b hb => hb.2) 201 l _ w1 (by omega) hlen hd9 hrow2 ⟨Nat.le_refl _, fun _ _ _ => rfl⟩)
    have HZ := Lib.hid (framesZ_yes hl)
    have HB := Lib.hid b1
    clear hl b1 hrow hrow2
    go_wp2_with fail
    refine HF.out.mono ?_
    rintro e w2 ⟨rfl, b2⟩
    have HB2 := Lib.hid (below_trans_self HB.out b2)
    clear b2
    go_wp2_with fail
    go_ret
    exact ⟨by rw [HZ.out]; rfl, HB2.out⟩
  · have HN := Lib.hid (framesZ_no hno)
    have HB := Lib.hid b1
    clear hno b1
    go_wp2_with fail
    go_ret
    exact ⟨by rw [HN.out]; rfl, HB.out⟩

theorem below_putD {w W : World} {B D : Nat} (h : Below B w W) (hD : B ≤ D) (o : Obj) : Below B w (W.putObj D o) :=
  ⟨h.os, h.tape, h.output, by simpa using h.size, fun k hk => (World.putObj_heap_other (by omega)).trans (h.block k hk)⟩

set_option maxRecDepth 100000 in
set_option maxHeartbeats 3200000 in
theorem implFramesIn_any (s : List UInt8) (w : World) :
    Calls Try.prog 26 #[.string (tb s)] w fun e w' => e = .returned (.int .i64 (framesZ s)) ∧ Below w.heap.size w w' := by
  have HC := Lib.hid (itemsOf_any s w)
  refine (callsIn_wide (n := 4)).1 ?_
  refine callsIn_of_wp_marks Try.func26 rfl trivial ?_ rfl
  simp only [Try.ntmps26, List.size_toArray, List.length_cons, List.length_nil, Nat.reduceAdd, Nat.reduceSub, Array.replicate_succ, Array.replicate_zero, List.push_toArray, List.append_toArray, List.nil_append, List.cons_append]
  refine wpIn_mono (Q := calm _) ?_ calm_le
  gi_wp2_with fail
  refine ⟨trivial, (callsIn_wide.2 HC.out).mono ?_⟩
  rintro e w1 (⟨l, v, hl, rfl, h1c, hrow, b1⟩ | ⟨hno, rfl, b1⟩)
  · obtain ⟨A, k, n, rfl, hrow⟩ := rowAt_form hrow
    have hlen : (txL l).length < 201 := by have := hl.1; rw [hl.2.2] at this; omega
    have hd9 : dpL l ≤ 9 := by have := dp_okL l 0 hl.2.1 (by omega); omega
    have HROW := Lib.hid (show RowAt w1 (fun b => w.heap.size ≤ b ∧ b < w1.heap.size) l (.slice A n k) from hrow.stay ⟨Nat.le_refl _, fun b hb hp => ⟨⟨hp, hb⟩, rfl⟩⟩)
    have HOK := Lib.hid hl.2.1
    have HZ := Lib.hid (framesZ_yes hl)
    have HB := Lib.hid b1
    clear hl b1 hrow
    gi_wp2_with fail
    refine ⟨trivial, (callsIn_wide.2 (everyItem_any A n k 0 _)).mono ?_⟩
    rintro e w3 ⟨rfl, hw3⟩
    have hs3 : w3.heap.size = w1.heap.size + 3 := by rw [hw3]; simp
    have hsz1 : w.heap.size ≤ w1.heap.size := HB.out.size
    have hM : Blk w3 w1.heap.size 3 #[.int .i64 0] := by rw [hw3]; exact ((Blk.new w1 _ _).alloc _).alloc _
    have hB1 : Blk w3 (w1.heap.size + 1) 47 #[.slice A n k] := by
      have := (Blk.new (w1.alloc (.cells #[.int .i64 0] 3)) 47 #[.slice A n k]).alloc (.cells #[.int .i64 ((0 : Nat) : Int)] 3)
      rw [World.size_alloc] at this
      rw [hw3]; exact this
    have hB2 : Blk w3 (w1.heap.size + 1 + 1) 3 #[.int .i64 ((0 : Nat) : Int)] := by
      have := Blk.new ((w1.alloc (.cells #[.int .i64 0] 3)).alloc (.cells #[.slice A n k] 47)) 3 #[.int .i64 ((0 : Nat) : Int)]
      rw [World.size_alloc, World.size_alloc] at this
      rw [hw3]; exact this
    have hb3 : Below w1.heap.size w1 w3 := by rw [hw3]; exact (((Below.refl _ _).alloc (Nat.le_refl _) _).alloc (by simp) _).alloc (by simp; omega) _
    have HSEQ := Lib.hid (seqAll_wide (m := 3) (everyItem1_own w1 (fun b => w.heap.size ≤ b ∧ b < w1.heap.size) (fun b hb => hb.2) 201 l 0 w3 (w1.heap.size + 1) (w1.heap.size + 1 + 1) _ (by omega) hlen HOK.out (by omega) HROW.out ⟨by omega, fun b hb _ => hb3.block b hb⟩ hB1 hB2))
    have HM := Lib.hid hM
    have HB3 := Lib.hid (below_trans_self HB.out hb3)
    have HDP := Lib.hid (dp_all l)
    clear hw3 hM hB1 hB2 hb3
    gi_wp2_with fail
    refine wpIn_rangeFunc_all rfl (by decide) (gf := 70) (lb := #[.pointer (some ⟨w1.heap.size + 1, 0, none⟩), .pointer (some ⟨w1.heap.size + 1 + 1, 0, none⟩)]) rfl trivial (enters_of Try.func70 (by kernel_rfl) rfl) HSEQ.out (Below.refl _ _) (fun _ => rfl) (fun b hb => ?_)
      (fun _ pre W => Hid (Blk W w1.heap.size 3 #[.int .i64 (mostF frF 0 (pre.map fun x => (x.1, x.2.1)) : Nat)]) ∧ Hid (Below w.heap.size w W))
      ?_ ?_ ?a1 ?assign ?body ?done
    case assign =>
      intro l3 x3 W7 K7 hK7
      gi_wp2
      exact hK7
    · rcases hb with hb | hb | hb
      · have := hb.2; omega
      · omega
      · omega
    · rintro Ot pre X Y hle hO ⟨h1, h2⟩ hT
      exact ⟨(hT.block _ h1.out.lt fun e => by have := hO _ e; omega).trans h1.out, h2.out.trans (hT.below h2.out.size fun b hb => by have := hO b hb; omega)⟩
    · exact ⟨HM.out, HB3.out⟩
    case body =>
      rintro l3 Oin pre ⟨xk, xi, xv⟩ Wt hle hO ⟨h1, h2⟩ hnx
      have hit := hnx.2 (xk, xi, xv) (by simp)
      obtain ⟨T, x, F, b0, bA, bn, bk, hd⟩ := item_disp hit
      obtain rfl := hd.val
      have ha := hd.asrt
      have HNX := Lib.hid hnx.1
      have c0 := h1.out.cell 0
      have f0 := h1.out.frozen 0
      have hlt := h1.out.lt
      have hmap : (pre ++ [(xk, xi, Value.iface T x)]).map (fun x => (x.1, x.2.1)) = pre.map (fun x => (x.1, x.2.1)) ++ [(xk, xi)] := by simp
      have hst : mostF frF 0 ((pre ++ [(xk, xi, Value.iface T x)]).map fun x => (x.1, x.2.1)) = max (mostF frF 0 (pre.map fun x => (x.1, x.2.1))) (frF (xk, xi)) := by
        rw [hmap, mostF_append]; rfl
      have hle9 : mostF frF 0 ((pre ++ [(xk, xi, Value.iface T x)]).map fun x => (x.1, x.2.1)) ≤ 9 := by
        obtain ⟨t, ht⟩ := hnx.1
        have h5 := mostF_le frF t (mostF frF 0 ((pre ++ [(xk, xi, Value.iface T x)]).map fun x => (x.1, x.2.1)))
        rw [← mostF_append, ht, HDP.out] at h5
        omega
      have HST := Lib.hid hst
      obtain ⟨m0, hm0⟩ : ∃ m0, m0 = mostF frF 0 (pre.map fun x => (x.1, x.2.1)) := ⟨_, rfl⟩
      rw [← hm0] at c0 hst HST
      rw [hst] at hle9
      have HM0 := Lib.hid hm0
      have H2 := Lib.hid h2.out
      have H1 := Lib.hid h1.out
      clear hnx hit hd hmap hst hm0 h1 h2
      have hne : ∀ b, ((((w.heap.size ≤ b ∧ b < w1.heap.size) ∨ b = w1.heap.size + 1 ∨ b = w1.heap.size + 1 + 1) ∨ Oin b) → b ≠ w1.heap.size) := fun b hb => by
        rcases hb with (hb | hb | hb) | hb
        · omega
        · omega
        · omega
        · have := hO b hb; omega
      cases hfr : frI xi with
      | false =>
        rw [hfr] at ha
        have HF0 := Lib.hid (show frF (xk, xi) = 0 by unfold frF; rw [hfr]; rfl)
        clear hfr
        gi_wp2_with fail
        have hk1 := (Turns.alloc (fun _ => False) Wt (.cells #[.bool b0, .slice bA bn bk] 69)).keeps (O' := fun b => ((w.heap.size ≤ b ∧ b < w1.heap.size) ∨ b = w1.heap.size + 1 ∨ b = w1.heap.size + 1 + 1) ∨ Oin b) (fun _ _ h => h)
        refine ⟨hk1, ?_, H2.out.alloc H2.out.size _⟩
        rw [HST.out, HF0.out, Nat.max_zero, HM0.out]
        exact H1.out.alloc _
      | true =>
        rw [hfr] at ha
        have HF0 := Lib.hid (show frF (xk, xi) = xk + 1 by unfold frF; rw [hfr]; rfl)
        have hx9 : xk + 1 ≤ 9 := by rw [HF0.out] at hle9; omega
        have s1 : IntKind.i64.wrap ((xk : Int) + 1) = (xk : Int) + 1 := IntWalk.i64_in _ (by omega)
        clear hfr hle9
        gi_wp2_with fail
        have T1 := Turns.setCell (O := fun k => k = w1.heap.size) (A := Wt) (p := ⟨w1.heap.size, 0, none⟩) rfl (.int .i64 (max (m0 : Int) ((xk : Int) + 1)))
        have hk1 := T1.keeps (O' := fun b => ((w.heap.size ≤ b ∧ b < w1.heap.size) ∨ b = w1.heap.size + 1 ∨ b = w1.heap.size + 1 + 1) ∨ Oin b) (fun b hb => hne b hb)
        have hk2 := (Turns.alloc (fun _ => False) (Wt.setCell ⟨w1.heap.size, 0, none⟩ (.int .i64 (max (m0 : Int) ((xk : Int) + 1)))) (.cells #[.bool b0, .slice bA bn bk] 69)).keeps (O' := fun b => ((w.heap.size ≤ b ∧ b < w1.heap.size) ∨ b = w1.heap.size + 1 ∨ b = w1.heap.size + 1 + 1) ∨ Oin b) (fun _ _ h => h)
        have hB5 := below_set H2.out hsz1 0 (.int .i64 (max (m0 : Int) ((xk : Int) + 1)))
        refine ⟨hk1.trans hk2, ?_, hB5.alloc hB5.size _⟩
        rw [HST.out, HF0.out, max_cast]
        exact (H1.out.set_ 0 (.int .i64 (max (m0 : Int) ((xk : Int) + 1)))).alloc _
    case done =>
      rintro D Oin xs3 Wt hD hO hS ⟨h1, h2⟩ hOD hK
      have c0 := h1.out.cell 0
      have HK := Lib.hid hK
      have H2 := Lib.hid h2.out
      have HMS := Lib.hid (show mostF frF 0 (xs3.map fun x => (x.1, x.2.1)) = dpL l by rw [hS.1, HDP.out])
      clear hD h1 h2 hK
      gi_wp2_with fail
      have hDl := (hO D hOD)
      refine ⟨by simp, .inl ⟨_, _, rfl, run_takeDeferred HK.out, ?_⟩⟩
      refine ⟨_, results_tmp rfl _ _ _, ?_, below_putD H2.out (by omega) _⟩
      rw [HMS.out, HZ.out]; rfl
  · have HN := Lib.hid (framesZ_no hno)
    have HB := Lib.hid b1
    clear hno b1
    gi_wp2_with fail
    refine ⟨_, results_tmp rfl _ _ _, by rw [HN.out]; rfl, HB.out⟩
end Go.Proofs.Ytelhogeaobofpaa
