import Derived.Test.YtlkfakdghjaoaaaGreatDoorJ12
import Derived.Shelf.RegionOpen
import Derived.Shelf.Abstract
set_option maxRecDepth 100000
set_option maxHeartbeats 6400000
namespace Go.Proofs.YtlkfakdghjaoaaaGreatDoor
open Go.RowKit Go.Sort
attribute [local go_sem] Oper.semAt_some
end Go.Proofs.YtlkfakdghjaoaaaGreatDoor
namespace Go.Proofs.YtlkfakdghjaoaaaGreatDoor
open Go.RowKit Go.Sort
attribute [local go_sem] Oper.semAt_some
theorem sC (c : UInt8) (W : World) : Calls Tryz.prog 63 #[.string ⟨#[88, 63, 40, 123, 94, 46, 61, 35]⟩, .string (tb [c])] W fun e w' => e = .returned (.bool (decide (0 ≤ Lib.indexByte [88, 63, 40, 123, 94, 46, 61, 35] c))) ∧ w' = W :=
 Tryz.strings_Contains_one ⟨#[88, 63, 40, 123, 94, 46, 61, 35]⟩ c W
theorem Eo (c : UInt8) : (c ∈ ([88, 63, 40, 123, 94, 46, 61, 35] : List UInt8) ∧ decide (0 ≤ Lib.indexByte [88, 63, 40, 123, 94, 46, 61, 35] c) = true) ∨ (c ∉ ([88, 63, 40, 123, 94, 46, 61, 35] : List UInt8) ∧ decide (0 ≤ Lib.indexByte [88, 63, 40, 123, 94, 46, 61, 35] c) = false) := by
 rcases rm c with ⟨a, b⟩ | ⟨a, b⟩
 ·refine .inl ⟨a, decide_eq_true ?_⟩
  have : ¬ Lib.indexByte [88, 63, 40, 123, 94, 46, 61, 35] c < 0 := fun h => by rw [b] at h; exact h
  omega
 ·refine .inr ⟨a, decide_eq_false ?_⟩
  have : Lib.indexByte [88, 63, 40, 123, 94, 46, 61, 35] c < 0 := by rw [b]; trivial
  omega
def gK (c : UInt8) (l : List (Nat × It)) : Nat := l.countP fun p => decide (cJ p.2 = c)
theorem AD (c : UInt8) (l : List (Nat × It)) (x : Nat × It) : gK c (l ++ [x]) = gK c l + (if cJ x.2 = c then 1 else 0) := by
 unfold gK
 rw [List.countP_append, List.countP_cons, List.countP_nil, Nat.zero_add]
 simp
theorem Ep (c : UInt8) (l : List (Nat × It)) : gK c l ≤ l.length := List.countP_le_length ..
theorem CO (c : UInt8) (l : List It) : gK c (bI l 0) = ce c l := ji c l 0
theorem CP (c : UInt8) (a b : List (Nat × It)) : gK c (a ++ b) = gK c a + gK c b := by unfold gK; rw [List.countP_append]
theorem xg (l : List It) : (bI l 0).length = (aN l).length := by unfold aN; rw [List.length_map]
theorem fU (s kd : List UInt8) (w : World) :
  Calls Tryz.prog 66 #[.string (tb s), .string (tb kd)] w fun e w' => e = .returned (.int .i64 (bH s kd)) ∧ Below w.heap.size w w' := by
 obtain ⟨W0, hW0⟩ : ∃ W0, W0 = w.alloc (.cells #[.string (tb kd)] 9) := ⟨_, rfl⟩
 have hs0 : W0.heap.size = w.heap.size + 1 := by rw [hW0]; simp
 have hB0 : Below w.heap.size w W0 := by rw [hW0]; exact (Below.refl _ w).alloc (Nat.le_refl _) _
 have hK0 : Blk W0 w.heap.size 9 #[.string (tb kd)] := by rw [hW0]; exact Blk.new w _ _
 have HC := GR (k8 s W0)
 have HW0 := GR hW0
 have HB0 := GR hB0
 have HK0 := GR hK0
 have hz : (tb kd).size = kd.length := aB kd
 clear hW0 hB0 hK0
 refine (callsIn_wide (n := 4)).1 ?_
 refine callsIn_of_wp_marks Tryz.func66 rfl trivial ?_ rfl
 simp only [Tryz.ntmps66, List.size_toArray, List.length_cons, List.length_nil, Nat.reduceAdd, Nat.reduceSub, Array.replicate_succ, Array.replicate_zero, List.push_toArray, List.append_toArray, List.nil_append, List.cons_append]
 refine wpIn_mono (Q := rR _) ?_ lE
 gi_wp2_with fail
 rw [← HW0.out]
 refine ⟨trivial, (callsIn_wide.2 HC.out).mono ?_⟩
 rintro e w1 (⟨l, v, hl, rfl, h1c, hrow, b1⟩ | ⟨hno, rfl, b1⟩)
 ·obtain ⟨A, k, n, rfl, hrow⟩ := eA hrow
  have hlen : (aH l).length < 201 := by have := hl.1; rw [hl.2.2] at this; omega
  have hd9 : rA l ≤ 9 := by have := lS l 0 hl.2.1; have := lR l 0 hl.2.1 (by omega); omega
  have HROW := GR (show RowAt w1 (fun b => W0.heap.size ≤ b ∧ b < w1.heap.size) l (.slice A n k) from hrow.stay ⟨Nat.le_refl _, fun b hb hp => ⟨⟨hp, hb⟩, rfl⟩⟩)
  have HOK := GR hl.2.1
  have HL := GR hl
  have HB := GR b1
  have ck : w1.cell? ⟨w.heap.size, 0, none⟩ = some (.string (tb kd)) := ((HK0.out.below b1 (by omega)).cell 0)
  clear hl b1 hrow
  by_cases hk1 : kd.length = 1
  ·obtain ⟨c, rfl⟩ := List.length_eq_one_iff.1 hk1
   have hsz : (tb [c]).size = 1 := hz
   rcases Eo c with ⟨hmem, hin⟩ | ⟨hmem, hin⟩
   ·have HCC := GR (sC c)
    rw [hin] at HCC
    have HZ := GR (io HL.out rfl hmem)
    clear hk1 hz hmem hin
    gi_wp2_with fail
    refine ⟨trivial, (callsIn_wide.2 (HCC.out _)).mono ?_⟩
    rintro e w2 ⟨rfl, rfl⟩
    gi_wp2_with fail
    refine ⟨trivial, (callsIn_wide.2 (m8 A n k 0 _)).mono ?_⟩
    rintro e w3 ⟨rfl, hw3⟩
    have hs3 : w3.heap.size = w2.heap.size + 3 := by rw [hw3]; simp
    have hsz1 : W0.heap.size ≤ w2.heap.size := HB.out.size
    have hM : Blk w3 w2.heap.size 3 #[.int .i64 0] := by rw [hw3]; exact ((Blk.new w2 _ _).alloc _).alloc _
    have hB1 : Blk w3 (w2.heap.size + 1) 69 #[.slice A n k] := by
     have := (Blk.new (w2.alloc (.cells #[.int .i64 0] 3)) 69 #[.slice A n k]).alloc (.cells #[.int .i64 ((0 : Nat) : Int)] 3)
     rw [World.size_alloc] at this
     rw [hw3]; exact this
    have hB2 : Blk w3 (w2.heap.size + 1 + 1) 3 #[.int .i64 ((0 : Nat) : Int)] := by
     have := Blk.new ((w2.alloc (.cells #[.int .i64 0] 3)).alloc (.cells #[.slice A n k] 69)) 3 #[.int .i64 ((0 : Nat) : Int)]
     rw [World.size_alloc, World.size_alloc] at this
     rw [hw3]; exact this
    have hb3 : Below w2.heap.size w2 w3 := by rw [hw3]; exact (((Below.refl _ _).alloc (Nat.le_refl _) _).alloc (by simp) _).alloc (by simp; omega) _
    have HSEQ := GR (oX (m := 3) (rQ w2 (fun b => W0.heap.size ≤ b ∧ b < w2.heap.size) (fun b hb => hb.2) 201 l 0 w3 (w2.heap.size + 1) (w2.heap.size + 1 + 1) _ (by omega) hlen HOK.out (by omega) HROW.out ⟨by omega, fun b hb _ => hb3.block b hb⟩ hB1 hB2))
    have HM := GR hM
    have HB3 := GR (af HB.out hb3)
    have HDP := GR (CO c l)
    have HLE := GR (show (bI l 0).length ≤ 200 by rw [xg]; have := mM l; omega)
    clear hw3 hM hB1 hB2 hb3 ck
    gi_wp2_with fail
    refine i8 rfl (by decide) (gf := 100) (lb := #[.pointer (some ⟨w2.heap.size + 1, 0, none⟩), .pointer (some ⟨w2.heap.size + 1 + 1, 0, none⟩)]) rfl trivial (enters_of Tryz.func100 (by kernel_rfl) rfl) HSEQ.out (Below.refl _ _) (fun _ => rfl) (fun b hb => ?_)
     (fun _ pre W => Hid (Blk W w2.heap.size 3 #[.int .i64 (gK c (pre.map fun x => (x.1, x.2.1)) : Nat)]) ∧ Hid (Below W0.heap.size W0 W))
     ?_ ?_ ?a1 ?assign ?body ?done
    case assign =>
     intro l3 x3 W7 K7 hK7
     gi_wp2
     exact hK7
    ·rcases hb with hb | hb | hb
     ·have := hb.2; omega
     ·omega
     ·omega
    ·rintro Ot pre X Y hle hO ⟨h1, h2⟩ hT
     exact ⟨(hT.block _ h1.out.lt fun e => by have := hO _ e; omega).trans h1.out, h2.out.trans (hT.below h2.out.size fun b hb => by have := hO b hb; omega)⟩
    ·exact ⟨HM.out, HB3.out⟩
    case body =>
     rintro l3 Oin pre ⟨xk, xi, xv⟩ Wt hle hO ⟨h1, h2⟩ hnx
     have hit := hnx.2 (xk, xi, xv) (by simp)
     have HKD := GR (fun W => zw hit W)
     have hmap : (pre ++ [(xk, xi, xv)]).map (fun x => (x.1, x.2.1)) = pre.map (fun x => (x.1, x.2.1)) ++ [(xk, xi)] := by simp
     have hst : gK c ((pre ++ [(xk, xi, xv)]).map fun x => (x.1, x.2.1)) = gK c (pre.map fun x => (x.1, x.2.1)) + (if cJ xi = c then 1 else 0) := by
      rw [hmap, AD]
     have hle9 : gK c (pre.map fun x => (x.1, x.2.1)) ≤ 200 := by
      obtain ⟨t, ht⟩ := hnx.1
      have h5 := Ep c (bI l 0)
      have h6 := HLE.out
      rw [← ht, CP, hst] at h5
      rw [← ht] at h6
      omega
     have HST := GR hst
     obtain ⟨m0, hm0⟩ : ∃ m0, m0 = gK c (pre.map fun x => (x.1, x.2.1)) := ⟨_, rfl⟩
     rw [← hm0] at h1 hst HST hle9
     have HM0 := GR hm0
     have H2 := GR h2.out
     have H1 := GR h1.out
     have ckt : Wt.cell? ⟨w.heap.size, 0, none⟩ = some (.string (tb [c])) := ((HK0.out.below h2.out (by omega)).cell 0)
     have CKB : Hid (∀ W : World, Below Wt.heap.size Wt W → W.cell? ⟨w.heap.size, 0, none⟩ = some (.string (tb [c]))) := by
      intro W hW
      exact ((HK0.out.below h2.out (by omega)).below hW (by have := h2.out.size; omega)).cell 0
     have hne : ∀ b, ((((W0.heap.size ≤ b ∧ b < w2.heap.size) ∨ b = w2.heap.size + 1 ∨ b = w2.heap.size + 1 + 1) ∨ Oin b) → b ≠ w2.heap.size) := fun b hb => by
      rcases hb with (hb | hb | hb) | hb
      ·omega
      ·omega
      ·omega
      ·have := hO b hb; omega
     clear hnx hit hmap hst hm0 h1 h2
     gi_wp2_with fail
     gi_region_with (refine ⟨trivial, ?_⟩; gi_at_call 112; refine ((callsIn_wide.2 (HKD.out _)).inRound l3).mono ?_; rintro e w' ⟨rfl, hb⟩; have ck2 := CKB.out w' ((Below.refl _ Wt).drew.trans hb))
     all_goals
      have hb4 : Below Wt.heap.size Wt w' := (Below.refl _ Wt).drew.trans hb
      have h1' := H1.out.below hb4 H1.out.lt
      have c0 := h1'.cell 0
      have f0 := h1'.frozen 0
      have hlt := h1'.lt
      have H1' := GR h1'
      have HB4 := GR hb4
      have HK4 := GR (show Keeps (fun k => ((W0.heap.size ≤ k ∧ k < w2.heap.size) ∨ k = w2.heap.size + 1 ∨ k = w2.heap.size + 1 + 1) ∨ Oin k) Wt w' from ⟨hb4.size, fun k hk _ => hb4.block k hk⟩)
      have HB5 := GR (H2.out.trans (hb4.mono H2.out.size))
      clear h1' hb hb4 hO
      by_cases hkc : cJ xi = c
      ·have HF := GR (show (if cJ xi = c then 1 else 0) = 1 from if_pos hkc)
       have s1 : IntKind.i64.wrap ((m0 : Int) + 1) = (m0 : Int) + 1 := IntWalk.i64_in _ (by omega)
       have e1 : ((tb [cJ xi]).toList == (tb [c]).toList) = true := by rw [an, an, hkc]; simp
       rw [e1]
       clear e1 hkc
       gi_wp2_with fail
       have T1 := Turns.setCell (O := fun k => k = w2.heap.size) (A := w') (p := ⟨w2.heap.size, 0, none⟩) rfl (.int .i64 ((m0 : Int) + 1))
       have hk1 := T1.keeps (O' := fun b => ((W0.heap.size ≤ b ∧ b < w2.heap.size) ∨ b = w2.heap.size + 1 ∨ b = w2.heap.size + 1 + 1) ∨ Oin b) (fun b hb => hne b hb)
       have hB5 := dE HB5.out hsz1 0 (.int .i64 ((m0 : Int) + 1))
       refine ⟨HK4.out.trans hk1, ?_, hB5⟩
       rw [HST.out, HF.out]
       exact H1'.out.set_ 0 (.int .i64 ((m0 : Int) + 1))
      ·have HF := GR (show (if cJ xi = c then 1 else 0) = 0 from if_neg hkc)
       have e1 : ((tb [cJ xi]).toList == (tb [c]).toList) = false := by rw [an, an]; simpa using hkc
       rw [e1]
       clear e1 hkc
       gi_wp2_with fail
       refine ⟨HK4.out, ?_, HB5.out⟩
       rw [HST.out, HF.out]
       exact H1'.out
    case done =>
     rintro D Oin xs3 Wt hD hO hS ⟨h1, h2⟩ hOD hK
     have c0 := h1.out.cell 0
     have HK := GR hK
     have H2 := GR h2.out
     have HMS := GR (show gK c (xs3.map fun x => (x.1, x.2.1)) = ce c l by rw [hS.1]; exact HDP.out)
     clear hD h1 h2 hK
     gi_wp2_with fail
     have hDl := (hO D hOD)
     refine ⟨by simp, .inl ⟨_, _, rfl, run_takeDeferred HK.out, ?_⟩⟩
     refine ⟨_, results_tmp rfl _ _ _, ?_, HB0.out.trans ((zo H2.out (by omega) _).mono HB0.out.size)⟩
     rw [HMS.out, HZ.out]; rfl
   ·have HCC := GR (sC c)
    rw [hin] at HCC
    have HN := GR (gZ (s := s) (kd := [c]) fun l c' _ e hm => hmem (by rw [(List.cons.inj e).1]; exact hm))
    clear hk1 hz hmem hin
    gi_wp2_with fail
    refine ⟨trivial, (callsIn_wide.2 (HCC.out _)).mono ?_⟩
    rintro e w2 ⟨rfl, rfl⟩
    gi_wp2_with fail
    refine ⟨_, results_tmp rfl _ _ _, by rw [HN.out]; rfl, af HB0.out HB.out⟩
  ·have HN := GR (gZ (s := s) (kd := kd) fun l c _ e _ => hk1 (by rw [e]; rfl))
   have hne : (((kd.length : Int)) != 1) = true := by simp; omega
   clear HROW HOK HL
   gi_wp2_with fail
   rename_i Ka ha Kb hb2 Kc hc
   refine ⟨trivial, hc _ _ ?_⟩
   gi_wp2_with fail
   refine ⟨_, results_tmp rfl _ _ _, by rw [HN.out]; rfl, af HB0.out HB.out⟩
 ·have HN := GR (gZ (s := s) (kd := kd) fun l _ h _ _ => hno l h)
  have HB := GR b1
  clear hno b1
  gi_wp2_with fail
  rename_i Ka ha Kb hb2 Kc hc
  refine ⟨trivial, hc _ _ ?_⟩
  gi_wp2_with fail
  refine ⟨_, results_tmp rfl _ _ _, by rw [HN.out]; rfl, af HB0.out HB.out⟩
end Go.Proofs.YtlkfakdghjaoaaaGreatDoor
