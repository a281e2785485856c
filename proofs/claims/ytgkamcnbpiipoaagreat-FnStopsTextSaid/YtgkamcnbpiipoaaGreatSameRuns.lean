/-
  The program's FirstOther: the first short choices with which a graph and a text do not do the same.
-/
import Derived.Test.YtgkamcnbpiipoaaGreatFoMath
import Derived.Test.YtgkamcnbpiipoaaGreatSpecRun
import Derived.Test.YtgkamcnbpiipoaaGreatShortIter
import Derived.Test.YtgkamcnbpiipoaaGreatRunText
import Derived.Test.YtgkamcnbpiipoaaGreatTextB
import Derived.Test.YtgkamcnbpiipoaaGreatMRunText
namespace Go.Proofs.YtgkamcnbpiipoaaGreat
open Go.RowKit Go.Sort
attribute [local go_sem] Oper.semAt_some sv

set_option maxRecDepth 100000 in
set_option maxHeartbeats 3200000 in
theorem implFirstOther_any (A : Option Addr) (cap : Nat) (g : List Bl) (s : List UInt8) (w : World) (hg : Gr w A g) (hn : g.length + tot g ≤ 1048576) :
    Calls Tryz.prog 6 #[.slice A g.length cap, .string (tb s)] w fun e w' => ∃ r, FO g s r ∧ e = .returned (foV r) ∧ Below w.heap.size w w' := by
  obtain ⟨w1, hw1⟩ : ∃ w1, w1 = ((w.alloc (.cells #[.slice A g.length cap] 23)).alloc (.cells #[.string ⟨#[]⟩] 9)).alloc (.cells #[.bool false] 4) := ⟨_, rfl⟩
  have hs1 : w1.heap.size = w.heap.size + 3 := by rw [hw1]; simp
  have hb1 : Below w.heap.size w w1 := by rw [hw1]; exact (((Below.refl _ w).alloc (Nat.le_refl _) _).alloc (by simp) _).alloc (by simp; omega) _
  have k0 : Blk w1 w.heap.size 23 #[.slice A g.length cap] := by rw [hw1]; exact ((Blk.new w _ _).alloc _).alloc _
  have k1 : Blk w1 (w.heap.size + 1) 9 #[.string ⟨#[]⟩] := by
    have := (Blk.new (w.alloc (.cells #[.slice A g.length cap] 23)) 9 #[.string ⟨#[]⟩]).alloc (.cells #[.bool false] 4)
    rw [World.size_alloc] at this
    rw [hw1]; exact this
  have k2 : Blk w1 (w.heap.size + 2) 4 #[.bool false] := by
    have := Blk.new ((w.alloc (.cells #[.slice A g.length cap] 23)).alloc (.cells #[.string ⟨#[]⟩] 9)) 4 #[.bool false]
    rw [World.size_alloc, World.size_alloc] at this
    rw [hw1]; exact this
  have HW1 := Lib.hid hw1
  have HB1 := Lib.hid hb1
  have HK0 := Lib.hid k0
  have HK1 := Lib.hid k1
  have HK2 := Lib.hid k2
  have HIT := Lib.hid (itemsOf_any s w1)
  have HG := Lib.hid hg
  have HN := Lib.hid hn
  clear hw1 hb1 k0 k1 k2 hg hn
  refine (callsIn_wide (n := 6)).1 ?_
  refine callsIn_of_wp_marks Tryz.func6 rfl trivial ?_ rfl
  simp only [Tryz.ntmps6, List.size_toArray, List.length_cons, List.length_nil, Nat.reduceAdd, Nat.reduceSub, Array.replicate_succ, Array.replicate_zero, List.push_toArray, List.append_toArray, List.nil_append, List.cons_append]
  refine wpIn_mono (Q := calm _) ?_ calm_le
  gi_wp2_with fail
  rw [← HW1.out]
  refine ⟨trivial, (callsIn_wide.2 HIT.out).mono ?_⟩
  rintro e w2 (⟨l, v, htx, rfl, h1c, hrow, hb⟩ | ⟨hno, rfl, hb⟩)
  · obtain ⟨A1, cp, m, rfl, hrow⟩ := rowAt_form hrow
    have k0 := HK0.out.below hb HK0.out.lt
    have k1 := HK1.out.below hb HK1.out.lt
    have k2 := HK2.out.below hb HK2.out.lt
    have c0 := k0.cell 0
    have HB2 := Lib.hid (HB1.out.trans (hb.mono HB1.out.size))
    have HTX := Lib.hid htx
    have HROW := Lib.hid hrow
    have hsz2 := hb.size
    have hgw := HG.out.below HB2.out
    have HGW := Lib.hid hgw
    have L0 := Lib.hid k0
    have L1 := Lib.hid k1
    have L2 := Lib.hid k2
    have c03 : (w2.alloc (.cells #[.slice A1 m cp] 41)).cell? ⟨w.heap.size, 0, none⟩ = some (.slice A g.length cap) := (k0.alloc _).cell 0
    have hb3 : Below w2.heap.size w2 (w2.alloc (.cells #[.slice A1 m cp] 41)) := (Below.refl _ w2).alloc (Nat.le_refl _) _
    have HGV := Lib.hid (implValid_any A cap g (w2.alloc (.cells #[.slice A1 m cp] 41)) (hgw.below hb3) HN.out)
    have HB3 := Lib.hid hb3
    have HI3 := Lib.hid (Blk.new w2 41 #[.slice A1 m cp])
    clear htx hrow hb h1c k0 k1 k2 hgw hb3 c0
    gi_wp2_with fail
    refine ⟨trivial, (callsIn_wide.2 HGV.out).mono ?_⟩
    rintro e w4 ⟨rfl, b4⟩
    have hs3 : (w2.alloc (.cells #[.slice A1 m cp] 41)).heap.size = w2.heap.size + 1 := by simp
    have HB4 := Lib.hid (HB2.out.trans ((HB3.out.trans (b4.mono (by omega))).mono HB2.out.size))
    have hs4 := b4.size
    have M0 := Lib.hid ((L0.out.alloc (.cells #[.slice A1 m cp] 41)).below b4 (L0.out.alloc _).lt)
    have M1 := Lib.hid ((L1.out.alloc (.cells #[.slice A1 m cp] 41)).below b4 (L1.out.alloc _).lt)
    have M2 := Lib.hid ((L2.out.alloc (.cells #[.slice A1 m cp] 41)).below b4 (L2.out.alloc _).lt)
    have MI := Lib.hid (HI3.out.below b4 HI3.out.lt)
    have HR4 : Hid (RowAt w4 (fun b => b < w2.heap.size) l (.slice A1 m cp)) := Lib.hid (HROW.out.stay ⟨by omega, fun b hb _ => ⟨hb, (b4.block b (by omega)).trans (Below.heap_alloc _ _ _ hb)⟩⟩)
    clear b4 c03
    cases hv : validB g with
    | false =>
      have HF := Lib.hid (fo_no_graph (s := s) hv)
      have c1 := M1.out.cell 0
      have c2 := M2.out.cell 0
      have f1 := M1.out.frozen 0
      have f2 := M2.out.frozen 0
      gi_wp2_with fail
      have d1 : ((w4.setCell ⟨w.heap.size + 1, 0, none⟩ (.string ⟨#[]⟩)).setCell ⟨w.heap.size + 1 + 1, 0, none⟩ (.bool false)).cell? ⟨w.heap.size + 1, 0, none⟩ = some (.string ⟨#[]⟩) := Boxed.cell (((show Boxed w4 (w.heap.size + 1) 9 (.string ⟨#[]⟩) from M1.out).set (.string ⟨#[]⟩)).other (by omega) (.bool false))
      have d2 : ((w4.setCell ⟨w.heap.size + 1, 0, none⟩ (.string ⟨#[]⟩)).setCell ⟨w.heap.size + 1 + 1, 0, none⟩ (.bool false)).cell? ⟨w.heap.size + 1 + 1, 0, none⟩ = some (.bool false) := Boxed.cell (((show Boxed w4 (w.heap.size + 1 + 1) 4 (.bool false) from M2.out).other (by omega) (.string ⟨#[]⟩)).set (.bool false))
      refine ⟨.tuple #[.string ⟨#[]⟩, .bool false], by simp [results, Tryz.results6, go_sem, d1, d2], ?_⟩
      exact ⟨none, HF.out, rfl, below_set (below_set HB4.out (by omega) 0 _) (by omega) 0 _⟩
    | true =>
      have HV := Lib.hid hv
      clear hv
      gi_wp2_with fail
      refine ⟨trivial, (callsIn_wide.2 (shortChoices_any 6 w4)).mono ?_⟩
      rintro e w5 ⟨rfl, rfl⟩
      gi_wp2_with fail
      obtain ⟨W0, hW0⟩ : ∃ W0, W0 = w4.alloc (.cells #[.int .i64 6] 3) := ⟨_, rfl⟩
      have hs0 : W0.heap.size = w4.heap.size + 1 := by rw [hW0]; simp
      have hNB : W0.cell? ⟨w4.heap.size, 0, none⟩ = some (.int .i64 6) := by rw [hW0]; exact (Blk.new w4 3 #[.int .i64 6]).cell 0
      have P0 : Hid (Boxed W0 w.heap.size 23 (.slice A g.length cap)) := Lib.hid (by rw [hW0]; exact M0.out.alloc _)
      have P1 : Hid (Boxed W0 (w.heap.size + 1) 9 (.string ⟨#[]⟩)) := Lib.hid (by rw [hW0]; exact M1.out.alloc _)
      have P2 : Hid (Boxed W0 (w.heap.size + 1 + 1) 4 (.bool false)) := Lib.hid (by rw [hW0]; exact M2.out.alloc _)
      have PI : Hid (Boxed W0 w2.heap.size 41 (.slice A1 m cp)) := Lib.hid (by rw [hW0]; exact MI.out.alloc _)
      have HB0 : Hid (Below w.heap.size w W0) := Lib.hid (by rw [hW0]; exact HB4.out.alloc HB4.out.size _)
      have HR0 : Hid (RowAt W0 (fun b => b < w2.heap.size) l (.slice A1 m cp)) := Lib.hid (by rw [hW0]; exact HR4.out.stay ⟨by simp, fun b hb hp => ⟨hp, Below.heap_alloc _ _ _ hb⟩⟩)
      rw [← hW0]
      clear hW0 M0 M1 M2 MI HR4
      refine wpIn_rangeFunc_mine rfl (by decide) (gf := 42) (lb := #[.pointer (some ⟨w4.heap.size, 0, none⟩)]) rfl trivial (enters_of Tryz.func42 (by kernel_rfl) rfl)
        (shortChoices1_own 5 6 w4.heap.size W0 (by decide) (by decide) hNB (by omega)) (Below.refl _ _) (fun _ => rfl) (fun k hk => by omega)
        (fun _ pre W => Hid (Below W0.heap.size W0 W) ∧ Hid (∀ y ∈ pre, Agr g l y))
        (fun c _ W => c = .ret ∧ ∃ x, Hid (FO g s (some x)) ∧ Hid (Boxed W (w.heap.size + 1) 9 (.string (tb x))) ∧ Hid (Boxed W (w.heap.size + 1 + 1) 4 (.bool true)) ∧ Hid (Below w.heap.size w W))
        ?hI ?hIx (fun _ _ _ _ => trivial) ?h0
        (fun x => { tmps := #[.slice A g.length cap, .string (tb s), .pointer (some ⟨w.heap.size, 0, none⟩), undef, .pointer (some ⟨w.heap.size + 1, 0, none⟩), .pointer (some ⟨w.heap.size + 1 + 1, 0, none⟩), .pointer (some ⟨w2.heap.size, 0, none⟩), .bool true,
          .string (tb x), undef, undef, undef, undef, undef, .tuple #[.slice A1 m cp, .bool true], .string (tb s), .tuple #[.slice A1 m cp, .bool true], .slice A1 m cp, .bool true, .bool true, .bool false, .bool false, .slice A g.length cap, .bool true, .bool false, .bool false,
          .func (.func 42) #[] #[.pointer (some ⟨w4.heap.size, 0, none⟩)], .string (tb x), undef, undef, undef, undef, undef, undef, undef, undef, undef, undef, undef, undef, undef, undef, undef, undef, undef, undef, undef], defers := [] }) ?assign ?body ?done ?stop
      case hI =>
        rintro O pre X Y hle hO ⟨h1, h2⟩ hT
        exact ⟨h1.out.trans (hT.below h1.out.size fun k h => by have := hO k h; omega), h2⟩
      case hIx =>
        rintro c pre X Y hle ⟨rfl, x, h1, h2, h3, h4⟩ hT
        have hl2 := h2.out.lt
        have hl3 := h3.out.lt
        exact ⟨rfl, x, h1, (hT.block _ h2.out.lt (by omega)).trans h2.out, (hT.block _ h3.out.lt (by omega)).trans h3.out, h4.out.trans (hT.below h4.out.size fun k h => by omega)⟩
      case h0 => exact ⟨Below.refl _ _, fun y hy => absurd hy (List.not_mem_nil)⟩
      case assign =>
        intro l1 x W K hK
        gi_wp2
        exact hK
      case body =>
        rintro l1 O pre x W hle hO ⟨h1, h2⟩ hx
        have hb := h1.out
        have c0 : W.cell? ⟨w.heap.size, 0, none⟩ = some (.slice A g.length cap) := Boxed.cell ((hb.block _ P0.out.lt).trans P0.out)
        have cI : W.cell? ⟨w2.heap.size, 0, none⟩ = some (.slice A1 m cp) := Boxed.cell ((hb.block _ PI.out.lt).trans PI.out)
        have hxm : x ∈ shortL 6 := hx.subset (List.mem_append_right _ (List.mem_singleton.2 rfl))
        have hz : (tb x).size ≤ 4611686018427387904 := by have := (short_LR x hxm).2; rw [tb_size]; omega
        have HRG := Lib.hid (implRun_any A cap g (tb x) W (HG.out.below (HB0.out.trans (hb.mono HB0.out.size))) HN.out hz)
        have hlen : (txL l).length ≤ 1048576 := by have h := HTX.out; have h1 := h.1; rw [h.2.2] at h1; omega
        have HLEN := Lib.hid hlen
        have HX := Lib.hid hx
        unfold RunPost at HRG
        obtain ⟨T0, hT0⟩ : ∃ T0, T0 = runT g (tb x) := ⟨_, rfl⟩
        obtain ⟨E0, hE0⟩ : ∃ E0, E0 = runE g (tb x) := ⟨_, rfl⟩
        rw [← hT0, ← hE0] at HRG
        have HT0 := Lib.hid hT0
        have HE0 := Lib.hid hE0
        clear hT0 hE0
        have HA := Lib.hid h2.out
        have HBW := Lib.hid hb
        clear hx hxm hz h1 h2 hb hlen
        gi_wp2_with fail
        refine ⟨trivial, ((callsIn_wide.2 HRG.out).inRound l1).mono ?_⟩
        rintro e w6 ⟨rfl, b6⟩
        have hb6 := HBW.out.trans (b6.mono HBW.out.size)
        have cI6 : w6.cell? ⟨w2.heap.size, 0, none⟩ = some (.slice A1 m cp) := Boxed.cell ((hb6.block _ PI.out.lt).trans PI.out)
        have HRN := Lib.hid (ranItems_any l (.slice A1 m cp) x w6 HLEN.out (HR0.out.stay ⟨hb6.size, fun b hb hp => ⟨hp, hb6.block b hb⟩⟩) HTX.out.2.1)
        have HB6 := Lib.hid hb6
        have HQ6 := Lib.hid b6
        clear b6 hb6 c0 cI
        gi_wp2_with fail
        refine ⟨trivial, ((callsIn_wide.2 HRN.out).inRound l1).mono ?_⟩
        rintro e w7 ⟨o, ho, rfl, b7⟩
        have HO := Lib.hid ho
        have HB7 := Lib.hid (HB6.out.trans (b7.mono HB6.out.size))
        have HQ7 := Lib.hid (below_trans_self HQ6.out b7)
        clear b7 ho cI6
        have HNW := Lib.hid ((HB7.out.alloc HB7.out.size (.cells #[.string (tb o.trace), .int .i64 (o.code : Nat)] 48)))
        have HQW := Lib.hid ((HQ7.out.alloc HQ7.out.size (.cells #[.string (tb o.trace), .int .i64 (o.code : Nat)] 48)))
        have J1 : Hid (Boxed (w7.alloc (.cells #[.string (tb o.trace), .int .i64 (o.code : Nat)] 48)) (w.heap.size + 1) 9 (.string ⟨#[]⟩)) := Lib.hid ((HNW.out.block _ P1.out.lt).trans P1.out)
        have J2 : Hid (Boxed (w7.alloc (.cells #[.string (tb o.trace), .int .i64 (o.code : Nat)] 48)) (w.heap.size + 1 + 1) 4 (.bool false)) := Lib.hid ((HNW.out.block _ P2.out.lt).trans P2.out)
        have c1 := J1.out.cell
        have c2 := J2.out.cell
        have f1 := J1.out.frozen
        have f2 := J2.out.frozen
        have JK := Lib.hid (Turns.keeps (O := fun _ => False) (O' := fun k => k = w4.heap.size ∨ O k) (Turns.of_below HQW.out) fun _ _ h => h)
        unfold oV
        by_cases hq : (tb o.trace).toList = T0.toList ∧ (o.code : Int) = E0
        · have g1 : ((tb o.trace).toList == T0.toList) = true := by simp [hq.1]
          have g2 : ((o.code : Int) == E0) = true := by simp [hq.2]
          have HAG : Hid (Agr g l x) := Lib.hid ⟨o, HO.out, by rw [← HT0.out]; exact beq_toList.1 g1, by rw [← HE0.out]; exact hq.2⟩
          clear hq
          gi_wp2_with fail
          refine ⟨JK.out, HNW.out, Lib.hid fun y hy => ?_⟩
          rcases List.mem_append.1 hy with hy | hy
          · exact HA.out y hy
          · rw [List.mem_singleton] at hy; rw [hy]; exact HAG.out
        · have HDI : Hid (Dis g l x) := Lib.hid ⟨o, HO.out, fun h => hq ⟨by rw [HT0.out, ← h.1], by rw [HE0.out, ← h.2]⟩⟩
          have HFO : Hid (FO g s (some x)) := Lib.hid ⟨l, HTX.out, HV.out, pre, HX.out, HA.out, HDI.out⟩
          by_cases hq1 : (tb o.trace).toList = T0.toList
          · have g1 : ((tb o.trace).toList == T0.toList) = true := by simp [hq1]
            have g2 : ((o.code : Int) == E0) = false := by simp; exact fun h => hq ⟨hq1, h⟩
            clear hq hq1
            gi_wp2_with fail
            have TX : Turns (fun k => k = w.heap.size + 1 ∨ k = w.heap.size + 1 + 1) (w7.alloc (.cells #[.string (tb o.trace), .int .i64 (o.code : Nat)] 48)) (((w7.alloc (.cells #[.string (tb o.trace), .int .i64 (o.code : Nat)] 48)).setCell ⟨w.heap.size + 1, 0, none⟩ (.string (tb x))).setCell ⟨w.heap.size + 1 + 1, 0, none⟩ (.bool true)) :=
              (Turns.setCell (O := fun k => k = w.heap.size + 1 ∨ k = w.heap.size + 1 + 1) (p := ⟨w.heap.size + 1, 0, none⟩) (.inl rfl) (.string (tb x))).trans ((Turns.setCell (O := fun k => k = w.heap.size + 1 ∨ k = w.heap.size + 1 + 1) (p := ⟨w.heap.size + 1 + 1, 0, none⟩) (.inr rfl) (.bool true)).wider fun k hk => .inl hk)
            refine ⟨JK.out.trans (TX.keeps fun k hk h => ?_), rfl, x, HFO, Lib.hid ((J1.out.set _).other (by omega) _), Lib.hid ((J2.out.other (by omega) _).set _), Lib.hid ((HB0.out.trans (HNW.out.mono HB0.out.size)).trans (TX.below (HB0.out.trans (HNW.out.mono HB0.out.size)).size fun k h => by omega))⟩
            rcases hk with hk | hk
            · omega
            · have := hO k hk; omega
          · have g1 : ((tb o.trace).toList == T0.toList) = false := by simp [hq1]
            clear hq hq1
            gi_wp2_with fail
            have TX : Turns (fun k => k = w.heap.size + 1 ∨ k = w.heap.size + 1 + 1) (w7.alloc (.cells #[.string (tb o.trace), .int .i64 (o.code : Nat)] 48)) (((w7.alloc (.cells #[.string (tb o.trace), .int .i64 (o.code : Nat)] 48)).setCell ⟨w.heap.size + 1, 0, none⟩ (.string (tb x))).setCell ⟨w.heap.size + 1 + 1, 0, none⟩ (.bool true)) :=
              (Turns.setCell (O := fun k => k = w.heap.size + 1 ∨ k = w.heap.size + 1 + 1) (p := ⟨w.heap.size + 1, 0, none⟩) (.inl rfl) (.string (tb x))).trans ((Turns.setCell (O := fun k => k = w.heap.size + 1 ∨ k = w.heap.size + 1 + 1) (p := ⟨w.heap.size + 1 + 1, 0, none⟩) (.inr rfl) (.bool true)).wider fun k hk => .inl hk)
            refine ⟨JK.out.trans (TX.keeps fun k hk h => ?_), rfl, x, HFO, Lib.hid ((J1.out.set _).other (by omega) _), Lib.hid ((J2.out.other (by omega) _).set _), Lib.hid ((HB0.out.trans (HNW.out.mono HB0.out.size)).trans (TX.below (HB0.out.trans (HNW.out.mono HB0.out.size)).size fun k h => by omega))⟩
            rcases hk with hk | hk
            · omega
            · have := hO k hk; omega
      case done =>
        rintro D O xs W rfl hO hxs ⟨h1, h2⟩ hOD hK
        have HFO : Hid (FO g s none) := Lib.hid fun l' hl' hv' y hy => by
          have e1 := textOk_uniq hl' HTX.out
          rw [e1]
          exact h2.out y (by rw [hxs]; exact hy)
        have J1 : Hid (Boxed W (w.heap.size + 1) 9 (.string ⟨#[]⟩)) := Lib.hid ((h1.out.block _ P1.out.lt).trans P1.out)
        have J2 : Hid (Boxed W (w.heap.size + 1 + 1) 4 (.bool false)) := Lib.hid ((h1.out.block _ P2.out.lt).trans P2.out)
        have c1 := J1.out.cell
        have c2 := J2.out.cell
        have f1 := J1.out.frozen
        have f2 := J2.out.frozen
        have HW := Lib.hid (HB0.out.trans (h1.out.mono HB0.out.size))
        have HK := Lib.hid hK
        have hl1 := J1.out.lt
        have hl2 := J2.out.lt
        have hp1 := P1.out.lt
        have hp2 := P2.out.lt
        clear h1 h2 hxs hK
        gi_wp2_with fail
        have TX : Turns (fun k => k = w.heap.size + 1 ∨ k = w.heap.size + 1 + 1) W ((W.setCell ⟨w.heap.size + 1, 0, none⟩ (.string ⟨#[]⟩)).setCell ⟨w.heap.size + 1 + 1, 0, none⟩ (.bool false)) :=
          (Turns.setCell (O := fun k => k = w.heap.size + 1 ∨ k = w.heap.size + 1 + 1) (p := ⟨w.heap.size + 1, 0, none⟩) (.inl rfl) (.string ⟨#[]⟩)).trans ((Turns.setCell (O := fun k => k = w.heap.size + 1 ∨ k = w.heap.size + 1 + 1) (p := ⟨w.heap.size + 1 + 1, 0, none⟩) (.inr rfl) (.bool false)).wider fun k hk => .inl hk)
        obtain ⟨W6, hW6⟩ : ∃ W6, (W.setCell ⟨w.heap.size + 1, 0, none⟩ (.string ⟨#[]⟩)).setCell ⟨w.heap.size + 1 + 1, 0, none⟩ (.bool false) = W6 := ⟨_, rfl⟩
        have K1 : Boxed W6 (w.heap.size + 1) 9 (.string ⟨#[]⟩) := by rw [← hW6]; exact (J1.out.set _).other (by omega) _
        have K2 : Boxed W6 (w.heap.size + 1 + 1) 4 (.bool false) := by rw [← hW6]; exact (J2.out.other (by omega) _).set _
        rw [hW6] at TX ⊢
        have HK6 : W6.heap[W0.heap.size]? = some (.deferred (some [])) := (TX.block _ (Array.getElem?_eq_some_iff.1 HK.out).1 (by omega)).trans HK.out
        have L1 : Boxed (W6.putObj W0.heap.size (.deferred none)) (w.heap.size + 1) 9 (.string ⟨#[]⟩) := (World.putObj_heap_other (by omega)).trans K1
        have L2 : Boxed (W6.putObj W0.heap.size (.deferred none)) (w.heap.size + 1 + 1) 4 (.bool false) := (World.putObj_heap_other (by omega)).trans K2
        have d1 := L1.cell
        have d2 := L2.cell
        refine ⟨by simp, .inl ⟨_, _, rfl, run_takeDeferred HK6, ?_⟩⟩
        refine ⟨.tuple #[.string ⟨#[]⟩, .bool false], by simp [results, Tryz.results6, go_sem, d1, d2], ?_⟩
        exact ⟨none, HFO.out, rfl, below_put (HW.out.trans (TX.below HW.out.size fun k h => by omega)) (by omega) _⟩
      case stop =>
        rintro D c pre W rfl hpre ⟨rfl, x, h0, h1, h2, h3⟩ hK
        have c1 := h1.out.cell
        have c2 := h2.out.cell
        have hl1 := h1.out.lt
        have hl2 := h2.out.lt
        have hp1 := P1.out.lt
        have hp2 := P2.out.lt
        have HK := Lib.hid hK
        clear hK hpre
        gi_wp2_with fail
        have L1 : Boxed (W.putObj W0.heap.size (.deferred none)) (w.heap.size + 1) 9 (.string (tb x)) := (World.putObj_heap_other (by omega)).trans h1.out
        have L2 : Boxed (W.putObj W0.heap.size (.deferred none)) (w.heap.size + 1 + 1) 4 (.bool true) := (World.putObj_heap_other (by omega)).trans h2.out
        have d1 := L1.cell
        have d2 := L2.cell
        refine ⟨by simp, .inl ⟨_, _, rfl, run_takeDeferred HK.out, ?_⟩⟩
        refine ⟨.tuple #[.string (tb x), .bool true], by simp [results, Tryz.results6, go_sem, d1, d2], ?_⟩
        exact ⟨some x, h0.out, rfl, below_put h3.out (by omega) _⟩
  · have HF := Lib.hid (fo_no_text (g := g) hno)
    have M1 := Lib.hid (HK1.out.below hb HK1.out.lt)
    have M2 := Lib.hid (HK2.out.below hb HK2.out.lt)
    have HB2 := Lib.hid (HB1.out.trans (hb.mono HB1.out.size))
    have hsz2 := hb.size
    have N1 := Lib.hid (M1.out.alloc (.cells #[.slice none 0 0] 41))
    have N2 := Lib.hid (M2.out.alloc (.cells #[.slice none 0 0] 41))
    have c1 := N1.out.cell 0
    have c2 := N2.out.cell 0
    have f1 := N1.out.frozen 0
    have f2 := N2.out.frozen 0
    clear hno hb
    gi_wp2_with fail
    rename_i Ka ha Kb hbk Kc hc
    refine ⟨trivial, hc _ _ ?_⟩
    gi_wp2_with fail
    have d1 : (((w2.alloc (.cells #[.slice none 0 0] 41)).setCell ⟨w.heap.size + 1, 0, none⟩ (.string ⟨#[]⟩)).setCell ⟨w.heap.size + 1 + 1, 0, none⟩ (.bool false)).cell? ⟨w.heap.size + 1, 0, none⟩ = some (.string ⟨#[]⟩) := Boxed.cell (((show Boxed (w2.alloc (.cells #[.slice none 0 0] 41)) (w.heap.size + 1) 9 (.string ⟨#[]⟩) from N1.out).set (.string ⟨#[]⟩)).other (by omega) (.bool false))
    have d2 : (((w2.alloc (.cells #[.slice none 0 0] 41)).setCell ⟨w.heap.size + 1, 0, none⟩ (.string ⟨#[]⟩)).setCell ⟨w.heap.size + 1 + 1, 0, none⟩ (.bool false)).cell? ⟨w.heap.size + 1 + 1, 0, none⟩ = some (.bool false) := Boxed.cell (((show Boxed (w2.alloc (.cells #[.slice none 0 0] 41)) (w.heap.size + 1 + 1) 4 (.bool false) from N2.out).other (by omega) (.string ⟨#[]⟩)).set (.bool false))
    refine ⟨.tuple #[.string ⟨#[]⟩, .bool false], by simp [results, Tryz.results6, go_sem, d1, d2], ?_⟩
    exact ⟨none, HF.out, rfl, below_set (below_set (HB2.out.alloc HB2.out.size (.cells #[.slice none 0 0] 41)) (by omega) 0 _) (by omega) 0 _⟩
end Go.Proofs.YtgkamcnbpiipoaaGreat

/-
  The model's FirstOther, and SameRuns of both.
-/
namespace Go.Proofs.YtgkamcnbpiipoaaGreat
open Go.RowKit Go.Sort
attribute [local go_sem] Oper.semAt_some

theorem ran_short {s x : List UInt8} {l : List It} (hl : textOk s l) (hx : x ∈ shortL 6) {q : Option ROut} (h : RanT s x q) : ∃ o, q = some o ∧ Runs (.l l) (rs0 x) o := by
  cases q with
  | none =>
    rcases h with h | h
    · exact absurd hl (h l)
    · rw [(short_LR x hx).1] at h; cases h
  | some o =>
    obtain ⟨l', h1, _, h3⟩ := h
    have := textOk_uniq h1 hl
    subst this
    exact ⟨o, rfl, h3⟩

set_option maxRecDepth 100000 in
set_option maxHeartbeats 3200000 in
theorem specFirstOther_any (A : Option Addr) (cap : Nat) (g : List Bl) (s : List UInt8) (w : World) (hg : Gr w A g) (hn : g.length + tot g ≤ 1048576) (hcap : g.length ≤ cap) (hs : s.length ≤ 1048576) :
    Calls Tryz.prog 7 #[.slice A g.length cap, .string (tb s)] w fun e w' => ∃ r, FO g s r ∧ e = .returned (foV r) ∧ Below w.heap.size w w' := by
  have HG := Lib.hid hg
  have HGV := Lib.hid (specValid_any A cap g w hg hn hcap)
  have HTV := Lib.hid (fun W => by have := specValid_text (tb s) W (by rw [tb_size]; exact hs); rw [tb_data] at this; exact this)
  have HSR := Lib.hid (fun x W (hgw : Gr W A g) hc => specRun_any A cap g (tb x) W hgw hn hcap hc)
  have HST := Lib.hid (fun x W hx => specRunText_any s x W hs hx)
  clear hg hn hcap hs
  cases hv : validB g with
  | false =>
    rw [hv] at HGV
    have HF := Lib.hid (fo_no_graph (s := s) hv)
    clear hv
    go_enter Tryz.func7, Tryz.ntmps7
    go_wp2_with fail
    refine HGV.out.mono ?_
    rintro e w1 ⟨rfl, b1⟩
    have HB1 := Lib.hid b1
    clear b1
    go_wp2_with fail
    go_ret2
    exact ⟨none, HF.out, rfl, HB1.out⟩
  | true =>
    rw [hv] at HGV
    have HV := Lib.hid hv
    clear hv
    cases ht : textB s with
    | false =>
      rw [ht] at HTV
      have HF := Lib.hid (fo_no_text (g := g) (textB_not ht))
      clear ht
      go_enter Tryz.func7, Tryz.ntmps7
      go_wp2_with fail
      refine HGV.out.mono ?_
      rintro e w1 ⟨rfl, b1⟩
      have HB1 := Lib.hid b1
      clear b1
      go_wp2_with fail
      refine (HTV.out w1).mono ?_
      rintro e w2 ⟨rfl, b2⟩
      have HB2 := Lib.hid (below_trans_self HB1.out b2)
      clear b2
      go_wp2_with fail
      go_ret2
      exact ⟨none, HF.out, rfl, HB2.out⟩
    | true =>
      rw [ht] at HTV
      obtain ⟨l, hl⟩ := textB_get ht
      have HTX := Lib.hid hl
      clear ht hl
      go_enter Tryz.func7, Tryz.ntmps7
      go_wp2_with fail
      refine HGV.out.mono ?_
      rintro e w1 ⟨rfl, b1⟩
      have HB1 := Lib.hid b1
      clear b1
      go_wp2_with fail
      refine (HTV.out w1).mono ?_
      rintro e w2 ⟨rfl, b2⟩
      have HB2 := Lib.hid (below_trans_self HB1.out b2)
      clear b2
      go_wp2_with fail
      refine (l6Short_any 6 w2 (by decide)).mono ?_
      rintro e w3 ⟨v, rfl, hown, b3⟩
      have HB3 := Lib.hid (below_trans_self HB2.out b3)
      have hL := shortL_len (n := 6) (by decide)
      obtain ⟨n, hnn⟩ : ∃ n, n = ((shortL 6).map tb).length := ⟨_, rfl⟩
      have hn127 : n ≤ 127 := by rw [hnn, List.length_map]; exact hL
      have hnL : n = (shortL 6).length := by rw [hnn, List.length_map]
      have h1L : (shortL 6).length = n := hnL.symm
      rcases own_casesS hown with ⟨rfl, h0⟩ | ⟨B, c, cs, t, rfl, hB, hblk, _⟩
      · exfalso
        rw [List.length_map] at h0
        have : (shortL 6).length = 127 := by decide +kernel
        omega
      · have HOWN := Lib.hid hown
        have hbs := hblk.lt
        rw [← hnn]
        have HNN := Lib.hid hnn
        have HNL := Lib.hid hnL
        clear b3 hown hblk hL hnn hnL h1L
        go_wp2_with fail
        go_loopg [24] n (fun gk iv wr => ∃ k : Nat, gk = n - k ∧ k ≤ n ∧ iv = .int .i64 k ∧ Hid (OwnStr wr w2.heap.size (.slice (some ⟨B, 0, none⟩) ((shortL 6).map tb).length c) ((shortL 6).map tb)) ∧ Hid (Below w.heap.size w wr) ∧ Hid (∀ y ∈ (shortL 6).take k, Agr g l y))
        case atStart => exact ⟨0, by omega, Nat.zero_le _, rfl, HOWN.out, HB3.out, fun y hy => absurd hy (by simp)⟩
        case round =>
          obtain ⟨k, rfl, hk, rfl, HO, HB, HA⟩ := hrel
          by_cases hlt : k < n
          · have hkL : k < (shortL 6).length := by rw [← HNL.out]; exact hlt
            have hc0 := own_cellS HO.out (k := k) (by rw [List.length_map]; exact hkL)
            rw [List.getElem_map] at hc0
            obtain ⟨x, hx⟩ : ∃ x, x = (shortL 6)[k] := ⟨_, rfl⟩
            rw [← hx] at hc0
            have hxm : x ∈ shortL 6 := by rw [hx]; exact List.getElem_mem _
            have hz : (tb x).size ≤ 4611686018427387904 := by have := (short_LR x hxm).2; rw [tb_size]; omega
            have hz' : x.length ≤ 4611686018427387904 := by have := (short_LR x hxm).2; omega
            have HR := Lib.hid (HSR.out x wr (HG.out.below HB.out) hz)
            unfold RunPost at HR
            obtain ⟨T0, hT0⟩ : ∃ T0, T0 = runT g (tb x) := ⟨_, rfl⟩
            obtain ⟨E0, hE0⟩ : ∃ E0, E0 = runE g (tb x) := ⟨_, rfl⟩
            rw [← hT0, ← hE0] at HR
            have HT0 := Lib.hid hT0
            have HE0 := Lib.hid hE0
            have HT := Lib.hid (fun W => HST.out x W hz')
            have HTK := Lib.hid (show (shortL 6).take k ++ [x] = (shortL 6).take (k + 1) by rw [hx, List.take_succ_eq_append_getElem hkL])
            have HXM := Lib.hid hxm
            clear hT0 hE0 hx hxm hz hz' hkL
            go_wp2_with fail
            refine HR.out.mono ?_
            rintro e w4 ⟨rfl, b4⟩
            have HB4 := Lib.hid (below_trans_self HB.out b4)
            have HO4 := Lib.hid (own_belowS HO.out b4)
            clear b4
            go_wp2_with fail
            refine (HT.out w4).mono ?_
            rintro e w5 ⟨q, hq, rfl, b5⟩
            obtain ⟨o, rfl, hr⟩ := ran_short HTX.out HXM.out hq
            have HB5 := Lib.hid (below_trans_self HB4.out b5)
            have HO5 := Lib.hid (own_belowS HO4.out b5)
            have HRU := Lib.hid hr
            clear b5 hq hr
            unfold rtV
            by_cases hq : (tb o.trace).toList = T0.toList ∧ (o.code : Int) = E0
            · have g1 : (T0.toList == (tb o.trace).toList) = true := by simp [hq.1]
              have g1' : (T0.toList != (tb o.trace).toList) = false := by simp [hq.1]
              have g2 : (E0 == (o.code : Int)) = true := by simp [hq.2]
              have g2' : (E0 != (o.code : Int)) = false := by simp [hq.2]
              have HAG : Hid (Agr g l x) := Lib.hid ⟨o, HRU.out, by rw [← HT0.out]; exact beq_toList.1 (by simp [hq.1]), by rw [← HE0.out]; exact hq.2⟩
              clear hq
              go_wp2_with fail
              go_roundg (n - (k + 1))
              case measure => omega
              case rel =>
                refine ⟨k + 1, rfl, by omega, by go_num, HO5.out, HB5.out, Lib.hid fun y hy => ?_⟩
                rw [← HTK.out] at hy
                rcases List.mem_append.1 hy with hy | hy
                · exact HA.out y hy
                · rw [List.mem_singleton] at hy; rw [hy]; exact HAG.out
            · have HDI : Hid (Dis g l x) := Lib.hid ⟨o, HRU.out, fun h => hq ⟨by rw [HT0.out, ← h.1], by rw [HE0.out, ← h.2]⟩⟩
              have HFO : Hid (FO g s (some x)) := Lib.hid ⟨l, HTX.out, HV.out, (shortL 6).take k, by rw [HTK.out]; exact List.take_prefix _ _, HA.out, HDI.out⟩
              by_cases hq1 : (tb o.trace).toList = T0.toList
              · have g1 : (T0.toList == (tb o.trace).toList) = true := by simp [hq1]
                have g1' : (T0.toList != (tb o.trace).toList) = false := by simp [hq1]
                have g2 : (E0 == (o.code : Int)) = false := by simp; exact fun h => hq ⟨hq1, h.symm⟩
                have g2' : (E0 != (o.code : Int)) = true := by simp; exact fun h => hq ⟨hq1, h.symm⟩
                clear hq hq1
                go_wp2_with fail
                go_ret2
                exact ⟨some x, HFO.out, rfl, HB5.out⟩
              · have g1 : (T0.toList == (tb o.trace).toList) = false := by simp; exact fun h => hq1 h.symm
                have g1' : (T0.toList != (tb o.trace).toList) = true := by simp; exact fun h => hq1 h.symm
                clear hq hq1
                go_wp2_with fail
                go_ret2
                exact ⟨some x, HFO.out, rfl, HB5.out⟩
          · have hke : k = n := by omega
            have HFO : Hid (FO g s none) := Lib.hid fun l' hl' _ y hy => by
              rw [textOk_uniq hl' HTX.out]
              exact HA.out y (by rw [List.take_of_length_le (by rw [← HNL.out]; omega)]; exact hy)
            clear hke
            go_wp2_with fail
            go_ret2
            exact ⟨none, HFO.out, rfl, HB.out⟩
end Go.Proofs.YtgkamcnbpiipoaaGreat

/-
  SameRuns of both.
-/
namespace Go.Proofs.YtgkamcnbpiipoaaGreat
open Go.RowKit Go.Sort
attribute [local go_sem] Oper.semAt_some

/-- Do they do the same with all short choices? -/
noncomputable def sameB (g : List Bl) (s : List UInt8) (r : Option (List UInt8)) : Bool := validB g && textB s && r.isNone

set_option maxRecDepth 100000 in
theorem implSameRuns_any (A : Option Addr) (cap : Nat) (g : List Bl) (s : List UInt8) (w : World) (hg : Gr w A g) (hn : g.length + tot g ≤ 1048576) :
    Calls Tryz.prog 8 #[.slice A g.length cap, .string (tb s)] w fun e w' => ∃ r, FO g s r ∧ e = .returned (.bool (sameB g s r)) ∧ Below w.heap.size w w' := by
  have HG := Lib.hid hg
  have HF := Lib.hid (implFirstOther_any A cap g s w hg hn)
  have HGV := Lib.hid (fun W (hgw : Gr W A g) => implValid_any A cap g W hgw hn)
  have HTV := Lib.hid (fun W => by have := implValid_text (tb s) W; rw [tb_data] at this; exact this)
  clear hg hn
  go_enter Tryz.func8, Tryz.ntmps8
  go_wp2_with fail
  refine HF.out.mono ?_
  rintro e w1 ⟨r, hr, rfl, b1⟩
  have HB1 := Lib.hid b1
  have HR := Lib.hid hr
  have HG1 := Lib.hid (HG.out.below b1)
  obtain ⟨x, o, hfo⟩ : ∃ x o, foV r = .tuple #[.string x, .bool o] ∧ o = r.isSome := by cases r <;> exact ⟨_, _, rfl, rfl⟩
  have HOS := Lib.hid hfo.2
  rw [hfo.1]
  clear b1 hr hfo
  have HGV1 := Lib.hid (HGV.out w1 HG1.out)
  have key : ∀ a b, validB g = a → textB s = b → sameB g s r = (a && b && !o) := by
    intro a b ha hb
    unfold sameB
    rw [ha, hb, HOS.out]
    cases r <;> rfl
  have HKEY := Lib.hid key
  clear key
  cases hv : validB g with
  | false =>
    rw [hv] at HGV1
    have HE := Lib.hid (show sameB g s r = false by rw [HKEY.out _ _ hv rfl]; simp)
    clear hv
    go_wp2_with fail
    refine HGV1.out.mono ?_
    rintro e w2 ⟨rfl, b2⟩
    have HB2 := Lib.hid (below_trans_self HB1.out b2)
    clear b2
    go_wp2_with fail
    go_ret
    exact ⟨r, HR.out, by rw [HE.out]; rfl, HB2.out⟩
  | true =>
    rw [hv] at HGV1
    cases ht : textB s with
    | false =>
      rw [ht] at HTV
      have HE := Lib.hid (show sameB g s r = false by rw [HKEY.out _ _ hv ht]; simp)
      clear hv ht
      go_wp2_with fail
      refine HGV1.out.mono ?_
      rintro e w2 ⟨rfl, b2⟩
      have HB2 := Lib.hid (below_trans_self HB1.out b2)
      clear b2
      go_wp2_with fail
      refine (HTV.out w2).mono ?_
      rintro e w3 ⟨rfl, b3⟩
      have HB3 := Lib.hid (below_trans_self HB2.out b3)
      clear b3
      go_wp2_with fail
      go_ret
      exact ⟨r, HR.out, by rw [HE.out]; rfl, HB3.out⟩
    | true =>
      rw [ht] at HTV
      have HE := Lib.hid (show sameB g s r = !o by rw [HKEY.out _ _ hv ht]; simp)
      clear hv ht
      cases o
      all_goals
        go_wp2_with fail
        refine HGV1.out.mono ?_
        rintro e w2 ⟨rfl, b2⟩
        have HB2 := Lib.hid (below_trans_self HB1.out b2)
        clear b2
        go_wp2_with fail
        refine (HTV.out w2).mono ?_
        rintro e w3 ⟨rfl, b3⟩
        have HB3 := Lib.hid (below_trans_self HB2.out b3)
        clear b3
        go_wp2_with fail
        go_ret
        exact ⟨r, HR.out, by rw [HE.out]; rfl, HB3.out⟩

set_option maxRecDepth 100000 in
theorem specSameRuns_any (A : Option Addr) (cap : Nat) (g : List Bl) (s : List UInt8) (w : World) (hg : Gr w A g) (hn : g.length + tot g ≤ 1048576) (hcap : g.length ≤ cap) (hs : s.length ≤ 1048576) :
    Calls Tryz.prog 9 #[.slice A g.length cap, .string (tb s)] w fun e w' => ∃ r, FO g s r ∧ e = .returned (.bool (sameB g s r)) ∧ Below w.heap.size w w' := by
  have HG := Lib.hid hg
  have HF := Lib.hid (specFirstOther_any A cap g s w hg hn hcap hs)
  have HGV := Lib.hid (fun W (hgw : Gr W A g) => specValid_any A cap g W hgw hn hcap)
  have HTV := Lib.hid (fun W => by have := specValid_text (tb s) W (by rw [tb_size]; exact hs); rw [tb_data] at this; exact this)
  clear hg hn hcap hs
  go_enter Tryz.func9, Tryz.ntmps9
  go_wp2_with fail
  refine HF.out.mono ?_
  rintro e w1 ⟨r, hr, rfl, b1⟩
  have HB1 := Lib.hid b1
  have HR := Lib.hid hr
  have HG1 := Lib.hid (HG.out.below b1)
  obtain ⟨x, o, hfo⟩ : ∃ x o, foV r = .tuple #[.string x, .bool o] ∧ o = r.isSome := by cases r <;> exact ⟨_, _, rfl, rfl⟩
  have HOS := Lib.hid hfo.2
  rw [hfo.1]
  clear b1 hr hfo
  have HGV1 := Lib.hid (HGV.out w1 HG1.out)
  have key : ∀ a b, validB g = a → textB s = b → sameB g s r = (a && b && !o) := by
    intro a b ha hb
    unfold sameB
    rw [ha, hb, HOS.out]
    cases r <;> rfl
  have HKEY := Lib.hid key
  clear key
  cases hv : validB g with
  | false =>
    rw [hv] at HGV1
    have HE := Lib.hid (show sameB g s r = false by rw [HKEY.out _ _ hv rfl]; simp)
    clear hv
    go_wp2_with fail
    refine HGV1.out.mono ?_
    rintro e w2 ⟨rfl, b2⟩
    have HB2 := Lib.hid (below_trans_self HB1.out b2)
    clear b2
    go_wp2_with fail
    go_ret
    exact ⟨r, HR.out, by rw [HE.out]; rfl, HB2.out⟩
  | true =>
    rw [hv] at HGV1
    cases ht : textB s with
    | false =>
      rw [ht] at HTV
      have HE := Lib.hid (show sameB g s r = false by rw [HKEY.out _ _ hv ht]; simp)
      clear hv ht
      go_wp2_with fail
      refine HGV1.out.mono ?_
      rintro e w2 ⟨rfl, b2⟩
      have HB2 := Lib.hid (below_trans_self HB1.out b2)
      clear b2
      go_wp2_with fail
      refine (HTV.out w2).mono ?_
      rintro e w3 ⟨rfl, b3⟩
      have HB3 := Lib.hid (below_trans_self HB2.out b3)
      clear b3
      go_wp2_with fail
      go_ret
      exact ⟨r, HR.out, by rw [HE.out]; rfl, HB3.out⟩
    | true =>
      rw [ht] at HTV
      have HE := Lib.hid (show sameB g s r = !o by rw [HKEY.out _ _ hv ht]; simp)
      clear hv ht
      cases o
      all_goals
        go_wp2_with fail
        refine HGV1.out.mono ?_
        rintro e w2 ⟨rfl, b2⟩
        have HB2 := Lib.hid (below_trans_self HB1.out b2)
        clear b2
        go_wp2_with fail
        refine (HTV.out w2).mono ?_
        rintro e w3 ⟨rfl, b3⟩
        have HB3 := Lib.hid (below_trans_self HB2.out b3)
        clear b3
        go_wp2_with fail
        go_ret
        exact ⟨r, HR.out, by rw [HE.out]; rfl, HB3.out⟩
end Go.Proofs.YtgkamcnbpiipoaaGreat
