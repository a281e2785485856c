import Derived.Test.YtlkfakdghjaoaaaGreatDoorJ9
import Derived.Test.YtlkfakdghjaoaaaGreatDoorJ6
import Derived.Test.YtlkfakdghjaoaaaGreatDoorRunText
import Derived.Test.YtlkfakdghjaoaaaGreatDoorJ8
import Derived.Test.YtlkfakdghjaoaaaGreatDoorFramesIn
set_option maxRecDepth 100000
set_option maxHeartbeats 3200000
namespace Go.Proofs.YtlkfakdghjaoaaaGreatDoor
open Go.RowKit Go.Sort
attribute [local go_sem] Oper.semAt_some sv
theorem nG (A : Option Addr) (cap : Nat) (g : List Bl) (s : List UInt8) (w : World) (hg : Gr w A g) (hn : g.length + aM g ≤ 1048576) :
  Calls Tryz.prog 61 #[.slice A g.length cap, .string (tb s)] w fun e w' => ∃ r, FO g s r ∧ e = .returned (FN r) ∧ Below w.heap.size w w' := by
 obtain ⟨w1, hw1⟩ : ∃ w1, w1 = ((w.alloc (.cells #[.slice A g.length cap] 23)).alloc (.cells #[.string ⟨#[]⟩] 9)).alloc (.cells #[.bool false] 4) := ⟨_, rfl⟩
 have hs1 : w1.heap.size = w.heap.size + 3 := by rw [hw1]; simp
 have hb1 : Below w.heap.size w w1 := by rw [hw1]; exact (((Below.refl _ w).alloc (Nat.le_refl _) _).alloc (by simp) _).alloc (by simp; omega) _
 have k0 : Blk w1 w.heap.size 23 #[.slice A g.length cap] := by rw [hw1]; exact ((Blk.new w _ _).alloc _).alloc _
 have k1 : Blk w1 (w.heap.size + 1) 9 #[.string ⟨#[]⟩] := by
  have := (Blk.new (w.alloc (.cells #[.slice A g.length cap] 23)) 9 #[.string ⟨#[]⟩]).alloc (.cells #[.bool false] 4)
  rw [World.size_alloc] at this
  rw [hw1]; exact this
 have k2 : Blk w1 (w.heap.size + 2) 4 #[.bool false] := by
  have := Blk.new ((w.alloc (.cells #[.slice A g.length cap] 23)).alloc (.cells #[.string ⟨#[]⟩] 9)) 4 #[.bool false]
  rw [World.size_alloc, World.size_alloc] at this
  rw [hw1]; exact this
 have HW1 := F7 hw1
 have HB1 := F7 hb1
 have HK0 := F7 k0
 have HK1 := F7 k1
 have HK2 := F7 k2
 have HIT := F7 (ig s w1)
 have HG := F7 hg
 have HN := F7 hn
 clear hw1 hb1 k0 k1 k2 hg hn
 refine (callsIn_wide (n := 6)).1 ?_
 refine callsIn_of_wp_marks Tryz.func61 rfl trivial ?_ rfl
 simp only [Tryz.ntmps61, List.size_toArray, List.length_cons, List.length_nil, Nat.reduceAdd, Nat.reduceSub, Array.replicate_succ, Array.replicate_zero, List.push_toArray, List.append_toArray, List.nil_append, List.cons_append]
 refine wpIn_mono (Q := m7 _) ?_ gQ
 gi_wp2_with fail
 rw [← HW1.out]
 refine ⟨trivial, (callsIn_wide.2 HIT.out).mono ?_⟩
 rintro e w2 (⟨l, v, htx, rfl, h1c, hrow, hb⟩ | ⟨hno, rfl, hb⟩)
 ·obtain ⟨A1, cp, m, rfl, hrow⟩ := dJ hrow
  have k0 := HK0.out.below hb HK0.out.lt
  have k1 := HK1.out.below hb HK1.out.lt
  have k2 := HK2.out.below hb HK2.out.lt
  have c0 := k0.cell 0
  have HB2 := F7 (HB1.out.trans (hb.mono HB1.out.size))
  have HTX := F7 htx
  have HROW := F7 hrow
  have hsz2 := hb.size
  have hgw := HG.out.below HB2.out
  have HGW := F7 hgw
  have L0 := F7 k0
  have L1 := F7 k1
  have L2 := F7 k2
  have c03 : (w2.alloc (.cells #[.slice A1 m cp] 69)).cell? ⟨w.heap.size, 0, none⟩ = some (.slice A g.length cap) := (k0.alloc _).cell 0
  have hb3 : Below w2.heap.size w2 (w2.alloc (.cells #[.slice A1 m cp] 69)) := (Below.refl _ w2).alloc (Nat.le_refl _) _
  have HGV := F7 (ge A cap g (w2.alloc (.cells #[.slice A1 m cp] 69)) (hgw.below hb3) HN.out)
  have HB3 := F7 hb3
  have HI3 := F7 (Blk.new w2 69 #[.slice A1 m cp])
  clear htx hrow hb h1c k0 k1 k2 hgw hb3 c0
  gi_wp2_with fail
  refine ⟨trivial, (callsIn_wide.2 HGV.out).mono ?_⟩
  rintro e w4 ⟨rfl, b4⟩
  have hs3 : (w2.alloc (.cells #[.slice A1 m cp] 69)).heap.size = w2.heap.size + 1 := by simp
  have HB4 := F7 (HB2.out.trans ((HB3.out.trans (b4.mono (by omega))).mono HB2.out.size))
  have hs4 := b4.size
  have M0 := F7 ((L0.out.alloc (.cells #[.slice A1 m cp] 69)).below b4 (L0.out.alloc _).lt)
  have M1 := F7 ((L1.out.alloc (.cells #[.slice A1 m cp] 69)).below b4 (L1.out.alloc _).lt)
  have M2 := F7 ((L2.out.alloc (.cells #[.slice A1 m cp] 69)).below b4 (L2.out.alloc _).lt)
  have MI := F7 (HI3.out.below b4 HI3.out.lt)
  have HR4 : Hid (RowAt w4 (fun b => b < w2.heap.size) l (.slice A1 m cp)) := F7 (HROW.out.stay ⟨by omega, fun b hb _ => ⟨hb, (b4.block b (by omega)).trans (Below.heap_alloc _ _ _ hb)⟩⟩)
  clear b4 c03
  cases hv : aa g with
  | false =>
   have HF := F7 (vX (s := s) hv)
   have c1 := M1.out.cell 0
   have c2 := M2.out.cell 0
   have f1 := M1.out.frozen 0
   have f2 := M2.out.frozen 0
   gi_wp2_with fail
   have d1 : ((w4.setCell ⟨w.heap.size + 1, 0, none⟩ (.string ⟨#[]⟩)).setCell ⟨w.heap.size + 1 + 1, 0, none⟩ (.bool false)).cell? ⟨w.heap.size + 1, 0, none⟩ = some (.string ⟨#[]⟩) := Boxed.cell (((show Boxed w4 (w.heap.size + 1) 9 (.string ⟨#[]⟩) from M1.out).set (.string ⟨#[]⟩)).other (by omega) (.bool false))
   have d2 : ((w4.setCell ⟨w.heap.size + 1, 0, none⟩ (.string ⟨#[]⟩)).setCell ⟨w.heap.size + 1 + 1, 0, none⟩ (.bool false)).cell? ⟨w.heap.size + 1 + 1, 0, none⟩ = some (.bool false) := Boxed.cell (((show Boxed w4 (w.heap.size + 1 + 1) 4 (.bool false) from M2.out).other (by omega) (.string ⟨#[]⟩)).set (.bool false))
   refine ⟨.tuple #[.string ⟨#[]⟩, .bool false], by simp [results, Tryz.results61, go_sem, d1, d2], ?_⟩
   exact ⟨none, HF.out, rfl, bR (bR HB4.out (by omega) 0 _) (by omega) 0 _⟩
  | true =>
   have HV := F7 hv
   clear hv
   gi_wp2_with fail
   refine ⟨trivial, (callsIn_wide.2 (pB 6 w4)).mono ?_⟩
   rintro e w5 ⟨rfl, rfl⟩
   gi_wp2_with fail
   obtain ⟨W0, hW0⟩ : ∃ W0, W0 = w4.alloc (.cells #[.int .i64 6] 3) := ⟨_, rfl⟩
   have hs0 : W0.heap.size = w4.heap.size + 1 := by rw [hW0]; simp
   have hNB : W0.cell? ⟨w4.heap.size, 0, none⟩ = some (.int .i64 6) := by rw [hW0]; exact (Blk.new w4 3 #[.int .i64 6]).cell 0
   have P0 : Hid (Boxed W0 w.heap.size 23 (.slice A g.length cap)) := F7 (by rw [hW0]; exact M0.out.alloc _)
   have P1 : Hid (Boxed W0 (w.heap.size + 1) 9 (.string ⟨#[]⟩)) := F7 (by rw [hW0]; exact M1.out.alloc _)
   have P2 : Hid (Boxed W0 (w.heap.size + 1 + 1) 4 (.bool false)) := F7 (by rw [hW0]; exact M2.out.alloc _)
   have PI : Hid (Boxed W0 w2.heap.size 69 (.slice A1 m cp)) := F7 (by rw [hW0]; exact MI.out.alloc _)
   have HB0 : Hid (Below w.heap.size w W0) := F7 (by rw [hW0]; exact HB4.out.alloc HB4.out.size _)
   have HR0 : Hid (RowAt W0 (fun b => b < w2.heap.size) l (.slice A1 m cp)) := F7 (by rw [hW0]; exact HR4.out.stay ⟨by simp, fun b hb hp => ⟨hp, Below.heap_alloc _ _ _ hb⟩⟩)
   rw [← hW0]
   clear hW0 M0 M1 M2 MI HR4
   refine d7 rfl (by decide) (gf := 152) (lb := #[.pointer (some ⟨w4.heap.size, 0, none⟩)]) rfl trivial (enters_of Tryz.func152 (by kernel_rfl) rfl)
    (ou 5 6 w4.heap.size W0 (by decide) (by decide) hNB (by omega)) (Below.refl _ _) (fun _ => rfl) (fun k hk => by omega)
    (fun _ pre W => Hid (Below W0.heap.size W0 W) ∧ Hid (∀ y ∈ pre, Agr g l y))
    (fun c _ W => c = .ret ∧ ∃ x, Hid (FO g s (some x)) ∧ Hid (Boxed W (w.heap.size + 1) 9 (.string (tb x))) ∧ Hid (Boxed W (w.heap.size + 1 + 1) 4 (.bool true)) ∧ Hid (Below w.heap.size w W))
    ?hI ?hIx (fun _ _ _ _ => trivial) ?h0
    (fun x => { tmps := #[.slice A g.length cap, .string (tb s), .pointer (some ⟨w.heap.size, 0, none⟩), undef, .pointer (some ⟨w.heap.size + 1, 0, none⟩), .pointer (some ⟨w.heap.size + 1 + 1, 0, none⟩), .pointer (some ⟨w2.heap.size, 0, none⟩), .bool true,
     .string (tb x), undef, undef, undef, undef, undef, .tuple #[.slice A1 m cp, .bool true], .string (tb s), .tuple #[.slice A1 m cp, .bool true], .slice A1 m cp, .bool true, .bool true, .bool false, .bool false, .slice A g.length cap, .bool true, .bool false, .bool false,
     .func (.func 152) #[] #[.pointer (some ⟨w4.heap.size, 0, none⟩)], .string (tb x), undef, undef, undef, undef, undef, undef, undef, undef, undef, undef, undef, undef, undef, undef, undef, undef, undef, undef, undef], defers := [] }) ?assign ?body ?done ?stop
   case hI =>
    rintro O pre X Y hle hO ⟨h1, h2⟩ hT
    exact ⟨h1.out.trans (hT.below h1.out.size fun k h => by have := hO k h; omega), h2⟩
   case hIx =>
    rintro c pre X Y hle ⟨rfl, x, h1, h2, h3, h4⟩ hT
    have hl2 := h2.out.lt
    have hl3 := h3.out.lt
    exact ⟨rfl, x, h1, (hT.block _ h2.out.lt (by omega)).trans h2.out, (hT.block _ h3.out.lt (by omega)).trans h3.out, h4.out.trans (hT.below h4.out.size fun k h => by omega)⟩
   case h0 => exact ⟨Below.refl _ _, fun y hy => absurd hy (List.not_mem_nil)⟩
   case assign =>
    intro l1 x W K hK
    gi_wp2
    exact hK
   case body =>
    rintro l1 O pre x W hle hO ⟨h1, h2⟩ hx
    have hb := h1.out
    have c0 : W.cell? ⟨w.heap.size, 0, none⟩ = some (.slice A g.length cap) := Boxed.cell ((hb.block _ P0.out.lt).trans P0.out)
    have cI : W.cell? ⟨w2.heap.size, 0, none⟩ = some (.slice A1 m cp) := Boxed.cell ((hb.block _ PI.out.lt).trans PI.out)
    have hxm : x ∈ dH 6 := hx.subset (List.mem_append_right _ (List.mem_singleton.2 rfl))
    have hz : (tb x).size ≤ 4611686018427387904 := by have := (tY x hxm).2; rw [ay]; omega
    have HRG := F7 (wW A cap g (tb x) W (HG.out.below (HB0.out.trans (hb.mono HB0.out.size))) HN.out hz)
    have hlen : (aF l).length ≤ 1048576 := by have h := HTX.out; have h1 := h.1; rw [h.2.2] at h1; omega
    have HLEN := F7 hlen
    have HX := F7 hx
    unfold oe at HRG
    obtain ⟨T0, hT0⟩ : ∃ T0, T0 = mf g (tb x) := ⟨_, rfl⟩
    obtain ⟨E0, hE0⟩ : ∃ E0, E0 = mg g (tb x) := ⟨_, rfl⟩
    rw [← hT0, ← hE0] at HRG
    have HT0 := F7 hT0
    have HE0 := F7 hE0
    clear hT0 hE0
    have HA := F7 h2.out
    have HBW := F7 hb
    clear hx hxm hz h1 h2 hb hlen
    gi_wp2_with fail
    refine ⟨trivial, ((callsIn_wide.2 HRG.out).inRound l1).mono ?_⟩
    rintro e w6 ⟨rfl, b6⟩
    have hb6 := HBW.out.trans (b6.mono HBW.out.size)
    have cI6 : w6.cell? ⟨w2.heap.size, 0, none⟩ = some (.slice A1 m cp) := Boxed.cell ((hb6.block _ PI.out.lt).trans PI.out)
    have HRN := F7 (u0 l (.slice A1 m cp) x w6 HLEN.out (HR0.out.stay ⟨hb6.size, fun b hb hp => ⟨hp, hb6.block b hb⟩⟩) HTX.out.2.1)
    have HB6 := F7 hb6
    have HQ6 := F7 b6
    clear b6 hb6 c0 cI
    gi_wp2_with fail
    refine ⟨trivial, ((callsIn_wide.2 HRN.out).inRound l1).mono ?_⟩
    rintro e w7 ⟨o, ho, rfl, b7⟩
    have HO := F7 ho
    have HB7 := F7 (HB6.out.trans (b7.mono HB6.out.size))
    have HQ7 := F7 (ac HQ6.out b7)
    clear b7 ho cI6
    have HNW := F7 ((HB7.out.alloc HB7.out.size (.cells #[.string (tb o.trace), .int .i64 (o.code : Nat)] 124)))
    have HQW := F7 ((HQ7.out.alloc HQ7.out.size (.cells #[.string (tb o.trace), .int .i64 (o.code : Nat)] 124)))
    have J1 : Hid (Boxed (w7.alloc (.cells #[.string (tb o.trace), .int .i64 (o.code : Nat)] 124)) (w.heap.size + 1) 9 (.string ⟨#[]⟩)) := F7 ((HNW.out.block _ P1.out.lt).trans P1.out)
    have J2 : Hid (Boxed (w7.alloc (.cells #[.string (tb o.trace), .int .i64 (o.code : Nat)] 124)) (w.heap.size + 1 + 1) 4 (.bool false)) := F7 ((HNW.out.block _ P2.out.lt).trans P2.out)
    have c1 := J1.out.cell
    have c2 := J2.out.cell
    have f1 := J1.out.frozen
    have f2 := J2.out.frozen
    have JK := F7 (Turns.keeps (O := fun _ => False) (O' := fun k => k = w4.heap.size ∨ O k) (Turns.of_below HQW.out) fun _ _ h => h)
    unfold oV
    by_cases hq : (tb o.trace).toList = T0.toList ∧ (o.code : Int) = E0
    ·have g1 : ((tb o.trace).toList == T0.toList) = true := by simp [hq.1]
     have g2 : ((o.code : Int) == E0) = true := by simp [hq.2]
     have HAG : Hid (Agr g l x) := F7 ⟨o, HO.out, by rw [← HT0.out]; exact cO.1 g1, by rw [← HE0.out]; exact hq.2⟩
     clear hq
     gi_wp2_with fail
     refine ⟨JK.out, HNW.out, F7 fun y hy => ?_⟩
     rcases List.mem_append.1 hy with hy | hy
     ·exact HA.out y hy
     ·rw [List.mem_singleton] at hy; rw [hy]; exact HAG.out
    ·have HDI : Hid (C7 g l x) := F7 ⟨o, HO.out, fun h => hq ⟨by rw [HT0.out, ← h.1], by rw [HE0.out, ← h.2]⟩⟩
     have HFO : Hid (FO g s (some x)) := F7 ⟨l, HTX.out, HV.out, pre, HX.out, HA.out, HDI.out⟩
     by_cases hq1 : (tb o.trace).toList = T0.toList
     ·have g1 : ((tb o.trace).toList == T0.toList) = true := by simp [hq1]
      have g2 : ((o.code : Int) == E0) = false := by simp; exact fun h => hq ⟨hq1, h⟩
      clear hq hq1
      gi_wp2_with fail
      have TX : Turns (fun k => k = w.heap.size + 1 ∨ k = w.heap.size + 1 + 1) (w7.alloc (.cells #[.string (tb o.trace), .int .i64 (o.code : Nat)] 124)) (((w7.alloc (.cells #[.string (tb o.trace), .int .i64 (o.code : Nat)] 124)).setCell ⟨w.heap.size + 1, 0, none⟩ (.string (tb x))).setCell ⟨w.heap.size + 1 + 1, 0, none⟩ (.bool true)) :=
       (Turns.setCell (O := fun k => k = w.heap.size + 1 ∨ k = w.heap.size + 1 + 1) (p := ⟨w.heap.size + 1, 0, none⟩) (.inl rfl) (.string (tb x))).trans ((Turns.setCell (O := fun k => k = w.heap.size + 1 ∨ k = w.heap.size + 1 + 1) (p := ⟨w.heap.size + 1 + 1, 0, none⟩) (.inr rfl) (.bool true)).wider fun k hk => .inl hk)
      refine ⟨JK.out.trans (TX.keeps fun k hk h => ?_), rfl, x, HFO, F7 ((J1.out.set _).other (by omega) _), F7 ((J2.out.other (by omega) _).set _), F7 ((HB0.out.trans (HNW.out.mono HB0.out.size)).trans (TX.below (HB0.out.trans (HNW.out.mono HB0.out.size)).size fun k h => by omega))⟩
      rcases hk with hk | hk
      ·omega
      ·have := hO k hk; omega
     ·have g1 : ((tb o.trace).toList == T0.toList) = false := by simp [hq1]
      clear hq hq1
      gi_wp2_with fail
      have TX : Turns (fun k => k = w.heap.size + 1 ∨ k = w.heap.size + 1 + 1) (w7.alloc (.cells #[.string (tb o.trace), .int .i64 (o.code : Nat)] 124)) (((w7.alloc (.cells #[.string (tb o.trace), .int .i64 (o.code : Nat)] 124)).setCell ⟨w.heap.size + 1, 0, none⟩ (.string (tb x))).setCell ⟨w.heap.size + 1 + 1, 0, none⟩ (.bool true)) :=
       (Turns.setCell (O := fun k => k = w.heap.size + 1 ∨ k = w.heap.size + 1 + 1) (p := ⟨w.heap.size + 1, 0, none⟩) (.inl rfl) (.string (tb x))).trans ((Turns.setCell (O := fun k => k = w.heap.size + 1 ∨ k = w.heap.size + 1 + 1) (p := ⟨w.heap.size + 1 + 1, 0, none⟩) (.inr rfl) (.bool true)).wider fun k hk => .inl hk)
      refine ⟨JK.out.trans (TX.keeps fun k hk h => ?_), rfl, x, HFO, F7 ((J1.out.set _).other (by omega) _), F7 ((J2.out.other (by omega) _).set _), F7 ((HB0.out.trans (HNW.out.mono HB0.out.size)).trans (TX.below (HB0.out.trans (HNW.out.mono HB0.out.size)).size fun k h => by omega))⟩
      rcases hk with hk | hk
      ·omega
      ·have := hO k hk; omega
   case done =>
    rintro D O xs W rfl hO hxs ⟨h1, h2⟩ hOD hK
    have HFO : Hid (FO g s none) := F7 fun l' hl' hv' y hy => by
     have e1 := fi hl' HTX.out
     rw [e1]
     exact h2.out y (by rw [hxs]; exact hy)
    have J1 : Hid (Boxed W (w.heap.size + 1) 9 (.string ⟨#[]⟩)) := F7 ((h1.out.block _ P1.out.lt).trans P1.out)
    have J2 : Hid (Boxed W (w.heap.size + 1 + 1) 4 (.bool false)) := F7 ((h1.out.block _ P2.out.lt).trans P2.out)
    have c1 := J1.out.cell
    have c2 := J2.out.cell
    have f1 := J1.out.frozen
    have f2 := J2.out.frozen
    have HW := F7 (HB0.out.trans (h1.out.mono HB0.out.size))
    have HK := F7 hK
    have hl1 := J1.out.lt
    have hl2 := J2.out.lt
    have hp1 := P1.out.lt
    have hp2 := P2.out.lt
    clear h1 h2 hxs hK
    gi_wp2_with fail
    have TX : Turns (fun k => k = w.heap.size + 1 ∨ k = w.heap.size + 1 + 1) W ((W.setCell ⟨w.heap.size + 1, 0, none⟩ (.string ⟨#[]⟩)).setCell ⟨w.heap.size + 1 + 1, 0, none⟩ (.bool false)) :=
     (Turns.setCell (O := fun k => k = w.heap.size + 1 ∨ k = w.heap.size + 1 + 1) (p := ⟨w.heap.size + 1, 0, none⟩) (.inl rfl) (.string ⟨#[]⟩)).trans ((Turns.setCell (O := fun k => k = w.heap.size + 1 ∨ k = w.heap.size + 1 + 1) (p := ⟨w.heap.size + 1 + 1, 0, none⟩) (.inr rfl) (.bool false)).wider fun k hk => .inl hk)
    obtain ⟨W6, hW6⟩ : ∃ W6, (W.setCell ⟨w.heap.size + 1, 0, none⟩ (.string ⟨#[]⟩)).setCell ⟨w.heap.size + 1 + 1, 0, none⟩ (.bool false) = W6 := ⟨_, rfl⟩
    have K1 : Boxed W6 (w.heap.size + 1) 9 (.string ⟨#[]⟩) := by rw [← hW6]; exact (J1.out.set _).other (by omega) _
    have K2 : Boxed W6 (w.heap.size + 1 + 1) 4 (.bool false) := by rw [← hW6]; exact (J2.out.other (by omega) _).set _
    rw [hW6] at TX ⊢
    have HK6 : W6.heap[W0.heap.size]? = some (.deferred (some [])) := (TX.block _ (Array.getElem?_eq_some_iff.1 HK.out).1 (by omega)).trans HK.out
    have L1 : Boxed (W6.putObj W0.heap.size (.deferred none)) (w.heap.size + 1) 9 (.string ⟨#[]⟩) := (World.putObj_heap_other (by omega)).trans K1
    have L2 : Boxed (W6.putObj W0.heap.size (.deferred none)) (w.heap.size + 1 + 1) 4 (.bool false) := (World.putObj_heap_other (by omega)).trans K2
    have d1 := L1.cell
    have d2 := L2.cell
    refine ⟨by simp, .inl ⟨_, _, rfl, run_takeDeferred HK6, ?_⟩⟩
    refine ⟨.tuple #[.string ⟨#[]⟩, .bool false], by simp [results, Tryz.results61, go_sem, d1, d2], ?_⟩
    exact ⟨none, HFO.out, rfl, iH (HW.out.trans (TX.below HW.out.size fun k h => by omega)) (by omega) _⟩
   case stop =>
    rintro D c pre W rfl hpre ⟨rfl, x, h0, h1, h2, h3⟩ hK
    have c1 := h1.out.cell
    have c2 := h2.out.cell
    have hl1 := h1.out.lt
    have hl2 := h2.out.lt
    have hp1 := P1.out.lt
    have hp2 := P2.out.lt
    have HK := F7 hK
    clear hK hpre
    gi_wp2_with fail
    have L1 : Boxed (W.putObj W0.heap.size (.deferred none)) (w.heap.size + 1) 9 (.string (tb x)) := (World.putObj_heap_other (by omega)).trans h1.out
    have L2 : Boxed (W.putObj W0.heap.size (.deferred none)) (w.heap.size + 1 + 1) 4 (.bool true) := (World.putObj_heap_other (by omega)).trans h2.out
    have d1 := L1.cell
    have d2 := L2.cell
    refine ⟨by simp, .inl ⟨_, _, rfl, run_takeDeferred HK.out, ?_⟩⟩
    refine ⟨.tuple #[.string (tb x), .bool true], by simp [results, Tryz.results61, go_sem, d1, d2], ?_⟩
    exact ⟨some x, h0.out, rfl, iH h3.out (by omega) _⟩
 ·have HF := F7 (yh (g := g) hno)
  have M1 := F7 (HK1.out.below hb HK1.out.lt)
  have M2 := F7 (HK2.out.below hb HK2.out.lt)
  have HB2 := F7 (HB1.out.trans (hb.mono HB1.out.size))
  have hsz2 := hb.size
  have N1 := F7 (M1.out.alloc (.cells #[.slice none 0 0] 69))
  have N2 := F7 (M2.out.alloc (.cells #[.slice none 0 0] 69))
  have c1 := N1.out.cell 0
  have c2 := N2.out.cell 0
  have f1 := N1.out.frozen 0
  have f2 := N2.out.frozen 0
  clear hno hb
  gi_wp2_with fail
  rename_i Ka ha Kb hbk Kc hc
  refine ⟨trivial, hc _ _ ?_⟩
  gi_wp2_with fail
  have d1 : (((w2.alloc (.cells #[.slice none 0 0] 69)).setCell ⟨w.heap.size + 1, 0, none⟩ (.string ⟨#[]⟩)).setCell ⟨w.heap.size + 1 + 1, 0, none⟩ (.bool false)).cell? ⟨w.heap.size + 1, 0, none⟩ = some (.string ⟨#[]⟩) := Boxed.cell (((show Boxed (w2.alloc (.cells #[.slice none 0 0] 69)) (w.heap.size + 1) 9 (.string ⟨#[]⟩) from N1.out).set (.string ⟨#[]⟩)).other (by omega) (.bool false))
  have d2 : (((w2.alloc (.cells #[.slice none 0 0] 69)).setCell ⟨w.heap.size + 1, 0, none⟩ (.string ⟨#[]⟩)).setCell ⟨w.heap.size + 1 + 1, 0, none⟩ (.bool false)).cell? ⟨w.heap.size + 1 + 1, 0, none⟩ = some (.bool false) := Boxed.cell (((show Boxed (w2.alloc (.cells #[.slice none 0 0] 69)) (w.heap.size + 1 + 1) 4 (.bool false) from N2.out).other (by omega) (.string ⟨#[]⟩)).set (.bool false))
  refine ⟨.tuple #[.string ⟨#[]⟩, .bool false], by simp [results, Tryz.results61, go_sem, d1, d2], ?_⟩
  exact ⟨none, HF.out, rfl, bR (bR (HB2.out.alloc HB2.out.size (.cells #[.slice none 0 0] 69)) (by omega) 0 _) (by omega) 0 _⟩
end Go.Proofs.YtlkfakdghjaoaaaGreatDoor
namespace Go.Proofs.YtlkfakdghjaoaaaGreatDoor
open Go.RowKit Go.Sort
attribute [local go_sem] Oper.semAt_some
end Go.Proofs.YtlkfakdghjaoaaaGreatDoor
namespace Go.Proofs.YtlkfakdghjaoaaaGreatDoor
open Go.RowKit Go.Sort
attribute [local go_sem] Oper.semAt_some
noncomputable def l8 (g : List Bl) (s : List UInt8) (r : Option (List UInt8)) : Bool := aa g && dw s && r.isNone
theorem pA (A : Option Addr) (cap : Nat) (g : List Bl) (s : List UInt8) (w : World) (hg : Gr w A g) (hn : g.length + aM g ≤ 1048576) :
  Calls Tryz.prog 20 #[.slice A g.length cap, .string (tb s)] w fun e w' => ∃ r, FO g s r ∧ e = .returned (.bool (l8 g s r)) ∧ Below w.heap.size w w' := by
 have HG := F7 hg
 have HF := F7 (nG A cap g s w hg hn)
 have HGV := F7 (fun W (hgw : Gr W A g) => ge A cap g W hgw hn)
 have HTV := F7 (fun W => by have := lg (tb s) W; rw [aA] at this; exact this)
 clear hg hn
 go_enter Tryz.func20, Tryz.ntmps20
 go_wp2_with fail
 refine HF.out.mono ?_
 rintro e w1 ⟨r, hr, rfl, b1⟩
 have HB1 := F7 b1
 have HR := F7 hr
 have HG1 := F7 (HG.out.below b1)
 obtain ⟨x, o, hfo⟩ : ∃ x o, FN r = .tuple #[.string x, .bool o] ∧ o = r.isSome := by cases r <;> exact ⟨_, _, rfl, rfl⟩
 have HOS := F7 hfo.2
 rw [hfo.1]
 clear b1 hr hfo
 have HGV1 := F7 (HGV.out w1 HG1.out)
 have key : ∀ a b, aa g = a → dw s = b → l8 g s r = (a && b && !o) := by
  intro a b ha hb
  unfold l8
  rw [ha, hb, HOS.out]
  cases r <;> rfl
 have HKEY := F7 key
 clear key
 cases hv : aa g with
 | false =>
  rw [hv] at HGV1
  have HE := F7 (show l8 g s r = false by rw [HKEY.out _ _ hv rfl]; simp)
  clear hv
  go_wp2_with fail
  refine HGV1.out.mono ?_
  rintro e w2 ⟨rfl, b2⟩
  have HB2 := F7 (ac HB1.out b2)
  clear b2
  go_wp2_with fail
  go_ret
  exact ⟨r, HR.out, by rw [HE.out]; rfl, HB2.out⟩
 | true =>
  rw [hv] at HGV1
  cases ht : dw s with
  | false =>
   rw [ht] at HTV
   have HE := F7 (show l8 g s r = false by rw [HKEY.out _ _ hv ht]; simp)
   clear hv ht
   go_wp2_with fail
   refine HGV1.out.mono ?_
   rintro e w2 ⟨rfl, b2⟩
   have HB2 := F7 (ac HB1.out b2)
   clear b2
   go_wp2_with fail
   refine (HTV.out w2).mono ?_
   rintro e w3 ⟨rfl, b3⟩
   have HB3 := F7 (ac HB2.out b3)
   clear b3
   go_wp2_with fail
   go_ret
   exact ⟨r, HR.out, by rw [HE.out]; rfl, HB3.out⟩
  | true =>
   rw [ht] at HTV
   have HE := F7 (show l8 g s r = !o by rw [HKEY.out _ _ hv ht]; simp)
   clear hv ht
   cases o
   all_goals
    go_wp2_with fail
    refine HGV1.out.mono ?_
    rintro e w2 ⟨rfl, b2⟩
    have HB2 := F7 (ac HB1.out b2)
    clear b2
    go_wp2_with fail
    refine (HTV.out w2).mono ?_
    rintro e w3 ⟨rfl, b3⟩
    have HB3 := F7 (ac HB2.out b3)
    clear b3
    go_wp2_with fail
    go_ret
    exact ⟨r, HR.out, by rw [HE.out]; rfl, HB3.out⟩
end Go.Proofs.YtlkfakdghjaoaaaGreatDoor

namespace Go.Proofs.YtlkfakdghjaoaaaGreatDoor
open Go.RowKit Go.Sort
attribute [local go_sem] Oper.semAt_some
end Go.Proofs.YtlkfakdghjaoaaaGreatDoor
namespace Go.Proofs.YtlkfakdghjaoaaaGreatDoor
open Go.RowKit Go.Sort
attribute [local go_sem] Oper.semAt_some
theorem oP (w : World) (n : Nat) : Below w.heap.size w (w.drewN n) := ⟨rfl, rfl, rfl, Nat.le_refl _, fun _ _ => rfl⟩
open Classical in
noncomputable def er (s kd : List UInt8) : Int := if h : ∃ l c, aP s l ∧ kd = [c] ∧ c ∈ [88, 63, 40, 123, 94, 46, 61, 35] then (cn h.choose_spec.choose h.choose : Int) else -1
theorem md {s kd : List UInt8} {l : List It} {c : UInt8} (h : aP s l) (hk : kd = [c]) (hc : c ∈ ([88, 63, 40, 123, 94, 46, 61, 35] : List UInt8)) : er s kd = (cn c l : Int) := by
 have k : ∃ l c, aP s l ∧ kd = [c] ∧ c ∈ ([88, 63, 40, 123, 94, 46, 61, 35] : List UInt8) := ⟨l, c, h, hk, hc⟩
 unfold er
 rw [dif_pos k]
 have h1 := k.choose_spec.choose_spec
 have e1 := fi h1.1 h
 have e2 : k.choose_spec.choose = c := (List.cons.inj (h1.2.1.symm.trans hk)).1
 rw [e2, e1]
theorem nJ {s kd : List UInt8} (h : ∀ l c, aP s l → kd = [c] → c ∈ ([88, 63, 40, 123, 94, 46, 61, 35] : List UInt8) → False) : er s kd = -1 :=
 dif_neg fun ⟨l, c, h1, h2, h3⟩ => h l c h1 h2 h3
theorem y9 (c : UInt8) : (c ∈ ([88, 63, 40, 123, 94, 46, 61, 35] : List UInt8) ∧ (Lib.indexByte [88, 63, 40, 123, 94, 46, 61, 35] c < 0) = False) ∨ (c ∉ ([88, 63, 40, 123, 94, 46, 61, 35] : List UInt8) ∧ (Lib.indexByte [88, 63, 40, 123, 94, 46, 61, 35] c < 0) = True) := by
 have h : ∀ n : Fin 256, (UInt8.ofNat n.1 ∈ ([88, 63, 40, 123, 94, 46, 61, 35] : List UInt8) ∧ ¬ (Lib.indexByte [88, 63, 40, 123, 94, 46, 61, 35] (UInt8.ofNat n.1) < 0)) ∨ (UInt8.ofNat n.1 ∉ ([88, 63, 40, 123, 94, 46, 61, 35] : List UInt8) ∧ Lib.indexByte [88, 63, 40, 123, 94, 46, 61, 35] (UInt8.ofNat n.1) < 0) := by decide +kernel
 have h1 := h ⟨c.toNat, c.toNat_lt⟩
 simp only [UInt8.ofNat_toNat] at h1
 rcases h1 with ⟨a, b⟩ | ⟨a, b⟩
 ·exact .inl ⟨a, eq_false b⟩
 ·exact .inr ⟨a, eq_true b⟩
end Go.Proofs.YtlkfakdghjaoaaaGreatDoor
