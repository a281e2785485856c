/-
  The model's reader: a frame.
-/
import Derived.Test.YtgkamcnbpiipoaaGreatMMade
namespace Go.Proofs.YtgkamcnbpiipoaaGreat
open Go.RowKit Go.Sort

/-- What frame hands back, in one piece. -/
def FrOut (R f : Nat) (tx : List UInt8) (p : Nat) (b : Bool) (w : World) (e : Ending) (w' : World) : Prop :=
  ∃ A m k, e = .returned (.slice A m k) ∧ Hid (Only R w w') ∧ Hid ((∃ l p', f < 9 ∧ OkL l (f + 1) ∧ tx.drop p = opn b :: (txL l ++ cls b :: tx.drop p') ∧ p < p' ∧ p' ≤ tx.length ∧ MRowAt w' (NewIn w) l (.slice A m k) ∧ Mrd w' R tx p' false f) ∨ (∃ p', NoI f (tx.drop p) ∧ p' + 3 * p ≤ 4 * tx.length + 2 ∧ Mrd w' R tx p' true f))
theorem mframe_out (n : Nat) (HB : MBodyOk n) (R f p : Nat) (tx : List UInt8) (b : Bool) (w : World) (hat : tx[p]? = some (opn b)) (hn : tx.length - p ≤ n + 1) (hp : p ≤ tx.length) (htx : tx.length ≤ 1048576) (hf : f ≤ 9) (h : Mrd w R tx p false f) :
    Calls Tryz.prog 101 #[.pointer (some ⟨R, 0, none⟩), .int .u8 (opn b).toNat, .int .u8 (cls b).toNat] w (FrOut R f tx p b w) := by
  refine (mframe_any n HB R f p tx b w hat hn hp htx hf h).mono ?_
  rintro e w' (⟨l, p', A, m, k, h1, h2, h3, h4, h5, rfl, h6, h7, h8⟩ | ⟨A, m, k, p', h1, h2, rfl, h3, h4⟩)
  · exact ⟨A, m, k, rfl, h8, .inl ⟨l, p', h1, h2, h3, h4, h5, h6, h7⟩⟩
  · exact ⟨A, m, k, rfl, h4, .inr ⟨p', h1, h2, h3⟩⟩

set_option maxRecDepth 100000 in
set_option maxHeartbeats 1600000 in
theorem mitem_frame_false (n : Nat) (HB : MBodyOk n) (R f p : Nat) (tx : List UInt8) (c : UInt8) (w : World) (hc : c = 40) (hat : tx[p]? = some c) (hn : tx.length - p ≤ n + 1) (htx : tx.length ≤ 1048576) (hf : f ≤ 9) (h : Mrd w R tx p false f) :
    Calls Tryz.prog 85 #[.pointer (some ⟨R, 0, none⟩)] w (MItemPost R f tx p w) := by
  have HFR := Lib.hid (fun W (k : Mrd W R tx p false f) => (mframe_out n HB R f p tx false W (by rw [hat, hc]; rfl) hn (by have := (drop_cons (drop_at hat)).1; omega) htx hf k : Calls Tryz.prog 101 #[.pointer (some ⟨R, 0, none⟩), .int .u8 40, .int .u8 41] W (FrOut R f tx p false W)))
  have c0 := Blk.cell h 0
  obtain ⟨x, hx⟩ : ∃ x, x = tb tx := ⟨_, rfl⟩
  have hxz : x.size = tx.length := by rw [hx, tb_size]
  have hxd : x.data.toList = tx := by rw [hx, tb_data]
  have hlt : p < x.size := by have := (drop_cons (drop_at hat)).1; omega
  have hb := byte_at x p hlt
  rw [hxd, hat] at hb
  have hxp : x[p] = c := (Option.some.inj hb).symm
  have d0 : w.cell? ⟨R, 0, none⟩ = some (.string x) := by rw [hx]; exact c0
  have d1 : w.cell? ⟨R, 1, none⟩ = some (.int .i64 p) := Blk.cell h 1
  have HXP := Lib.hid hxp
  have HXZ := Lib.hid hxz
  have HX := Lib.hid hx
  have HD := Lib.hid (drop_at hat)
  have H := Lib.hid h
  have hR := h.lt
  have hR1 : R < w.heap.size + 1 := by omega
  have hR2 : R < w.heap.size + 1 + 1 := by omega
  have hp1 : p + 1 ≤ 1048576 := by omega
  have e1 : ((p + 1 : Nat) : Int) = (p : Int) + 1 := by omega
  have HE := Lib.hid e1
  clear hb hxd hx c0 hxp hxz h hat e1
  have e46 : ((c.toNat : Int) == 46) = false := by rw [hc]; rfl
  have e63 : ((c.toNat : Int) == 63) = false := by rw [hc]; rfl
  have e40 : ((c.toNat : Int) == 40) = true := by rw [hc]; rfl
  have e123 : ((c.toNat : Int) == 123) = false := by rw [hc]; rfl
  have e94 : ((c.toNat : Int) == 94) = false := by rw [hc]; rfl
  have e61 : ((c.toNat : Int) == 61) = false := by rw [hc]; rfl
  have e35 : ((c.toNat : Int) == 35) = false := by rw [hc]; rfl
  have HL := Lib.hid (fun W => (by have := letter_any c W; rw [show letB c = false by rw [hc]; rfl] at this; exact this : Calls Tryz.prog 45 #[.int .u8 c.toNat] W fun e w' => e = .returned (.bool false) ∧ W = w'))
  have HC := Lib.hid hc
  obtain ⟨i0, hi, hz0, hz1, hz2⟩ := info_parts info_l5items
  clear hc HB
  go_enter Tryz.func85, Tryz.ntmps85
  go_upto_region 1 with fail
  go_cut [3] (fun s3 wx => ∃ OB XB, s3 = .pointer (some ⟨OB, 0, none⟩) ∧ Begun w c OB XB wx)
  case first =>
    go_region
    all_goals (go_wp2_with fail; go_meet)
    all_goals rw [HXP.out]
    case rel => exact ⟨_, _, rfl, begun_a w c⟩
    case rel => exact ⟨_, _, rfl, begun_b w c⟩
  case rest =>
    obtain ⟨OB, XB, rfl, hst⟩ := hcut
    clear d0 d1
    have hlO := hst.ltO
    have hOR : OB ≠ R := by omega
    have hQR : w.heap.size ≠ R := by omega
    have hOQ : OB ≠ w.heap.size := by omega
    have k0 : wc.cell? ⟨OB, 0, none⟩ = some (.int .u8 c.toNat) := hst.item.cell 0
    have hm : Mrd wc R tx p false f := Blk.below H.out hst.below hR
    have d0 : wc.cell? ⟨R, 0, none⟩ = some (.string x) := by rw [HX.out]; exact Blk.cell hm 0
    have d1 : wc.cell? ⟨R, 1, none⟩ = some (.int .i64 p) := Blk.cell hm 1
    have g1 : wc.frozen? ⟨R, 1, none⟩ = false := Blk.frozen hm 1
    have m1 : Mrd (wc.setCell ⟨R, 1, none⟩ (.int .i64 ((p : Int) + 1))) R tx (p + 1) false f := by
      unfold Mrd
      rw [HE.out]; exact Blk.set_ hm 1 (.int .i64 ((p : Int) + 1))
    have i1 := blk_other hst.item hOR 1 (.int .i64 ((p : Int) + 1))
    have r1 := blk_other hst.res hQR 1 (.int .i64 ((p : Int) + 1))
    have HM1 := Lib.hid m1
    have HI1 := Lib.hid i1
    have HR1 := Lib.hid r1
    have HST := Lib.hid hst
    have hM0 := (hst.made H.out hR).drew 1
    have HM0 := Lib.hid hM0
    have q0 : wc.cell? ⟨OB, 3, none⟩ = some (.slice (some ⟨XB, 0, none⟩) 0 0) := hst.item.cell 3
    clear hm m1 i1 r1 hst HM1 HI1 HR1 hM0
    go_wp2_with fail
    refine (HL.out _).mono ?_
    rintro e w2 ⟨rfl, rfl⟩
    go_wp2_with fail
    go_region_law (first
      | (refine step_append_lies _ (by rfl) _ _ _ (by rfl) (w.heap.size + 1) 90 i0 _ 1 24 Tryz.underlying155 hi hz0 hz1 hz2 rfl (by omega) _ _ _ (by rfl) ((own_only HM0.out.row ho2.out (by omega)).alloc _) ⟨w2.heap.size, 0, none⟩ 1 1 [.slice A2 m2 k2] (by rfl) (by rfl) (World.news_of_block (cs := #[.slice A2 m2 k2]) (t := 90) (fr := (0, 0)) (heap_alloc_new w2 _)) (by simp [Value.oneCell']) (by omega) (by unfold maxLen; decide) (by decide) ?_ (w2.heap.size + 1) (by simp) ?_
         · simp; omega
         intro gg capg w5 hown5 hgrow hat5 hltg
         have q6 : w5.cell? ⟨OB, 3, none⟩ = some (.slice (some ⟨XB, 0, none⟩) 0 0) := (HM0.out.grown hOR ho2.out hgrow).cell 3
         have q7 := (HM0.out.grown hOR ho2.out hgrow).frozen 3)
      | (go_simp; go_at_call 101; refine (HFR.out _ HM0.out.rd).mono ?_; rintro e w2 ⟨A2, m2, k2, rfl, ho2, hr2⟩; have q5 : w2.cell? ⟨OB, 3, none⟩ = some (.slice (some ⟨XB, 0, none⟩) 0 0) := (blk_only HM0.out.item ho2.out hOR).cell 3; have hlw : w.heap.size + 1 ≤ w2.heap.size := (by have := HM0.out.only.size; have := ho2.out.size; have := HM0.out.item.lt; omega); have hO2 : OB < w2.heap.size := (blk_only HM0.out.item ho2.out hOR).lt)
      | fail)
    all_goals
      rcases hr2.out with ⟨l, p', hf9, hl, hdq, hpp, hpl, hrow, hm⟩ | ⟨p', hno, hfar, hm⟩
      · have HM := Lib.hid (HM0.out.step (l := l) hR hOR hlO ho2.out hm (fun _ => hrow) hown5 hgrow hat5)
        have HMR : Hid (Blk (w5.setCell ⟨OB, 3, none⟩ (.slice (some ⟨gg, 0, none⟩) 1 capg)) w.heap.size 157 #[.int .u8 0, .string ⟨#[]⟩, .int .i64 0, .slice none 0 0]) := HM.out.res
        have HMI : Hid (Blk (w5.setCell ⟨OB, 3, none⟩ (.slice (some ⟨gg, 0, none⟩) 1 capg)) OB 157 #[.int .u8 c.toNat, .string ⟨#[]⟩, .int .i64 0, .slice (some ⟨gg, 0, none⟩) 1 capg]) := HM.out.item
        have HL5 := Lib.hid hl
        have HDQ := Lib.hid hdq
        clear hm hrow hown5 hgrow hat5 hr2 ho2 hl hdq q5 q6 q7
        have hI9 := HMI.out
        have hR9 := HMR.out
        have l0 := hI9.cell 0
        have l1 := hI9.cell 1
        have l2 := hI9.cell 2
        have l3 := hI9.cell 3
        have z0 := hR9.cell 0
        have z1 := hR9.cell 1
        have z2 := hR9.cell 2
        have z3 := hR9.cell 3
        have y0 := hR9.frozen 0
        have y1 := hR9.frozen 1
        have y2 := hR9.frozen 2
        have y3 := hR9.frozen 3
        clear hI9 hR9
        go_wp2_with fail
        have V := res4_blk HMR.out (.int .u8 c.toNat) (.string ⟨#[]⟩) (.int .i64 0) (.slice (some ⟨gg, 0, none⟩) 1 capg)
        have v0 := V.cell 0
        have v1 := V.cell 1
        have v2 := V.cell 2
        have v3 := V.cell 3
        unfold Res4 at v0 v1 v2 v3
        refine bodyPost_ret (v := .agg #[.int .u8 c.toNat, .string ⟨#[]⟩, .int .i64 0, .slice (some ⟨gg, 0, none⟩) 1 capg]) (by simp [results, Tryz.results85, go_sem, v0, v1, v2, v3]) rfl ?_
        clear v0 v1 v2 v3 V
        refine .inl ⟨.frame false l, p', _, _, _, ⟨by rw [OkI]; exact ⟨hf9, HL5.out⟩, .inr trivial, by rw [HDQ.out, txI]; simp⟩, hpp, hpl, by rw [HC.out]; rfl, HM.out.bodies rfl _ _ _ _, res4_far HM.out.rd hQR.symm _ _ _ _, res4_only HM.out.only (Nat.le_refl _) _ _ _ _⟩
      · have HM := Lib.hid (HM0.out.step (l := []) (bad' := true) hR hOR hlO ho2.out hm (fun e => by cases e) hown5 hgrow hat5)
        have HMR : Hid (Blk (w5.setCell ⟨OB, 3, none⟩ (.slice (some ⟨gg, 0, none⟩) 1 capg)) w.heap.size 157 #[.int .u8 0, .string ⟨#[]⟩, .int .i64 0, .slice none 0 0]) := HM.out.res
        have HMI : Hid (Blk (w5.setCell ⟨OB, 3, none⟩ (.slice (some ⟨gg, 0, none⟩) 1 capg)) OB 157 #[.int .u8 c.toNat, .string ⟨#[]⟩, .int .i64 0, .slice (some ⟨gg, 0, none⟩) 1 capg]) := HM.out.item
        have HNO := Lib.hid hno
        clear hm hown5 hgrow hat5 hr2 ho2 hno q5 q6 q7
        have hI9 := HMI.out
        have hR9 := HMR.out
        have l0 := hI9.cell 0
        have l1 := hI9.cell 1
        have l2 := hI9.cell 2
        have l3 := hI9.cell 3
        have z0 := hR9.cell 0
        have z1 := hR9.cell 1
        have z2 := hR9.cell 2
        have z3 := hR9.cell 3
        have y0 := hR9.frozen 0
        have y1 := hR9.frozen 1
        have y2 := hR9.frozen 2
        have y3 := hR9.frozen 3
        clear hI9 hR9
        go_wp2_with fail
        have V := res4_blk HMR.out (.int .u8 c.toNat) (.string ⟨#[]⟩) (.int .i64 0) (.slice (some ⟨gg, 0, none⟩) 1 capg)
        have v0 := V.cell 0
        have v1 := V.cell 1
        have v2 := V.cell 2
        have v3 := V.cell 3
        unfold Res4 at v0 v1 v2 v3
        refine bodyPost_ret (v := .agg #[.int .u8 c.toNat, .string ⟨#[]⟩, .int .i64 0, .slice (some ⟨gg, 0, none⟩) 1 capg]) (by simp [results, Tryz.results85, go_sem, v0, v1, v2, v3]) rfl ?_
        clear v0 v1 v2 v3 V
        exact .inr ⟨c.toNat, ⟨#[]⟩, 0, _, _, _, p', HNO.out, by omega, rfl, res4_far HM.out.rd hQR.symm _ _ _ _, res4_only HM.out.only (Nat.le_refl _) _ _ _ _⟩
end Go.Proofs.YtgkamcnbpiipoaaGreat
