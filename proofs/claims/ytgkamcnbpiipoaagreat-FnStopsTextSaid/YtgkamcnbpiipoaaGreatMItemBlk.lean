/-
  The model's reader: an item of one kind: blk.
-/
import Derived.Test.YtgkamcnbpiipoaaGreatMBody
namespace Go.Proofs.YtgkamcnbpiipoaaGreat
open Go.RowKit Go.Sort

set_option maxRecDepth 100000 in
set_option maxHeartbeats 1600000 in
theorem mitem_blk (R f p : Nat) (tx : List UInt8) (c : UInt8) (w : World) (hc : letB c = true) (hat : tx[p]? = some c) (htx : tx.length ≤ 1048576) (h : Mrd w R tx p false f) :
    Calls Tryz.prog 85 #[.pointer (some ⟨R, 0, none⟩)] w (MItemPost R f tx p w) := by
  have c0 := Blk.cell h 0
  obtain ⟨x, hx⟩ : ∃ x, x = tb tx := ⟨_, rfl⟩
  have hxz : x.size = tx.length := by rw [hx, tb_size]
  have hxd : x.data.toList = tx := by rw [hx, tb_data]
  have hlt : p < x.size := by have := (drop_cons (drop_at hat)).1; omega
  have hb := byte_at x p hlt
  rw [hxd, hat] at hb
  have hxp : x[p] = c := (Option.some.inj hb).symm
  have d0 : w.cell? ⟨R, 0, none⟩ = some (.string x) := by rw [hx]; exact c0
  have d1 : w.cell? ⟨R, 1, none⟩ = some (.int .i64 p) := Blk.cell h 1
  have HXP := Lib.hid hxp
  have HXZ := Lib.hid hxz
  have HX := Lib.hid hx
  have HD := Lib.hid (drop_at hat)
  have H := Lib.hid h
  have hR := h.lt
  have hR1 : R < w.heap.size + 1 := by omega
  have hR2 : R < w.heap.size + 1 + 1 := by omega
  have hp1 : p + 1 ≤ 1048576 := by omega
  have e1 : ((p + 1 : Nat) : Int) = (p : Int) + 1 := by omega
  have HE := Lib.hid e1
  clear hb hxd hx c0 hxp hxz h hat e1
  have HL := Lib.hid (fun W => (by have := letter_any c W; rw [hc] at this; exact this : Calls Tryz.prog 45 #[.int .u8 c.toNat] W fun e w' => e = .returned (.bool true) ∧ W = w'))
  have HC := Lib.hid hc
  have HEX := Lib.hid (show x.extract p (p + 1) = tb [c] from ex_one hlt HXP.out)
  have hl1 : p ≤ p + 1 := by omega
  have hl2 : (p : Int) ≤ (p : Int) + 1 := by omega
  have hl3 : (p : Int) + 1 ≤ (x.size : Int) := by omega
  have hl4 : p + 1 ≤ x.size := by omega
  have s1 : IntKind.i64.wrap ((p : Int) + 1) = (p : Int) + 1 := IntWalk.i64_in _ (by omega)
  have s2 : ((p : Int) + 1).toNat = p + 1 := by omega
  have s3 : (0 : Int) ≤ (p : Int) + 1 := by omega
  clear hc
  go_enter Tryz.func85, Tryz.ntmps85
  go_upto_region 1 with fail
  go_cut [3] (fun s3 wx => ∃ OB XB, s3 = .pointer (some ⟨OB, 0, none⟩) ∧ Begun w c OB XB wx)
  case first =>
    go_region
    all_goals (go_wp2_with fail; go_meet)
    all_goals rw [HXP.out]
    case rel => exact ⟨_, _, rfl, begun_a w c⟩
    case rel => exact ⟨_, _, rfl, begun_b w c⟩
  case rest =>
    obtain ⟨OB, XB, rfl, hst⟩ := hcut
    clear d0 d1
    have hlO := hst.ltO
    have hOR : OB ≠ R := by omega
    have hQR : w.heap.size ≠ R := by omega
    have hOQ : OB ≠ w.heap.size := by omega
    have k0 : wc.cell? ⟨OB, 0, none⟩ = some (.int .u8 c.toNat) := hst.item.cell 0
    have hm : Mrd wc R tx p false f := Blk.below H.out hst.below hR
    have d0 : wc.cell? ⟨R, 0, none⟩ = some (.string x) := by rw [HX.out]; exact Blk.cell hm 0
    have d1 : wc.cell? ⟨R, 1, none⟩ = some (.int .i64 p) := Blk.cell hm 1
    have g1 : wc.frozen? ⟨R, 1, none⟩ = false := Blk.frozen hm 1
    have m1 : Mrd (wc.setCell ⟨R, 1, none⟩ (.int .i64 ((p : Int) + 1))) R tx (p + 1) false f := by
      unfold Mrd
      rw [HE.out]; exact Blk.set_ hm 1 (.int .i64 ((p : Int) + 1))
    have i1 := blk_other hst.item hOR 1 (.int .i64 ((p : Int) + 1))
    have r1 := blk_other hst.res hQR 1 (.int .i64 ((p : Int) + 1))
    have HM1 := Lib.hid m1
    have HI1 := Lib.hid i1
    have HR1 := Lib.hid r1
    have HST := Lib.hid hst
    clear hm m1 i1 r1 hst
    have f1 := HST.out.item.frozen 1
    have j1 := HST.out.item.cell 1
    go_wp2_with fail
    refine (HL.out _).mono ?_
    rintro e w2 ⟨rfl, rfl⟩
    go_wp2_with fail
    go_region
    have i1 : Blk (wc.setCell ⟨OB, 1, none⟩ (.string (x.extract p (p + 1)))).drew OB 157 #[.int .u8 c.toNat, .string (x.extract p (p + 1)), .int .i64 0, .slice (some ⟨XB, 0, none⟩) 0 0] := (HST.out.item.set_ 1 (.string (x.extract p (p + 1)))).drew
    have m1 : Mrd (wc.setCell ⟨OB, 1, none⟩ (.string (x.extract p (p + 1)))).drew R tx p false f := Blk.drew (blk_other (Blk.below H.out HST.out.below hR) hOR.symm 1 _)
    have r1 := Blk.drew (blk_other HST.out.res hOQ.symm 1 (.string (x.extract p (p + 1))))
    have o1 := Only.drew (only_obj (only_below (R := R) HST.out.below) (Nat.le_of_lt hlO) 1 (.string (x.extract p (p + 1))))
    obtain ⟨W1, hW1⟩ : ∃ W1, W1 = (wc.setCell ⟨OB, 1, none⟩ (.string (x.extract p (p + 1)))).drew := ⟨_, rfl⟩
    rw [← hW1] at i1 m1 r1 o1 ⊢
    have b0 := i1.cell 0
    have b1 := i1.frozen 0
    have i2 : Blk (W1.setCell ⟨OB, 0, none⟩ (.int .u8 88)) OB 157 #[.int .u8 88, .string (x.extract p (p + 1)), .int .i64 0, .slice (some ⟨XB, 0, none⟩) 0 0] := i1.set_ 0 (.int .u8 88)
    have m2 : Mrd (W1.setCell ⟨OB, 0, none⟩ (.int .u8 88)) R tx p false f := blk_other m1 hOR.symm 0 _
    have r2 := blk_other r1 hOQ.symm 0 (.int .u8 88)
    have b2 := Blk.cell m2 1
    have b3 := Blk.frozen m2 1
    have HM3 : Hid (Mrd ((W1.setCell ⟨OB, 0, none⟩ (.int .u8 88)).setCell ⟨R, 1, none⟩ (.int .i64 ((p : Int) + 1))) R tx (p + 1) false f) := by
      show Mrd _ _ _ _ _ _
      unfold Mrd
      rw [HE.out]; exact Blk.set_ m2 1 (.int .i64 ((p : Int) + 1))
    have HI3 := Lib.hid (blk_other i2 hOR 1 (.int .i64 ((p : Int) + 1)))
    have HR3 := Lib.hid (blk_other r2 hQR 1 (.int .i64 ((p : Int) + 1)))
    have HO3 := Lib.hid (only_obj o1 (Nat.le_of_lt hlO) 0 (.int .u8 88))
    clear i1 m1 r1 o1 i2 m2 r2 d0 d1 g1 k0 j1 f1 hW1
    have hI9 := HI3.out
    have hR9 := HR3.out
    have l0 := hI9.cell 0
    have l1 := hI9.cell 1
    have l2 := hI9.cell 2
    have l3 := hI9.cell 3
    have z0 := hR9.cell 0
    have z1 := hR9.cell 1
    have z2 := hR9.cell 2
    have z3 := hR9.cell 3
    have y0 := hR9.frozen 0
    have y1 := hR9.frozen 1
    have y2 := hR9.frozen 2
    have y3 := hR9.frozen 3
    clear hI9 hR9
    go_wp2_with fail
    have V := res4_blk HR3.out (.int .u8 88) (.string (x.extract p (p + 1))) (.int .i64 0) (.slice (some ⟨XB, 0, none⟩) 0 0)
    have v0 := V.cell 0
    have v1 := V.cell 1
    have v2 := V.cell 2
    have v3 := V.cell 3
    unfold Res4 at v0 v1 v2 v3
    refine bodyPost_ret (v := .agg #[.int .u8 88, .string (x.extract p (p + 1)), .int .i64 0, .slice (some ⟨XB, 0, none⟩) 0 0]) (by simp [results, Tryz.results85, go_sem, v0, v1, v2, v3]) rfl ?_
    clear v0 v1 v2 v3 V
    refine .inl ⟨.blk c, p + 1, _, _, _, by rw [HD.out]; exact rd_blk HC.out (.inr trivial), by omega, by have := HXZ.out; omega, by rw [HEX.out]; rfl, by rw [MBodAt]; exact ⟨_, _, rfl, fun h => absurd h (by simp)⟩, res4_far HM3.out hQR.symm _ _ _ _, res4_only (HO3.out.trans (Only.set R _ 1 _)) (Nat.le_refl _) _ _ _ _⟩
end Go.Proofs.YtgkamcnbpiipoaaGreat

/-
  The model's reader: an item of one kind: other.
-/
namespace Go.Proofs.YtgkamcnbpiipoaaGreat
open Go.RowKit Go.Sort

set_option maxRecDepth 100000 in
set_option maxHeartbeats 1600000 in
theorem mitem_other (R f p : Nat) (tx : List UInt8) (c : UInt8) (w : World) (hl : letB c = false) (hc : c ≠ 63 ∧ c ≠ 46 ∧ c ≠ 40 ∧ c ≠ 123 ∧ c ≠ 94 ∧ c ≠ 61 ∧ c ≠ 35) (hat : tx[p]? = some c) (htx : tx.length ≤ 1048576) (h : Mrd w R tx p false f) :
    Calls Tryz.prog 85 #[.pointer (some ⟨R, 0, none⟩)] w (MItemPost R f tx p w) := by
  have c0 := Blk.cell h 0
  obtain ⟨x, hx⟩ : ∃ x, x = tb tx := ⟨_, rfl⟩
  have hxz : x.size = tx.length := by rw [hx, tb_size]
  have hxd : x.data.toList = tx := by rw [hx, tb_data]
  have hlt : p < x.size := by have := (drop_cons (drop_at hat)).1; omega
  have hb := byte_at x p hlt
  rw [hxd, hat] at hb
  have hxp : x[p] = c := (Option.some.inj hb).symm
  have d0 : w.cell? ⟨R, 0, none⟩ = some (.string x) := by rw [hx]; exact c0
  have d1 : w.cell? ⟨R, 1, none⟩ = some (.int .i64 p) := Blk.cell h 1
  have HXP := Lib.hid hxp
  have HXZ := Lib.hid hxz
  have HX := Lib.hid hx
  have HD := Lib.hid (drop_at hat)
  have H := Lib.hid h
  have hR := h.lt
  have hR1 : R < w.heap.size + 1 := by omega
  have hR2 : R < w.heap.size + 1 + 1 := by omega
  have hp1 : p + 1 ≤ 1048576 := by omega
  have e1 : ((p + 1 : Nat) : Int) = (p : Int) + 1 := by omega
  have HE := Lib.hid e1
  clear hb hxd hx c0 hxp hxz h hat e1
  obtain ⟨n63, n46, n40, n123, n94, n61, n35⟩ := id hc
  have e46 : ((c.toNat : Int) == 46) = false := byte_ne (b := 46) n46
  have e63 : ((c.toNat : Int) == 63) = false := byte_ne (b := 63) n63
  have e40 : ((c.toNat : Int) == 40) = false := byte_ne (b := 40) n40
  have e123 : ((c.toNat : Int) == 123) = false := byte_ne (b := 123) n123
  have e94 : ((c.toNat : Int) == 94) = false := byte_ne (b := 94) n94
  have e61 : ((c.toNat : Int) == 61) = false := byte_ne (b := 61) n61
  have e35 : ((c.toNat : Int) == 35) = false := byte_ne (b := 35) n35
  have HL := Lib.hid (fun W => (by have := letter_any c W; rw [hl] at this; exact this : Calls Tryz.prog 45 #[.int .u8 c.toNat] W fun e w' => e = .returned (.bool false) ∧ W = w'))
  have HNO := Lib.hid (show NoI f (tx.drop p) by rw [HD.out]; exact noI_hd hl hc)
  clear hc hl n63 n46 n40 n123 n94 n61 n35
  go_enter Tryz.func85, Tryz.ntmps85
  go_upto_region 1 with fail
  go_cut [3] (fun s3 wx => ∃ OB XB, s3 = .pointer (some ⟨OB, 0, none⟩) ∧ Begun w c OB XB wx)
  case first =>
    go_region
    all_goals (go_wp2_with fail; go_meet)
    all_goals rw [HXP.out]
    case rel => exact ⟨_, _, rfl, begun_a w c⟩
    case rel => exact ⟨_, _, rfl, begun_b w c⟩
  case rest =>
    obtain ⟨OB, XB, rfl, hst⟩ := hcut
    clear d0 d1
    have hlO := hst.ltO
    have hOR : OB ≠ R := by omega
    have hQR : w.heap.size ≠ R := by omega
    have hOQ : OB ≠ w.heap.size := by omega
    have k0 : wc.cell? ⟨OB, 0, none⟩ = some (.int .u8 c.toNat) := hst.item.cell 0
    have hm : Mrd wc R tx p false f := Blk.below H.out hst.below hR
    have d0 : wc.cell? ⟨R, 0, none⟩ = some (.string x) := by rw [HX.out]; exact Blk.cell hm 0
    have d1 : wc.cell? ⟨R, 1, none⟩ = some (.int .i64 p) := Blk.cell hm 1
    have g1 : wc.frozen? ⟨R, 1, none⟩ = false := Blk.frozen hm 1
    have m1 : Mrd (wc.setCell ⟨R, 1, none⟩ (.int .i64 ((p : Int) + 1))) R tx (p + 1) false f := by
      unfold Mrd
      rw [HE.out]; exact Blk.set_ hm 1 (.int .i64 ((p : Int) + 1))
    have i1 := blk_other hst.item hOR 1 (.int .i64 ((p : Int) + 1))
    have r1 := blk_other hst.res hQR 1 (.int .i64 ((p : Int) + 1))
    have HM1 := Lib.hid m1
    have HI1 := Lib.hid i1
    have HR1 := Lib.hid r1
    have HST := Lib.hid hst
    clear hm m1 i1 r1 hst
    have g2 : wc.frozen? ⟨R, 2, none⟩ = false := Blk.frozen (Blk.below H.out HST.out.below hR) 2
    have x2 : wc.cell? ⟨R, 2, none⟩ = some (.bool false) := Blk.cell (Blk.below H.out HST.out.below hR) 2
    have HM3 : Hid (Mrd (wc.setCell ⟨R, 2, none⟩ (.bool true)) R tx p true f) := Blk.set_ (Blk.below H.out HST.out.below hR) 2 (.bool true)
    have HI3 := Lib.hid (blk_other HST.out.item hOR 2 (.bool true))
    have HR3 := Lib.hid (blk_other HST.out.res hQR 2 (.bool true))
    clear HM1 HI1 HR1
    have hI9 := HI3.out
    have hR9 := HR3.out
    have l0 := hI9.cell 0
    have l1 := hI9.cell 1
    have l2 := hI9.cell 2
    have l3 := hI9.cell 3
    have z0 := hR9.cell 0
    have z1 := hR9.cell 1
    have z2 := hR9.cell 2
    have z3 := hR9.cell 3
    have y0 := hR9.frozen 0
    have y1 := hR9.frozen 1
    have y2 := hR9.frozen 2
    have y3 := hR9.frozen 3
    clear hI9 hR9
    go_wp2_with fail
    refine (HL.out _).mono ?_
    rintro e w2 ⟨rfl, rfl⟩
    go_wp2_with fail
    have V := res4_blk HR3.out (.int .u8 c.toNat) (.string ⟨#[]⟩) (.int .i64 0) (.slice (some ⟨XB, 0, none⟩) 0 0)
    have v0 := V.cell 0
    have v1 := V.cell 1
    have v2 := V.cell 2
    have v3 := V.cell 3
    unfold Res4 at v0 v1 v2 v3
    refine bodyPost_ret (v := .agg #[.int .u8 c.toNat, .string ⟨#[]⟩, .int .i64 0, .slice (some ⟨XB, 0, none⟩) 0 0]) (by simp [results, Tryz.results85, go_sem, v0, v1, v2, v3]) rfl ?_
    clear v0 v1 v2 v3 V
    refine .inr ⟨c.toNat, ⟨#[]⟩, 0, _, _, _, p, HNO.out, by have := HXZ.out; omega, rfl, res4_far HM3.out hQR.symm _ _ _ _, res4_only ((only_below HST.out.below).trans (Only.set R wc 2 _)) (Nat.le_refl _) _ _ _ _⟩
end Go.Proofs.YtgkamcnbpiipoaaGreat

/-
  The model's reader: an item of one kind: set.
-/
namespace Go.Proofs.YtgkamcnbpiipoaaGreat
open Go.RowKit Go.Sort

set_option maxRecDepth 100000 in
set_option maxHeartbeats 1600000 in
theorem mitem_set (R f p : Nat) (tx : List UInt8) (c : UInt8) (w : World) (hc : c = 61) (hat : tx[p]? = some c) (htx : tx.length ≤ 1048576) (h : Mrd w R tx p false f) :
    Calls Tryz.prog 85 #[.pointer (some ⟨R, 0, none⟩)] w (MItemPost R f tx p w) := by
  have c0 := Blk.cell h 0
  obtain ⟨x, hx⟩ : ∃ x, x = tb tx := ⟨_, rfl⟩
  have hxz : x.size = tx.length := by rw [hx, tb_size]
  have hxd : x.data.toList = tx := by rw [hx, tb_data]
  have hlt : p < x.size := by have := (drop_cons (drop_at hat)).1; omega
  have hb := byte_at x p hlt
  rw [hxd, hat] at hb
  have hxp : x[p] = c := (Option.some.inj hb).symm
  have d0 : w.cell? ⟨R, 0, none⟩ = some (.string x) := by rw [hx]; exact c0
  have d1 : w.cell? ⟨R, 1, none⟩ = some (.int .i64 p) := Blk.cell h 1
  have HXP := Lib.hid hxp
  have HXZ := Lib.hid hxz
  have HX := Lib.hid hx
  have HD := Lib.hid (drop_at hat)
  have H := Lib.hid h
  have hR := h.lt
  have hR1 : R < w.heap.size + 1 := by omega
  have hR2 : R < w.heap.size + 1 + 1 := by omega
  have hp1 : p + 1 ≤ 1048576 := by omega
  have e1 : ((p + 1 : Nat) : Int) = (p : Int) + 1 := by omega
  have HE := Lib.hid e1
  clear hb hxd hx c0 hxp hxz h hat e1
  have e46 : ((c.toNat : Int) == 46) = false := by rw [hc]; rfl
  have e63 : ((c.toNat : Int) == 63) = false := by rw [hc]; rfl
  have e40 : ((c.toNat : Int) == 40) = false := by rw [hc]; rfl
  have e123 : ((c.toNat : Int) == 123) = false := by rw [hc]; rfl
  have e94 : ((c.toNat : Int) == 94) = false := by rw [hc]; rfl
  have e61 : ((c.toNat : Int) == 61) = true := by rw [hc]; rfl
  have e35 : ((c.toNat : Int) == 35) = false := by rw [hc]; rfl
  have HL := Lib.hid (fun W => (by have := letter_any c W; rw [show letB c = false by rw [hc]; rfl] at this; exact this : Calls Tryz.prog 45 #[.int .u8 c.toNat] W fun e w' => e = .returned (.bool false) ∧ W = w'))
  have HC := Lib.hid hc
  clear hc
  have HG := Lib.hid (fun W (k : Mrd W R tx (p + 1) false f) => mdigit_any R (p + 1) f tx W (by omega) k)
  go_enter Tryz.func85, Tryz.ntmps85
  go_upto_region 1 with fail
  go_cut [3] (fun s3 wx => ∃ OB XB, s3 = .pointer (some ⟨OB, 0, none⟩) ∧ Begun w c OB XB wx)
  case first =>
    go_region
    all_goals (go_wp2_with fail; go_meet)
    all_goals rw [HXP.out]
    case rel => exact ⟨_, _, rfl, begun_a w c⟩
    case rel => exact ⟨_, _, rfl, begun_b w c⟩
  case rest =>
    obtain ⟨OB, XB, rfl, hst⟩ := hcut
    clear d0 d1
    have hlO := hst.ltO
    have hOR : OB ≠ R := by omega
    have hQR : w.heap.size ≠ R := by omega
    have hOQ : OB ≠ w.heap.size := by omega
    have k0 : wc.cell? ⟨OB, 0, none⟩ = some (.int .u8 c.toNat) := hst.item.cell 0
    have hm : Mrd wc R tx p false f := Blk.below H.out hst.below hR
    have d0 : wc.cell? ⟨R, 0, none⟩ = some (.string x) := by rw [HX.out]; exact Blk.cell hm 0
    have d1 : wc.cell? ⟨R, 1, none⟩ = some (.int .i64 p) := Blk.cell hm 1
    have g1 : wc.frozen? ⟨R, 1, none⟩ = false := Blk.frozen hm 1
    have m1 : Mrd (wc.setCell ⟨R, 1, none⟩ (.int .i64 ((p : Int) + 1))) R tx (p + 1) false f := by
      unfold Mrd
      rw [HE.out]; exact Blk.set_ hm 1 (.int .i64 ((p : Int) + 1))
    have i1 := blk_other hst.item hOR 1 (.int .i64 ((p : Int) + 1))
    have r1 := blk_other hst.res hQR 1 (.int .i64 ((p : Int) + 1))
    have HM1 := Lib.hid m1
    have HI1 := Lib.hid i1
    have HR1 := Lib.hid r1
    have HST := Lib.hid hst
    clear hm m1 i1 r1 hst
    go_wp2_with fail
    refine (HL.out _).mono ?_
    rintro e w2 ⟨rfl, rfl⟩
    go_wp2_with fail
    refine (HG.out _ HM1.out).mono ?_
    rintro e w3 ⟨o3, q3⟩
    have O3 := Lib.hid o3
    have hs3 := o3.size
    have hsc := HST.out.below.size
    have hOl := HST.out.item.lt
    have HI3 := Lib.hid (blk_only HI1.out o3 hOR)
    have HR3 := Lib.hid (blk_only HR1.out o3 hQR)
    clear o3 HI1 HR1
    cases hdg : digAt tx (p + 1) with
    | some n =>
      rw [hdg] at q3
      obtain ⟨rfl, m3⟩ := q3
      have HM3 := Lib.hid m3
      have HDG := Lib.hid (digAt_some hdg)
      have f2 := HI3.out.frozen 2
      have j2 := HI3.out.cell 2
      have HM4 : Hid (Mrd (w3.setCell ⟨OB, 2, none⟩ (.int .i64 n)) R tx (p + 1 + 1) false f) := blk_other m3 hOR.symm 2 _
      have HI4 := Lib.hid (HI3.out.set_ 2 (.int .i64 n))
      have HR4 := Lib.hid (blk_other HR3.out hOQ.symm 2 (.int .i64 n))
      clear m3 hdg
      have hI9 := HI4.out
      have hR9 := HR4.out
      have l0 := hI9.cell 0
      have l1 := hI9.cell 1
      have l2 := hI9.cell 2
      have l3 := hI9.cell 3
      have z0 := hR9.cell 0
      have z1 := hR9.cell 1
      have z2 := hR9.cell 2
      have z3 := hR9.cell 3
      have y0 := hR9.frozen 0
      have y1 := hR9.frozen 1
      have y2 := hR9.frozen 2
      have y3 := hR9.frozen 3
      clear hI9 hR9
      go_wp2_with fail
      have V := res4_blk HR4.out (.int .u8 c.toNat) (.string ⟨#[]⟩) (.int .i64 n) (.slice (some ⟨XB, 0, none⟩) 0 0)
      have v0 := V.cell 0
      have v1 := V.cell 1
      have v2 := V.cell 2
      have v3 := V.cell 3
      unfold Res4 at v0 v1 v2 v3
      refine bodyPost_ret (v := .agg #[.int .u8 c.toNat, .string ⟨#[]⟩, .int .i64 n, .slice (some ⟨XB, 0, none⟩) 0 0]) (by simp [results, Tryz.results85, go_sem, v0, v1, v2, v3]) rfl ?_
      clear v0 v1 v2 v3 V
      refine .inl ⟨.set n, p + 1 + 1, _, _, _, by rw [HD.out, HDG.out.2.2, HC.out]; exact rd_set HDG.out.1 (.inr trivial), by omega, HDG.out.2.1, by rw [HC.out]; rfl, by rw [MBodAt]; exact ⟨_, _, rfl, fun h => absurd h (by simp)⟩, res4_far HM4.out hQR.symm _ _ _ _, res4_only (only_obj (((only_below HST.out.below).trans (Only.set R wc 1 _)).trans O3.out) (Nat.le_of_lt hlO) 2 _) (Nat.le_refl _) _ _ _ _⟩
    | none =>
      rw [hdg] at q3
      obtain ⟨rfl, m3⟩ := q3
      have HM3 := Lib.hid m3
      have HDG := Lib.hid (digAt_none hdg)
      have f2 := HI3.out.frozen 2
      have j2 := HI3.out.cell 2
      have HM4 : Hid (Mrd (w3.setCell ⟨OB, 2, none⟩ (.int .i64 0)) R tx (p + 1) true f) := blk_other m3 hOR.symm 2 _
      have HI4 := Lib.hid (HI3.out.set_ 2 (.int .i64 0))
      have HR4 := Lib.hid (blk_other HR3.out hOQ.symm 2 (.int .i64 0))
      have HNO := Lib.hid (show NoI f (tx.drop p) by rw [HD.out, HC.out]; exact noI_set fun n u h10 => HDG.out n u h10)
      clear m3 hdg
      have hI9 := HI4.out
      have hR9 := HR4.out
      have l0 := hI9.cell 0
      have l1 := hI9.cell 1
      have l2 := hI9.cell 2
      have l3 := hI9.cell 3
      have z0 := hR9.cell 0
      have z1 := hR9.cell 1
      have z2 := hR9.cell 2
      have z3 := hR9.cell 3
      have y0 := hR9.frozen 0
      have y1 := hR9.frozen 1
      have y2 := hR9.frozen 2
      have y3 := hR9.frozen 3
      clear hI9 hR9
      go_wp2_with fail
      have V := res4_blk HR4.out (.int .u8 c.toNat) (.string ⟨#[]⟩) (.int .i64 0) (.slice (some ⟨XB, 0, none⟩) 0 0)
      have v0 := V.cell 0
      have v1 := V.cell 1
      have v2 := V.cell 2
      have v3 := V.cell 3
      unfold Res4 at v0 v1 v2 v3
      refine bodyPost_ret (v := .agg #[.int .u8 c.toNat, .string ⟨#[]⟩, .int .i64 0, .slice (some ⟨XB, 0, none⟩) 0 0]) (by simp [results, Tryz.results85, go_sem, v0, v1, v2, v3]) rfl ?_
      clear v0 v1 v2 v3 V
      refine .inr ⟨c.toNat, ⟨#[]⟩, 0, _, _, _, p + 1, HNO.out, by have := HXZ.out; omega, rfl, res4_far HM4.out hQR.symm _ _ _ _, res4_only (only_obj (((only_below HST.out.below).trans (Only.set R wc 1 _)).trans O3.out) (Nat.le_of_lt hlO) 2 _) (Nat.le_refl _) _ _ _ _⟩
end Go.Proofs.YtgkamcnbpiipoaaGreat

/-
  The model's reader: an item of one kind: leave.
-/
namespace Go.Proofs.YtgkamcnbpiipoaaGreat
open Go.RowKit Go.Sort

set_option maxRecDepth 100000 in
set_option maxHeartbeats 1600000 in
theorem mitem_leave (R f p : Nat) (tx : List UInt8) (c : UInt8) (w : World) (hc : c = 94) (hat : tx[p]? = some c) (htx : tx.length ≤ 1048576) (h : Mrd w R tx p false f) :
    Calls Tryz.prog 85 #[.pointer (some ⟨R, 0, none⟩)] w (MItemPost R f tx p w) := by
  have c0 := Blk.cell h 0
  obtain ⟨x, hx⟩ : ∃ x, x = tb tx := ⟨_, rfl⟩
  have hxz : x.size = tx.length := by rw [hx, tb_size]
  have hxd : x.data.toList = tx := by rw [hx, tb_data]
  have hlt : p < x.size := by have := (drop_cons (drop_at hat)).1; omega
  have hb := byte_at x p hlt
  rw [hxd, hat] at hb
  have hxp : x[p] = c := (Option.some.inj hb).symm
  have d0 : w.cell? ⟨R, 0, none⟩ = some (.string x) := by rw [hx]; exact c0
  have d1 : w.cell? ⟨R, 1, none⟩ = some (.int .i64 p) := Blk.cell h 1
  have HXP := Lib.hid hxp
  have HXZ := Lib.hid hxz
  have HX := Lib.hid hx
  have HD := Lib.hid (drop_at hat)
  have H := Lib.hid h
  have hR := h.lt
  have hR1 : R < w.heap.size + 1 := by omega
  have hR2 : R < w.heap.size + 1 + 1 := by omega
  have hp1 : p + 1 ≤ 1048576 := by omega
  have e1 : ((p + 1 : Nat) : Int) = (p : Int) + 1 := by omega
  have HE := Lib.hid e1
  clear hb hxd hx c0 hxp hxz h hat e1
  have e46 : ((c.toNat : Int) == 46) = false := by rw [hc]; rfl
  have e63 : ((c.toNat : Int) == 63) = false := by rw [hc]; rfl
  have e40 : ((c.toNat : Int) == 40) = false := by rw [hc]; rfl
  have e123 : ((c.toNat : Int) == 123) = false := by rw [hc]; rfl
  have e94 : ((c.toNat : Int) == 94) = true := by rw [hc]; rfl
  have e61 : ((c.toNat : Int) == 61) = false := by rw [hc]; rfl
  have e35 : ((c.toNat : Int) == 35) = false := by rw [hc]; rfl
  have HL := Lib.hid (fun W => (by have := letter_any c W; rw [show letB c = false by rw [hc]; rfl] at this; exact this : Calls Tryz.prog 45 #[.int .u8 c.toNat] W fun e w' => e = .returned (.bool false) ∧ W = w'))
  have HC := Lib.hid hc
  clear hc
  have HG := Lib.hid (fun W (k : Mrd W R tx (p + 1) false f) => mdigit_any R (p + 1) f tx W (by omega) k)
  go_enter Tryz.func85, Tryz.ntmps85
  go_upto_region 1 with fail
  go_cut [3] (fun s3 wx => ∃ OB XB, s3 = .pointer (some ⟨OB, 0, none⟩) ∧ Begun w c OB XB wx)
  case first =>
    go_region
    all_goals (go_wp2_with fail; go_meet)
    all_goals rw [HXP.out]
    case rel => exact ⟨_, _, rfl, begun_a w c⟩
    case rel => exact ⟨_, _, rfl, begun_b w c⟩
  case rest =>
    obtain ⟨OB, XB, rfl, hst⟩ := hcut
    clear d0 d1
    have hlO := hst.ltO
    have hOR : OB ≠ R := by omega
    have hQR : w.heap.size ≠ R := by omega
    have hOQ : OB ≠ w.heap.size := by omega
    have k0 : wc.cell? ⟨OB, 0, none⟩ = some (.int .u8 c.toNat) := hst.item.cell 0
    have hm : Mrd wc R tx p false f := Blk.below H.out hst.below hR
    have d0 : wc.cell? ⟨R, 0, none⟩ = some (.string x) := by rw [HX.out]; exact Blk.cell hm 0
    have d1 : wc.cell? ⟨R, 1, none⟩ = some (.int .i64 p) := Blk.cell hm 1
    have g1 : wc.frozen? ⟨R, 1, none⟩ = false := Blk.frozen hm 1
    have m1 : Mrd (wc.setCell ⟨R, 1, none⟩ (.int .i64 ((p : Int) + 1))) R tx (p + 1) false f := by
      unfold Mrd
      rw [HE.out]; exact Blk.set_ hm 1 (.int .i64 ((p : Int) + 1))
    have i1 := blk_other hst.item hOR 1 (.int .i64 ((p : Int) + 1))
    have r1 := blk_other hst.res hQR 1 (.int .i64 ((p : Int) + 1))
    have HM1 := Lib.hid m1
    have HI1 := Lib.hid i1
    have HR1 := Lib.hid r1
    have HST := Lib.hid hst
    clear hm m1 i1 r1 hst
    go_wp2_with fail
    refine (HL.out _).mono ?_
    rintro e w2 ⟨rfl, rfl⟩
    go_wp2_with fail
    refine (HG.out _ HM1.out).mono ?_
    rintro e w3 ⟨o3, q3⟩
    have O3 := Lib.hid o3
    have hs3 := o3.size
    have hsc := HST.out.below.size
    have hOl := HST.out.item.lt
    have HI3 := Lib.hid (blk_only HI1.out o3 hOR)
    have HR3 := Lib.hid (blk_only HR1.out o3 hQR)
    clear o3 HI1 HR1
    cases hdg : digAt tx (p + 1) with
    | some n =>
      rw [hdg] at q3
      obtain ⟨rfl, m3⟩ := q3
      have HM3 := Lib.hid m3
      have HDG := Lib.hid (digAt_some hdg)
      have f2 := HI3.out.frozen 2
      have j2 := HI3.out.cell 2
      have HM4 : Hid (Mrd (w3.setCell ⟨OB, 2, none⟩ (.int .i64 n)) R tx (p + 1 + 1) false f) := blk_other m3 hOR.symm 2 _
      have HI4 := Lib.hid (HI3.out.set_ 2 (.int .i64 n))
      have HR4 := Lib.hid (blk_other HR3.out hOQ.symm 2 (.int .i64 n))
      have x2 := Blk.cell HM4.out 2
      have x3 := Blk.cell HM4.out 3
      have g2 := Blk.frozen HM4.out 2
      have y2 := HI4.out.cell 2
      clear m3 hdg
      by_cases hnf : n < f
      · have q9 : decide ((f : Int) ≤ (n : Int)) = false := decide_eq_false (by omega)
        have q8 : ¬ f ≤ n := by omega
        go_wp2_with fail
        go_region
        have HM5 : Hid (Mrd ((w3.setCell ⟨OB, 2, none⟩ (.int .i64 n)).setCell ⟨R, 2, none⟩ (.bool false)).drew R tx (p + 1 + 1) false f) := (Blk.set_ HM4.out 2 (.bool false)).drew
        have HI5 := Lib.hid (Blk.drew (blk_other HI4.out hOR 2 (.bool false)))
        have HR5 := Lib.hid (Blk.drew (blk_other HR4.out hQR 2 (.bool false)))
        have HO5 := Lib.hid (Only.drew ((only_obj (((only_below HST.out.below).trans (Only.set R wc 1 (.int .i64 ((p : Int) + 1)))).trans O3.out) (Nat.le_of_lt hlO) 2 (.int .i64 n)).trans (Only.set R _ 2 (.bool false))))
        generalize ((w3.setCell ⟨OB, 2, none⟩ (.int .i64 n)).setCell ⟨R, 2, none⟩ (.bool false)).drew = W5 at *
        clear x2 x3 g2 y2
        have hI9 := HI5.out
        have hR9 := HR5.out
        have l0 := hI9.cell 0
        have l1 := hI9.cell 1
        have l2 := hI9.cell 2
        have l3 := hI9.cell 3
        have z0 := hR9.cell 0
        have z1 := hR9.cell 1
        have z2 := hR9.cell 2
        have z3 := hR9.cell 3
        have y0 := hR9.frozen 0
        have y1 := hR9.frozen 1
        have y2 := hR9.frozen 2
        have y3 := hR9.frozen 3
        clear hI9 hR9
        go_wp2_with fail
        have V := res4_blk HR5.out (.int .u8 c.toNat) (.string ⟨#[]⟩) (.int .i64 n) (.slice (some ⟨XB, 0, none⟩) 0 0)
        have v0 := V.cell 0
        have v1 := V.cell 1
        have v2 := V.cell 2
        have v3 := V.cell 3
        unfold Res4 at v0 v1 v2 v3
        refine bodyPost_ret (v := .agg #[.int .u8 c.toNat, .string ⟨#[]⟩, .int .i64 n, .slice (some ⟨XB, 0, none⟩) 0 0]) (by simp [results, Tryz.results85, go_sem, v0, v1, v2, v3]) rfl ?_
        clear v0 v1 v2 v3 V
        refine .inl ⟨.leave n, p + 1 + 1, _, _, _, by rw [HD.out, HDG.out.2.2, HC.out]; exact rd_leave hnf HDG.out.1 (.inr trivial), by omega, HDG.out.2.1, by rw [HC.out]; rfl, by rw [MBodAt]; exact ⟨_, _, rfl, fun h => absurd h (by simp)⟩, res4_far HM5.out hQR.symm _ _ _ _, res4_only HO5.out (Nat.le_refl _) _ _ _ _⟩

      · have q9 : decide ((f : Int) ≤ (n : Int)) = true := decide_eq_true (by omega)
        have q8 : f ≤ n := by omega
        have HNO := Lib.hid (show NoI f (tx.drop p) by rw [HD.out, HC.out]; exact noI_leave fun m u hm h10 e => by rw [HDG.out.2.2] at e; have := dig_inj HDG.out.1 h10 (List.cons.inj e).1; omega)
        go_wp2_with fail
        go_region
        have HM5 : Hid (Mrd ((w3.setCell ⟨OB, 2, none⟩ (.int .i64 n)).setCell ⟨R, 2, none⟩ (.bool true)).drew R tx (p + 1 + 1) true f) := (Blk.set_ HM4.out 2 (.bool true)).drew
        have HI5 := Lib.hid (Blk.drew (blk_other HI4.out hOR 2 (.bool true)))
        have HR5 := Lib.hid (Blk.drew (blk_other HR4.out hQR 2 (.bool true)))
        have HO5 := Lib.hid (Only.drew ((only_obj (((only_below HST.out.below).trans (Only.set R wc 1 (.int .i64 ((p : Int) + 1)))).trans O3.out) (Nat.le_of_lt hlO) 2 (.int .i64 n)).trans (Only.set R _ 2 (.bool true))))
        generalize ((w3.setCell ⟨OB, 2, none⟩ (.int .i64 n)).setCell ⟨R, 2, none⟩ (.bool true)).drew = W5 at *
        clear x2 x3 g2 y2
        have hI9 := HI5.out
        have hR9 := HR5.out
        have l0 := hI9.cell 0
        have l1 := hI9.cell 1
        have l2 := hI9.cell 2
        have l3 := hI9.cell 3
        have z0 := hR9.cell 0
        have z1 := hR9.cell 1
        have z2 := hR9.cell 2
        have z3 := hR9.cell 3
        have y0 := hR9.frozen 0
        have y1 := hR9.frozen 1
        have y2 := hR9.frozen 2
        have y3 := hR9.frozen 3
        clear hI9 hR9
        go_wp2_with fail
        have V := res4_blk HR5.out (.int .u8 c.toNat) (.string ⟨#[]⟩) (.int .i64 n) (.slice (some ⟨XB, 0, none⟩) 0 0)
        have v0 := V.cell 0
        have v1 := V.cell 1
        have v2 := V.cell 2
        have v3 := V.cell 3
        unfold Res4 at v0 v1 v2 v3
        refine bodyPost_ret (v := .agg #[.int .u8 c.toNat, .string ⟨#[]⟩, .int .i64 n, .slice (some ⟨XB, 0, none⟩) 0 0]) (by simp [results, Tryz.results85, go_sem, v0, v1, v2, v3]) rfl ?_
        clear v0 v1 v2 v3 V
        refine .inr ⟨c.toNat, ⟨#[]⟩, n, _, _, _, p + 1 + 1, HNO.out, by have := HXZ.out; omega, rfl, res4_far HM5.out hQR.symm _ _ _ _, res4_only HO5.out (Nat.le_refl _) _ _ _ _⟩

    | none =>
      rw [hdg] at q3
      obtain ⟨rfl, m3⟩ := q3
      have HM3 := Lib.hid m3
      have HDG := Lib.hid (digAt_none hdg)
      have f2 := HI3.out.frozen 2
      have j2 := HI3.out.cell 2
      have HM4 : Hid (Mrd (w3.setCell ⟨OB, 2, none⟩ (.int .i64 0)) R tx (p + 1) true f) := blk_other m3 hOR.symm 2 _
      have HI4 := Lib.hid (HI3.out.set_ 2 (.int .i64 0))
      have HR4 := Lib.hid (blk_other HR3.out hOQ.symm 2 (.int .i64 0))
      have HNO := Lib.hid (show NoI f (tx.drop p) by rw [HD.out, HC.out]; exact noI_leave fun n u _ h10 => HDG.out n u h10)
      have x2 := Blk.cell HM4.out 2
      have g2 := Blk.frozen HM4.out 2
      clear m3 hdg
      go_wp2_with fail
      go_region
      have HM5 : Hid (Mrd ((w3.setCell ⟨OB, 2, none⟩ (.int .i64 0)).setCell ⟨R, 2, none⟩ (.bool true)).drew R tx (p + 1) true f) := Blk.drew (Blk.set_ HM4.out 2 (.bool true))
      have HI5 := Lib.hid (Blk.drew (blk_other HI4.out hOR 2 (.bool true)))
      have HR5 := Lib.hid (Blk.drew (blk_other HR4.out hQR 2 (.bool true)))
      have HO5 := Lib.hid (Only.drew ((only_obj (((only_below HST.out.below).trans (Only.set R wc 1 (.int .i64 ((p : Int) + 1)))).trans O3.out) (Nat.le_of_lt hlO) 2 (.int .i64 0)).trans (Only.set R _ 2 (.bool true))))
      generalize ((w3.setCell ⟨OB, 2, none⟩ (.int .i64 0)).setCell ⟨R, 2, none⟩ (.bool true)).drew = W5 at *
      clear x2 g2
      have hI9 := HI5.out
      have hR9 := HR5.out
      have l0 := hI9.cell 0
      have l1 := hI9.cell 1
      have l2 := hI9.cell 2
      have l3 := hI9.cell 3
      have z0 := hR9.cell 0
      have z1 := hR9.cell 1
      have z2 := hR9.cell 2
      have z3 := hR9.cell 3
      have y0 := hR9.frozen 0
      have y1 := hR9.frozen 1
      have y2 := hR9.frozen 2
      have y3 := hR9.frozen 3
      clear hI9 hR9
      go_wp2_with fail
      have V := res4_blk HR5.out (.int .u8 c.toNat) (.string ⟨#[]⟩) (.int .i64 0) (.slice (some ⟨XB, 0, none⟩) 0 0)
      have v0 := V.cell 0
      have v1 := V.cell 1
      have v2 := V.cell 2
      have v3 := V.cell 3
      unfold Res4 at v0 v1 v2 v3
      refine bodyPost_ret (v := .agg #[.int .u8 c.toNat, .string ⟨#[]⟩, .int .i64 0, .slice (some ⟨XB, 0, none⟩) 0 0]) (by simp [results, Tryz.results85, go_sem, v0, v1, v2, v3]) rfl ?_
      clear v0 v1 v2 v3 V
      refine .inr ⟨c.toNat, ⟨#[]⟩, 0, _, _, _, p + 1, HNO.out, by have := HXZ.out; omega, rfl, res4_far HM5.out hQR.symm _ _ _ _, res4_only HO5.out (Nat.le_refl _) _ _ _ _⟩

end Go.Proofs.YtgkamcnbpiipoaaGreat
