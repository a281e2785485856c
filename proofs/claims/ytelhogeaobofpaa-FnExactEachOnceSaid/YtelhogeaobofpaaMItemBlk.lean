/-
  The model's reader: an item of one kind: blk.
-/
import Derived.Test.YtelhogeaobofpaaMItem
namespace Go.Proofs.Ytelhogeaobofpaa
open Go.RowKit Go.Sort

set_option maxRecDepth 100000 in
set_option maxHeartbeats 1600000 in
theorem mitem_blk (R f p : Nat) (tx : List UInt8) (c : UInt8) (w : World) (hc : letB c = true) (hat : tx[p]? = some c) (htx : tx.length ≤ 1048576) (h : Mrd w R tx p false f) :
    Calls Try.prog 76 #[.pointer (some ⟨R, 0, none⟩)] w (MItemPost R f tx p w) := by
  have c0 := Blk.cell h 0
  obtain ⟨x, hx⟩ : ∃ x, x = tb tx := ⟨_, rfl⟩
  have hxz : x.size = tx.length := by rw [hx, tb_size]
  have hxd : x.data.toList = tx := by rw [hx, tb_data]
  have hlt : p < x.size := by have := (drop_cons (drop_at hat)).1; omega
  have hb := byte_at x p hlt
  rw [hxd, hat] at hb
  have hxp : x[p] = c := (Option.some.inj hb).symm
  have d0 : w.cell? ⟨R, 0, none⟩ = some (.string x) := by rw [hx]; exact c0
  have d1 : w.cell? ⟨R, 1, none⟩ = some (.int .i64 p) := Blk.cell h 1
  have HXP := Lib.hid hxp
  have HXZ := Lib.hid hxz
  have HX := Lib.hid hx
  have HD := Lib.hid (drop_at hat)
  have H := Lib.hid h
  have hR := h.lt
  have hR1 : R < w.heap.size + 1 := by omega
  have hR2 : R < w.heap.size + 1 + 1 := by omega
  have hp1 : p + 1 ≤ 1048576 := by omega
  have e1 : ((p + 1 : Nat) : Int) = (p : Int) + 1 := by omega
  have HE := Lib.hid e1
  clear hb hxd hx c0 hxp hxz h hat e1
  have HL := Lib.hid (fun W => (by have := letter_any c W; rw [hc] at this; exact this : Calls Try.prog 82 #[.int .u8 c.toNat] W fun e w' => e = .returned (.bool true) ∧ W = w'))
  have HC := Lib.hid hc
  have HEX := Lib.hid (show x.extract p (p + 1) = tb [c] from ex_one hlt HXP.out)
  have hl1 : p ≤ p + 1 := by omega
  have hl2 : (p : Int) ≤ (p : Int) + 1 := by omega
  have hl3 : (p : Int) + 1 ≤ (x.size : Int) := by omega
  have hl4 : p + 1 ≤ x.size := by omega
  have s1 : IntKind.i64.wrap ((p : Int) + 1) = (p : Int) + 1 := IntWalk.i64_in _ (by omega)
  have s2 : ((p : Int) + 1).toNat = p + 1 := by omega
  have s3 : (0 : Int) ≤ (p : Int) + 1 := by omega
  clear hc
  go_enter Try.func76, Try.ntmps76
  go_upto_region 1 with fail
  go_cut [3] (fun s3 wx => ∃ OB XB, s3 = .pointer (some ⟨OB, 0, none⟩) ∧ Begun w c OB XB wx)
  case first =>
    go_region
    all_goals (go_wp2_with fail; go_meet)
    all_goals rw [HXP.out]
    case rel => exact ⟨_, _, rfl, begun_a w c⟩
    case rel => exact ⟨_, _, rfl, begun_b w c⟩
  case rest =>
    obtain ⟨OB, XB, rfl, hst⟩ := hcut
    clear d0 d1
    have hlO := hst.ltO
    have hOR : OB ≠ R := by omega
    have hQR : w.heap.size ≠ R := by omega
    have hOQ : OB ≠ w.heap.size := by omega
    have k0 : wc.cell? ⟨OB, 0, none⟩ = some (.int .u8 c.toNat) := hst.item.cell 0
    have hm : Mrd wc R tx p false f := Blk.below H.out hst.below hR
    have d0 : wc.cell? ⟨R, 0, none⟩ = some (.string x) := by rw [HX.out]; exact Blk.cell hm 0
    have d1 : wc.cell? ⟨R, 1, none⟩ = some (.int .i64 p) := Blk.cell hm 1
    have g1 : wc.frozen? ⟨R, 1, none⟩ = false := Blk.frozen hm 1
    have m1 : Mrd (wc.setCell ⟨R, 1, none⟩ (.int .i64 ((p : Int) + 1))) R tx (p + 1) false f := by
      unfold Mrd
      rw [HE.out]; exact Blk.set_ hm 1 (.int .i64 ((p : Int) + 1))
    have i1 := blk_other hst.item hOR 1 (.int .i64 ((p : Int) + 1))
    have r1 := blk_other hst.res hQR 1 (.int .i64 ((p : Int) + 1))
    have HM1 := Lib.hid m1
    have HI1 := Lib.hid i1
    have HR1 := Lib.hid r1
    have HST := Lib.hid hst
    clear hm m1 i1 r1 hst
    have f1 := HST.out.item.frozen 1
    have j1 := HST.out.item.cell 1
    go_wp2_with fail
    refine (HL.out _).mono ?_
    rintro e w2 ⟨rfl, rfl⟩
    go_wp2_with fail
    go_region
    have i1 : Blk (wc.setCell ⟨OB, 1, none⟩ (.string (x.extract p (p + 1)))).drew OB 46 #[.int .u8 c.toNat, .string (x.extract p (p + 1)), .int .i64 0, .slice (some ⟨XB, 0, none⟩) 0 0] := (HST.out.item.set_ 1 (.string (x.extract p (p + 1)))).drew
    have m1 : Mrd (wc.setCell ⟨OB, 1, none⟩ (.string (x.extract p (p + 1)))).drew R tx p false f := Blk.drew (blk_other (Blk.below H.out HST.out.below hR) hOR.symm 1 _)
    have r1 := Blk.drew (blk_other HST.out.res hOQ.symm 1 (.string (x.extract p (p + 1))))
    have o1 := Only.drew (only_obj (only_below (R := R) HST.out.below) (Nat.le_of_lt hlO) 1 (.string (x.extract p (p + 1))))
    obtain ⟨W1, hW1⟩ : ∃ W1, W1 = (wc.setCell ⟨OB, 1, none⟩ (.string (x.extract p (p + 1)))).drew := ⟨_, rfl⟩
    rw [← hW1] at i1 m1 r1 o1 ⊢
    have b0 := i1.cell 0
    have b1 := i1.frozen 0
    have i2 : Blk (W1.setCell ⟨OB, 0, none⟩ (.int .u8 88)) OB 46 #[.int .u8 88, .string (x.extract p (p + 1)), .int .i64 0, .slice (some ⟨XB, 0, none⟩) 0 0] := i1.set_ 0 (.int .u8 88)
    have m2 : Mrd (W1.setCell ⟨OB, 0, none⟩ (.int .u8 88)) R tx p false f := blk_other m1 hOR.symm 0 _
    have r2 := blk_other r1 hOQ.symm 0 (.int .u8 88)
    have b2 := Blk.cell m2 1
    have b3 := Blk.frozen m2 1
    have HM3 : Hid (Mrd ((W1.setCell ⟨OB, 0, none⟩ (.int .u8 88)).setCell ⟨R, 1, none⟩ (.int .i64 ((p : Int) + 1))) R tx (p + 1) false f) := by
      show Mrd _ _ _ _ _ _
      unfold Mrd
      rw [HE.out]; exact Blk.set_ m2 1 (.int .i64 ((p : Int) + 1))
    have HI3 := Lib.hid (blk_other i2 hOR 1 (.int .i64 ((p : Int) + 1)))
    have HR3 := Lib.hid (blk_other r2 hQR 1 (.int .i64 ((p : Int) + 1)))
    have HO3 := Lib.hid (only_obj o1 (Nat.le_of_lt hlO) 0 (.int .u8 88))
    clear i1 m1 r1 o1 i2 m2 r2 d0 d1 g1 k0 j1 f1 hW1
    have hI9 := HI3.out
    have hR9 := HR3.out
    have l0 := hI9.cell 0
    have l1 := hI9.cell 1
    have l2 := hI9.cell 2
    have l3 := hI9.cell 3
    have z0 := hR9.cell 0
    have z1 := hR9.cell 1
    have z2 := hR9.cell 2
    have z3 := hR9.cell 3
    have y0 := hR9.frozen 0
    have y1 := hR9.frozen 1
    have y2 := hR9.frozen 2
    have y3 := hR9.frozen 3
    clear hI9 hR9
    go_wp2_with fail
    have V := res4_blk HR3.out (.int .u8 88) (.string (x.extract p (p + 1))) (.int .i64 0) (.slice (some ⟨XB, 0, none⟩) 0 0)
    have v0 := V.cell 0
    have v1 := V.cell 1
    have v2 := V.cell 2
    have v3 := V.cell 3
    unfold Res4 at v0 v1 v2 v3
    refine bodyPost_ret (v := .agg #[.int .u8 88, .string (x.extract p (p + 1)), .int .i64 0, .slice (some ⟨XB, 0, none⟩) 0 0]) (by simp [results, Try.results76, go_sem, v0, v1, v2, v3]) rfl ?_
    clear v0 v1 v2 v3 V
    refine .inl ⟨.blk c, p + 1, _, _, _, by rw [HD.out]; exact rd_blk HC.out (.inr trivial), by omega, by have := HXZ.out; omega, by rw [HEX.out]; rfl, by rw [MBodAt]; exact ⟨_, _, rfl, fun h => absurd h (by simp)⟩, res4_far HM3.out hQR.symm _ _ _ _, res4_only (HO3.out.trans (Only.set R _ 1 _)) (Nat.le_refl _) _ _ _ _⟩
end Go.Proofs.Ytelhogeaobofpaa
