/-
  The model's reader: an item of one kind: other.
-/
import Derived.Test.YtelhogeaobofpaaMItem
namespace Go.Proofs.Ytelhogeaobofpaa
open Go.RowKit Go.Sort

set_option maxRecDepth 100000 in
set_option maxHeartbeats 1600000 in
theorem mitem_other (R f p : Nat) (tx : List UInt8) (c : UInt8) (w : World) (hl : letB c = false) (hc : c ≠ 63 ∧ c ≠ 46 ∧ c ≠ 40 ∧ c ≠ 123 ∧ c ≠ 94 ∧ c ≠ 61 ∧ c ≠ 35) (hat : tx[p]? = some c) (htx : tx.length ≤ 1048576) (h : Mrd w R tx p false f) :
    Calls Try.prog 76 #[.pointer (some ⟨R, 0, none⟩)] w (MItemPost R f tx p w) := by
  have c0 := Blk.cell h 0
  obtain ⟨x, hx⟩ : ∃ x, x = tb tx := ⟨_, rfl⟩
  have hxz : x.size = tx.length := by rw [hx, tb_size]
  have hxd : x.data.toList = tx := by rw [hx, tb_data]
  have hlt : p < x.size := by have := (drop_cons (drop_at hat)).1; omega
  have hb := byte_at x p hlt
  rw [hxd, hat] at hb
  have hxp : x[p] = c := (Option.some.inj hb).symm
  have d0 : w.cell? ⟨R, 0, none⟩ = some (.string x) := by rw [hx]; exact c0
  have d1 : w.cell? ⟨R, 1, none⟩ = some (.int .i64 p) := Blk.cell h 1
  have HXP := Lib.hid hxp
  have HXZ := Lib.hid hxz
  have HX := Lib.hid hx
  have HD := Lib.hid (drop_at hat)
  have H := Lib.hid h
  have hR := h.lt
  have hR1 : R < w.heap.size + 1 := by omega
  have hR2 : R < w.heap.size + 1 + 1 := by omega
  have hp1 : p + 1 ≤ 1048576 := by omega
  have e1 : ((p + 1 : Nat) : Int) = (p : Int) + 1 := by omega
  have HE := Lib.hid e1
  clear hb hxd hx c0 hxp hxz h hat e1
  obtain ⟨n63, n46, n40, n123, n94, n61, n35⟩ := id hc
  have e46 : ((c.toNat : Int) == 46) = false := byte_ne (b := 46) n46
  have e63 : ((c.toNat : Int) == 63) = false := byte_ne (b := 63) n63
  have e40 : ((c.toNat : Int) == 40) = false := byte_ne (b := 40) n40
  have e123 : ((c.toNat : Int) == 123) = false := byte_ne (b := 123) n123
  have e94 : ((c.toNat : Int) == 94) = false := byte_ne (b := 94) n94
  have e61 : ((c.toNat : Int) == 61) = false := byte_ne (b := 61) n61
  have e35 : ((c.toNat : Int) == 35) = false := byte_ne (b := 35) n35
  have HL := Lib.hid (fun W => (by have := letter_any c W; rw [hl] at this; exact this : Calls Try.prog 82 #[.int .u8 c.toNat] W fun e w' => e = .returned (.bool false) ∧ W = w'))
  have HNO := Lib.hid (show NoI f (tx.drop p) by rw [HD.out]; exact noI_hd hl hc)
  clear hc hl n63 n46 n40 n123 n94 n61 n35
  go_enter Try.func76, Try.ntmps76
  go_upto_region 1 with fail
  go_cut [3] (fun s3 wx => ∃ OB XB, s3 = .pointer (some ⟨OB, 0, none⟩) ∧ Begun w c OB XB wx)
  case first =>
    go_region
    all_goals (go_wp2_with fail; go_meet)
    all_goals rw [HXP.out]
    case rel => exact ⟨_, _, rfl, begun_a w c⟩
    case rel => exact ⟨_, _, rfl, begun_b w c⟩
  case rest =>
    obtain ⟨OB, XB, rfl, hst⟩ := hcut
    clear d0 d1
    have hlO := hst.ltO
    have hOR : OB ≠ R := by omega
    have hQR : w.heap.size ≠ R := by omega
    have hOQ : OB ≠ w.heap.size := by omega
    have k0 : wc.cell? ⟨OB, 0, none⟩ = some (.int .u8 c.toNat) := hst.item.cell 0
    have hm : Mrd wc R tx p false f := Blk.below H.out hst.below hR
    have d0 : wc.cell? ⟨R, 0, none⟩ = some (.string x) := by rw [HX.out]; exact Blk.cell hm 0
    have d1 : wc.cell? ⟨R, 1, none⟩ = some (.int .i64 p) := Blk.cell hm 1
    have g1 : wc.frozen? ⟨R, 1, none⟩ = false := Blk.frozen hm 1
    have m1 : Mrd (wc.setCell ⟨R, 1, none⟩ (.int .i64 ((p : Int) + 1))) R tx (p + 1) false f := by
      unfold Mrd
      rw [HE.out]; exact Blk.set_ hm 1 (.int .i64 ((p : Int) + 1))
    have i1 := blk_other hst.item hOR 1 (.int .i64 ((p : Int) + 1))
    have r1 := blk_other hst.res hQR 1 (.int .i64 ((p : Int) + 1))
    have HM1 := Lib.hid m1
    have HI1 := Lib.hid i1
    have HR1 := Lib.hid r1
    have HST := Lib.hid hst
    clear hm m1 i1 r1 hst
    have g2 : wc.frozen? ⟨R, 2, none⟩ = false := Blk.frozen (Blk.below H.out HST.out.below hR) 2
    have x2 : wc.cell? ⟨R, 2, none⟩ = some (.bool false) := Blk.cell (Blk.below H.out HST.out.below hR) 2
    have HM3 : Hid (Mrd (wc.setCell ⟨R, 2, none⟩ (.bool true)) R tx p true f) := Blk.set_ (Blk.below H.out HST.out.below hR) 2 (.bool true)
    have HI3 := Lib.hid (blk_other HST.out.item hOR 2 (.bool true))
    have HR3 := Lib.hid (blk_other HST.out.res hQR 2 (.bool true))
    clear HM1 HI1 HR1
    have hI9 := HI3.out
    have hR9 := HR3.out
    have l0 := hI9.cell 0
    have l1 := hI9.cell 1
    have l2 := hI9.cell 2
    have l3 := hI9.cell 3
    have z0 := hR9.cell 0
    have z1 := hR9.cell 1
    have z2 := hR9.cell 2
    have z3 := hR9.cell 3
    have y0 := hR9.frozen 0
    have y1 := hR9.frozen 1
    have y2 := hR9.frozen 2
    have y3 := hR9.frozen 3
    clear hI9 hR9
    go_wp2_with fail
    refine (HL.out _).mono ?_
    rintro e w2 ⟨rfl, rfl⟩
    go_wp2_with fail
    have V := res4_blk HR3.out (.int .u8 c.toNat) (.string ⟨#[]⟩) (.int .i64 0) (.slice (some ⟨XB, 0, none⟩) 0 0)
    have v0 := V.cell 0
    have v1 := V.cell 1
    have v2 := V.cell 2
    have v3 := V.cell 3
    unfold Res4 at v0 v1 v2 v3
    refine bodyPost_ret (v := .agg #[.int .u8 c.toNat, .string ⟨#[]⟩, .int .i64 0, .slice (some ⟨XB, 0, none⟩) 0 0]) (by simp [results, Try.results76, go_sem, v0, v1, v2, v3]) rfl ?_
    clear v0 v1 v2 v3 V
    refine .inr ⟨c.toNat, ⟨#[]⟩, 0, _, _, _, p, HNO.out, by have := HXZ.out; omega, rfl, res4_far HM3.out hQR.symm _ _ _ _, res4_only ((only_below HST.out.below).trans (Only.set R wc 2 _)) (Nat.le_refl _) _ _ _ _⟩
end Go.Proofs.Ytelhogeaobofpaa
