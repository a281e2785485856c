/-
  The model's reader: a block that asks, whose name is none.
-/
import Derived.Test.YtgkamcnbpiipoaaGreatMMade
import Derived.Deep.QuietTactic
namespace Go.Proofs.YtgkamcnbpiipoaaGreat
open Go.RowKit Go.Sort

/-- What within hands back, in one piece. -/
def WiOut (R f : Nat) (tx : List UInt8) (p : Nat) (b c : UInt8) (bad : Bool) (w : World) (e : Ending) (w' : World) : Prop :=
  ∃ A m k, e = .returned (.slice A m k) ∧ Hid (Only R w w') ∧ Hid ((bad = false ∧ ∃ l p', OkL l f ∧ tx.drop p = b :: (txL l ++ c :: tx.drop p') ∧ p < p' ∧ p' ≤ tx.length ∧ MRowAt w' (NewIn w) l (.slice A m k) ∧ Mrd w' R tx p' false f) ∨ (∃ p', (bad = false → ∀ l r, OkL l f → tx.drop p ≠ b :: (txL l ++ c :: r)) ∧ (bad = false → p' + 3 * p ≤ 4 * tx.length + 2) ∧ (bad = true → p' = p + 2) ∧ Mrd w' R tx p' true f))
theorem mwithin_out (n : Nat) (HB : MBodyOk n) (R f p : Nat) (tx : List UInt8) (b c : UInt8) (w : World) (hc : c = 41 ∨ c = 125 ∨ c = 93) (hn : tx.length - p ≤ n + 1) (hp : p ≤ tx.length) (htx : tx.length ≤ 1048576) (hf : f ≤ 9) (h : Mrd w R tx p false f) :
    Calls Tryz.prog 100 #[.pointer (some ⟨R, 0, none⟩), .int .u8 b.toNat, .int .u8 c.toNat] w (WiOut R f tx p b c false w) := by
  refine (mwithin_any n HB R f p tx b c w hc hn hp htx hf h).mono ?_
  rintro e w' (⟨l, p', A, m, k, h2, h3, h4, h5, rfl, h6, h7, h8⟩ | ⟨A, m, k, p', h1, h2, rfl, h3, h4⟩)
  · exact ⟨A, m, k, rfl, h8, .inl ⟨rfl, l, p', h2, h3, h4, h5, h6, h7⟩⟩
  · exact ⟨A, m, k, rfl, h4, .inr ⟨p', fun _ => h1, fun _ => h2, (fun e => by cases e), h3⟩⟩
theorem mwithin_out_bad (R f p : Nat) (tx : List UInt8) (b c : UInt8) (w : World) (hp : p ≤ 8388600) (h : Mrd w R tx p true f) :
    Calls Tryz.prog 100 #[.pointer (some ⟨R, 0, none⟩), .int .u8 b.toNat, .int .u8 c.toNat] w (WiOut R f tx p b c true w) := by
  refine (mwithin_bad R f p tx b c w hp h).mono ?_
  rintro e w' ⟨A, m, k, rfl, h1, h2⟩
  exact ⟨A, m, k, rfl, h2, .inr ⟨p + 2, (fun e => by cases e), (fun e => by cases e), fun _ => rfl, h1⟩⟩

set_option maxRecDepth 100000 in
set_option maxHeartbeats 1600000 in
theorem mitem_ask_no (R f p : Nat) (tx : List UInt8) (c : UInt8) (w : World) (hc : c = 63) (hat : tx[p]? = some c) (hno : ∀ b, tx[p + 1]? = some b → letB b = false) (htx : tx.length ≤ 1048576) (h : Mrd w R tx p false f) :
    Calls Tryz.prog 85 #[.pointer (some ⟨R, 0, none⟩)] w (MItemPost R f tx p w) := by
  have c0 := Blk.cell h 0
  obtain ⟨x, hx⟩ : ∃ x, x = tb tx := ⟨_, rfl⟩
  have hxz : x.size = tx.length := by rw [hx, tb_size]
  have hxd : x.data.toList = tx := by rw [hx, tb_data]
  have hlt : p < x.size := by have := (drop_cons (drop_at hat)).1; omega
  have hb := byte_at x p hlt
  rw [hxd, hat] at hb
  have hxp : x[p] = c := (Option.some.inj hb).symm
  have d0 : w.cell? ⟨R, 0, none⟩ = some (.string x) := by rw [hx]; exact c0
  have d1 : w.cell? ⟨R, 1, none⟩ = some (.int .i64 p) := Blk.cell h 1
  have HXP := Lib.hid hxp
  have HXZ := Lib.hid hxz
  have HX := Lib.hid hx
  have HD := Lib.hid (drop_at hat)
  have H := Lib.hid h
  have hR := h.lt
  have hR1 : R < w.heap.size + 1 := by omega
  have hR2 : R < w.heap.size + 1 + 1 := by omega
  have hp1 : p + 1 ≤ 1048576 := by omega
  have e1 : ((p + 1 : Nat) : Int) = (p : Int) + 1 := by omega
  have HE := Lib.hid e1
  clear hb hxd hx c0 hxp hxz h hat e1
  have e46 : ((c.toNat : Int) == 46) = false := by rw [hc]; rfl
  have e63 : ((c.toNat : Int) == 63) = true := by rw [hc]; rfl
  have e40 : ((c.toNat : Int) == 40) = false := by rw [hc]; rfl
  have e123 : ((c.toNat : Int) == 123) = false := by rw [hc]; rfl
  have e94 : ((c.toNat : Int) == 94) = false := by rw [hc]; rfl
  have e61 : ((c.toNat : Int) == 61) = false := by rw [hc]; rfl
  have e35 : ((c.toNat : Int) == 35) = false := by rw [hc]; rfl
  have HL := Lib.hid (fun W => (by have := letter_any c W; rw [show letB c = false by rw [hc]; rfl] at this; exact this : Calls Tryz.prog 45 #[.int .u8 c.toNat] W fun e w' => e = .returned (.bool false) ∧ W = w'))
  have HC := Lib.hid hc
  have HNB := Lib.hid hno
  have hxd2 : x.data.toList = tx := by rw [HX.out, tb_data]
  have HXD := Lib.hid hxd2
  have s1 : ((p : Int) + 1).toNat = p + 1 := by omega
  have s2 : (0 : Int) ≤ (p : Int) + 1 := by omega
  have HNO : Hid (NoI f (tx.drop p)) := by
    show NoI f (tx.drop p)
    rw [HD.out, hc]
    cases hg : tx[p + 1]? with
    | none =>
      have : tx.drop (p + 1) = [] := by
        apply List.drop_eq_nil_of_le
        rcases Nat.lt_or_ge (p + 1) tx.length with q | q
        · rw [List.getElem?_eq_getElem q] at hg; cases hg
        · exact q
      rw [this]; exact noI_ask_end f
    | some b => rw [drop_at hg]; exact noI_ask_name (hno b hg)
  clear hc hno hxd2
  go_enter Tryz.func85, Tryz.ntmps85
  go_upto_region 1 with fail
  go_cut [3] (fun s3 wx => ∃ OB XB, s3 = .pointer (some ⟨OB, 0, none⟩) ∧ Begun w c OB XB wx)
  case first =>
    go_region
    all_goals (go_wp2_with fail; go_meet)
    all_goals rw [HXP.out]
    case rel => exact ⟨_, _, rfl, begun_a w c⟩
    case rel => exact ⟨_, _, rfl, begun_b w c⟩
  case rest =>
    obtain ⟨OB, XB, rfl, hst⟩ := hcut
    clear d0 d1
    have hlO := hst.ltO
    have hOR : OB ≠ R := by omega
    have hQR : w.heap.size ≠ R := by omega
    have hOQ : OB ≠ w.heap.size := by omega
    have k0 : wc.cell? ⟨OB, 0, none⟩ = some (.int .u8 c.toNat) := hst.item.cell 0
    have hm : Mrd wc R tx p false f := Blk.below H.out hst.below hR
    have d0 : wc.cell? ⟨R, 0, none⟩ = some (.string x) := by rw [HX.out]; exact Blk.cell hm 0
    have d1 : wc.cell? ⟨R, 1, none⟩ = some (.int .i64 p) := Blk.cell hm 1
    have g1 : wc.frozen? ⟨R, 1, none⟩ = false := Blk.frozen hm 1
    have m1 : Mrd (wc.setCell ⟨R, 1, none⟩ (.int .i64 ((p : Int) + 1))) R tx (p + 1) false f := by
      unfold Mrd
      rw [HE.out]; exact Blk.set_ hm 1 (.int .i64 ((p : Int) + 1))
    have i1 := blk_other hst.item hOR 1 (.int .i64 ((p : Int) + 1))
    have r1 := blk_other hst.res hQR 1 (.int .i64 ((p : Int) + 1))
    have HM1 := Lib.hid m1
    have HI1 := Lib.hid i1
    have HR1 := Lib.hid r1
    have HST := Lib.hid hst
    have hM1 : Made w R tx (p + 1) false f (.int .u8 c.toNat) (.string ⟨#[]⟩) (.int .i64 0) OB [] [] (.slice (some ⟨XB, 0, none⟩) 0 0) (wc.setCell ⟨R, 1, none⟩ (.int .i64 ((p : Int) + 1))) := (hst.made H.out hR).reader hR hOR 1 _ m1
    have HMA := Lib.hid hM1
    clear hm m1 i1 r1 hst HM1 HI1 HR1 hM1
    have d0' := Blk.cell HMA.out.rd 0
    have d1' := Blk.cell HMA.out.rd 1
    have d0'' : (wc.setCell ⟨R, 1, none⟩ (.int .i64 ((p : Int) + 1))).cell? ⟨R, 0, none⟩ = some (.string x) := by rw [HX.out]; exact d0'
    have d1'' : (wc.setCell ⟨R, 1, none⟩ (.int .i64 ((p : Int) + 1))).cell? ⟨R, 1, none⟩ = some (.int .i64 ((p : Int) + 1)) := by rw [← HE.out]; exact d1'
    clear d0' d1'
    go_wp2_with fail
    refine (HL.out _).mono ?_
    rintro e w2 ⟨rfl, rfl⟩
    go_wp2_with fail
    generalize wc.setCell ⟨R, 1, none⟩ (.int .i64 ((p : Int) + 1)) = WA at *
    by_cases hlt1 : p + 1 < x.size
    · have hb1 := byte_at x (p + 1) hlt1
      have hlb : letB x[p + 1] = false := HNB.out _ (by rw [← HXD.out]; exact hb1)
      have q0 : decide ((x.size : Int) ≤ (p : Int) + 1) = false := decide_eq_false (by omega)
      have q1 : ¬ x.size ≤ p + 1 := by omega
      have q2 : (p : Int) + 1 < (x.size : Int) := by omega
      have tC := fun n => (by have := Calls.quiet_of_same ((letter_any x[p + 1] (WA.drewN n)).mono fun _ _ ⟨a, b⟩ => ⟨a, b.symm⟩); rw [hlb] at this; exact this)
      clear hb1 hlb
      go_quiet (with_reducible exact tC _)
      have HMB := Lib.hid (HMA.out.drew nq)
      generalize WA.drewN nq = WB at *
      clear tC d0'' d1''
      have x2 : WB.cell? ⟨R, 2, none⟩ = some (.bool false) := Blk.cell HMB.out.rd 2
      have x3 := Blk.frozen HMB.out.rd 2
      have HM2 := Lib.hid (HMB.out.reader (q' := p + 1) (bad' := true) hR hOR 2 (.bool true) (Blk.set_ HMB.out.rd 2 (.bool true)))
      have hI9 := HM2.out.item
      have hR9 := HM2.out.res
      have l0 := hI9.cell 0
      have l1 := hI9.cell 1
      have l2 := hI9.cell 2
      have l3 := hI9.cell 3
      have z0 := hR9.cell 0
      have z1 := hR9.cell 1
      have z2 := hR9.cell 2
      have z3 := hR9.cell 3
      have y0 := hR9.frozen 0
      have y1 := hR9.frozen 1
      have y2 := hR9.frozen 2
      have y3 := hR9.frozen 3
      clear hI9 hR9
      go_wp2_with fail
      have V := res4_blk HM2.out.res (.int .u8 c.toNat) (.string ⟨#[]⟩) (.int .i64 0) (.slice (some ⟨XB, 0, none⟩) 0 0)
      have v0 := V.cell 0
      have v1 := V.cell 1
      have v2 := V.cell 2
      have v3 := V.cell 3
      unfold Res4 at v0 v1 v2 v3
      refine bodyPost_ret (v := .agg #[.int .u8 c.toNat, .string ⟨#[]⟩, .int .i64 0, .slice (some ⟨XB, 0, none⟩) 0 0]) (by simp [results, Tryz.results85, go_sem, v0, v1, v2, v3]) rfl ?_
      clear v0 v1 v2 v3 V
      exact .inr ⟨c.toNat, ⟨#[]⟩, 0, _, _, _, p + 1, HNO.out, by have := HXZ.out; omega, rfl, res4_far HM2.out.rd hQR.symm _ _ _ _, res4_only HM2.out.only (Nat.le_refl _) _ _ _ _⟩
    · have q0 : decide ((x.size : Int) ≤ (p : Int) + 1) = true := decide_eq_true (by omega)
      have q1 : x.size ≤ p + 1 := by omega
      go_quiet (fail)
      have HMB := Lib.hid (HMA.out.drew nq)
      generalize WA.drewN nq = WB at *
      clear d0'' d1''
      have x2 : WB.cell? ⟨R, 2, none⟩ = some (.bool false) := Blk.cell HMB.out.rd 2
      have x3 := Blk.frozen HMB.out.rd 2
      have HM2 := Lib.hid (HMB.out.reader (q' := p + 1) (bad' := true) hR hOR 2 (.bool true) (Blk.set_ HMB.out.rd 2 (.bool true)))
      have hI9 := HM2.out.item
      have hR9 := HM2.out.res
      have l0 := hI9.cell 0
      have l1 := hI9.cell 1
      have l2 := hI9.cell 2
      have l3 := hI9.cell 3
      have z0 := hR9.cell 0
      have z1 := hR9.cell 1
      have z2 := hR9.cell 2
      have z3 := hR9.cell 3
      have y0 := hR9.frozen 0
      have y1 := hR9.frozen 1
      have y2 := hR9.frozen 2
      have y3 := hR9.frozen 3
      clear hI9 hR9
      go_wp2_with fail
      have V := res4_blk HM2.out.res (.int .u8 c.toNat) (.string ⟨#[]⟩) (.int .i64 0) (.slice (some ⟨XB, 0, none⟩) 0 0)
      have v0 := V.cell 0
      have v1 := V.cell 1
      have v2 := V.cell 2
      have v3 := V.cell 3
      unfold Res4 at v0 v1 v2 v3
      refine bodyPost_ret (v := .agg #[.int .u8 c.toNat, .string ⟨#[]⟩, .int .i64 0, .slice (some ⟨XB, 0, none⟩) 0 0]) (by simp [results, Tryz.results85, go_sem, v0, v1, v2, v3]) rfl ?_
      clear v0 v1 v2 v3 V
      exact .inr ⟨c.toNat, ⟨#[]⟩, 0, _, _, _, p + 1, HNO.out, by have := HXZ.out; omega, rfl, res4_far HM2.out.rd hQR.symm _ _ _ _, res4_only HM2.out.only (Nat.le_refl _) _ _ _ _⟩
end Go.Proofs.YtgkamcnbpiipoaaGreat
