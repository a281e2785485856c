/-
  The model's reader: a block that asks.
-/
import Derived.Test.YtgkamcnbpiipoaaGreatMItemAsk
namespace Go.Proofs.YtgkamcnbpiipoaaGreat
open Go.RowKit Go.Sort

/-- Between the two rows of a block that asks. -/
def AskMid (w : World) (R : Nat) (tx : List UInt8) (p f : Nat) (c b : UInt8) (OB : Nat) (wx : World) : Prop :=
  ∃ l u gg cap q bad, Made w R tx q bad f (.int .u8 c.toNat) (.string (tb [b])) (.int .i64 0) OB [l] [u] (.slice (some ⟨gg, 0, none⟩) 1 cap) wx ∧
    (bad = false → OkL l f ∧ tx.drop (p + 2) = 91 :: (txL l ++ 93 :: tx.drop q) ∧ p + 2 < q ∧ q ≤ tx.length) ∧ (bad = true → NoI f (tx.drop p) ∧ q + 3 * (p + 2) ≤ 4 * tx.length + 2)
theorem AskMid.drew {w : World} {R : Nat} {tx : List UInt8} {p f : Nat} {c b : UInt8} {OB : Nat} {wx : World} (h : AskMid w R tx p f c b OB wx) (n : Nat) : AskMid w R tx p f c b OB (wx.drewN n) := by
  obtain ⟨l, u, gg, cap, q, bad, h1, h2, h3⟩ := h
  exact ⟨l, u, gg, cap, q, bad, h1.drew n, h2, h3⟩

set_option maxRecDepth 100000 in
set_option maxHeartbeats 3200000 in
theorem mitem_ask_yes (n : Nat) (HB : MBodyOk n) (R f p : Nat) (tx : List UInt8) (c b : UInt8) (w : World) (hc : c = 63) (hat : tx[p]? = some c) (hb : tx[p + 1]? = some b) (hlb : letB b = true) (hn : tx.length - p ≤ n + 1) (htx : tx.length ≤ 1048576) (hf : f ≤ 9) (h : Mrd w R tx p false f) :
    Calls Tryz.prog 85 #[.pointer (some ⟨R, 0, none⟩)] w (MItemPost R f tx p w) := by
  have hd1 := drop_at hb
  have hlen1 := (drop_cons hd1).1
  have hdd : tx.drop p = 63 :: b :: tx.drop (p + 2) := by rw [drop_at hat, hc, hd1]
  have HDD := Lib.hid hdd
  have HLB := Lib.hid hlb
  have HW1 := Lib.hid (fun W (k : Mrd W R tx (p + 2) false f) => (mwithin_out n HB R f (p + 2) tx 91 93 W (.inr (.inr rfl)) (by omega) (by omega) htx hf k : Calls Tryz.prog 100 #[.pointer (some ⟨R, 0, none⟩), .int .u8 91, .int .u8 93] W (WiOut R f tx (p + 2) 91 93 false W)))
  have HW2 := Lib.hid (fun q bad W (hq : bad = false → q ≤ tx.length ∧ p + 2 < q) (hq2 : bad = true → q ≤ 8388600) (k : Mrd W R tx q bad f) => (by
    cases bad with
    | false => exact mwithin_out n HB R f q tx 91 93 W (.inr (.inr rfl)) (by have := hq rfl; omega) (hq rfl).1 htx hf k
    | true => exact mwithin_out_bad R f q tx 91 93 W (hq2 rfl) k : Calls Tryz.prog 100 #[.pointer (some ⟨R, 0, none⟩), .int .u8 91, .int .u8 93] W (WiOut R f tx q 91 93 bad W)))
  have c0 := Blk.cell h 0
  obtain ⟨x, hx⟩ : ∃ x, x = tb tx := ⟨_, rfl⟩
  have hxz : x.size = tx.length := by rw [hx, tb_size]
  have hxd : x.data.toList = tx := by rw [hx, tb_data]
  have hlt : p < x.size := by have := (drop_cons (drop_at hat)).1; omega
  have hb := byte_at x p hlt
  rw [hxd, hat] at hb
  have hxp : x[p] = c := (Option.some.inj hb).symm
  have d0 : w.cell? ⟨R, 0, none⟩ = some (.string x) := by rw [hx]; exact c0
  have d1 : w.cell? ⟨R, 1, none⟩ = some (.int .i64 p) := Blk.cell h 1
  have HXP := Lib.hid hxp
  have HXZ := Lib.hid hxz
  have HX := Lib.hid hx
  have HD := Lib.hid (drop_at hat)
  have H := Lib.hid h
  have hR := h.lt
  have hR1 : R < w.heap.size + 1 := by omega
  have hR2 : R < w.heap.size + 1 + 1 := by omega
  have hp1 : p + 1 ≤ 1048576 := by omega
  have e1 : ((p + 1 : Nat) : Int) = (p : Int) + 1 := by omega
  have HE := Lib.hid e1
  clear hb hxd hx c0 hxp hxz h hat e1
  have e46 : ((c.toNat : Int) == 46) = false := by rw [hc]; rfl
  have e63 : ((c.toNat : Int) == 63) = true := by rw [hc]; rfl
  have e40 : ((c.toNat : Int) == 40) = false := by rw [hc]; rfl
  have e123 : ((c.toNat : Int) == 123) = false := by rw [hc]; rfl
  have e94 : ((c.toNat : Int) == 94) = false := by rw [hc]; rfl
  have e61 : ((c.toNat : Int) == 61) = false := by rw [hc]; rfl
  have e35 : ((c.toNat : Int) == 35) = false := by rw [hc]; rfl
  have HL := Lib.hid (fun W => (by have := letter_any c W; rw [show letB c = false by rw [hc]; rfl] at this; exact this : Calls Tryz.prog 45 #[.int .u8 c.toNat] W fun e w' => e = .returned (.bool false) ∧ W = w'))
  have HC := Lib.hid hc
  have hlt1 : p + 1 < x.size := by have := HXZ.out; omega
  have hxd2 : x.data.toList = tx := by rw [HX.out, tb_data]
  have hb1 := byte_at x (p + 1) hlt1
  rw [hxd2, hb] at hb1
  have hxb : x[p + 1] = b := (Option.some.inj hb1).symm
  have s1 : ((p : Int) + 1).toNat = p + 1 := by omega
  have s2 : (0 : Int) ≤ (p : Int) + 1 := by omega
  have q0 : decide ((x.size : Int) ≤ (p : Int) + 1) = false := decide_eq_false (by omega)
  have q1 : ¬ x.size ≤ p + 1 := by omega
  have q2 : (p : Int) + 1 < (x.size : Int) := by omega
  have HEX := Lib.hid (show x.extract (p + 1) (p + 1 + 1) = tb [b] from ex_one hlt1 hxb)
  have HXB := Lib.hid hxb
  obtain ⟨i0, hi, hz0, hz1, hz2⟩ := info_parts info_l5items
  clear hc hxd2 hb hb1 hlb hd1 hdd HB hxb
  go_enter Tryz.func85, Tryz.ntmps85
  go_upto_region 1 with fail
  go_cut [3] (fun s3 wx => ∃ OB XB, s3 = .pointer (some ⟨OB, 0, none⟩) ∧ Begun w c OB XB wx)
  case first =>
    go_region
    all_goals (go_wp2_with fail; go_meet)
    all_goals rw [HXP.out]
    case rel => exact ⟨_, _, rfl, begun_a w c⟩
    case rel => exact ⟨_, _, rfl, begun_b w c⟩
  case rest =>
    obtain ⟨OB, XB, rfl, hst⟩ := hcut
    clear d0 d1
    have hlO := hst.ltO
    have hOR : OB ≠ R := by omega
    have hQR : w.heap.size ≠ R := by omega
    have hOQ : OB ≠ w.heap.size := by omega
    have k0 : wc.cell? ⟨OB, 0, none⟩ = some (.int .u8 c.toNat) := hst.item.cell 0
    have hm : Mrd wc R tx p false f := Blk.below H.out hst.below hR
    have d0 : wc.cell? ⟨R, 0, none⟩ = some (.string x) := by rw [HX.out]; exact Blk.cell hm 0
    have d1 : wc.cell? ⟨R, 1, none⟩ = some (.int .i64 p) := Blk.cell hm 1
    have g1 : wc.frozen? ⟨R, 1, none⟩ = false := Blk.frozen hm 1
    have m1 : Mrd (wc.setCell ⟨R, 1, none⟩ (.int .i64 ((p : Int) + 1))) R tx (p + 1) false f := by
      unfold Mrd
      rw [HE.out]; exact Blk.set_ hm 1 (.int .i64 ((p : Int) + 1))
    have i1 := blk_other hst.item hOR 1 (.int .i64 ((p : Int) + 1))
    have r1 := blk_other hst.res hQR 1 (.int .i64 ((p : Int) + 1))
    have HM1 := Lib.hid m1
    have HI1 := Lib.hid i1
    have HR1 := Lib.hid r1
    have HST := Lib.hid hst
    have hM1 : Made w R tx (p + 1) false f (.int .u8 c.toNat) (.string ⟨#[]⟩) (.int .i64 0) OB [] [] (.slice (some ⟨XB, 0, none⟩) 0 0) (wc.setCell ⟨R, 1, none⟩ (.int .i64 ((p : Int) + 1))) := (hst.made H.out hR).reader hR hOR 1 _ m1
    have HMA := Lib.hid hM1
    clear hm m1 i1 r1 hst HM1 HI1 HR1 hM1
    have d0' := Blk.cell HMA.out.rd 0
    have d1' := Blk.cell HMA.out.rd 1
    have d0'' : (wc.setCell ⟨R, 1, none⟩ (.int .i64 ((p : Int) + 1))).cell? ⟨R, 0, none⟩ = some (.string x) := by rw [HX.out]; exact d0'
    have d1'' : (wc.setCell ⟨R, 1, none⟩ (.int .i64 ((p : Int) + 1))).cell? ⟨R, 1, none⟩ = some (.int .i64 ((p : Int) + 1)) := by rw [← HE.out]; exact d1'
    clear d0' d1'
    go_wp2_with fail
    refine (HL.out _).mono ?_
    rintro e w2 ⟨rfl, rfl⟩
    go_wp2_with fail
    generalize wc.setCell ⟨R, 1, none⟩ (.int .i64 ((p : Int) + 1)) = WA at *
    have tC := fun n => (by have := Calls.quiet_of_same ((letter_any x[p + 1] (WA.drewN n)).mono fun _ _ ⟨a, b⟩ => ⟨a, b.symm⟩); rw [show letB x[p + 1] = true by rw [HXB.out]; exact HLB.out] at this; exact this)
    go_quiet (with_reducible exact tC _)
    have HMB := Lib.hid (HMA.out.drew nq)
    have d0 : (WA.drewN nq).cell? ⟨R, 0, none⟩ = some (.string x) := d0''
    have d1 : (WA.drewN nq).cell? ⟨R, 1, none⟩ = some (.int .i64 ((p : Int) + 1)) := d1''
    generalize WA.drewN nq = WB at *
    clear tC d0'' d1'' HMA g1
    have hl1 : (p : Int) + 1 ≤ (p : Int) + 1 + 1 := by omega
    have hl2 : (p : Int) + 1 + 1 ≤ (x.size : Int) := by omega
    have hl3 : (0 : Int) ≤ (p : Int) + 1 + 1 := by omega
    have hl4 : ((p : Int) + 1 + 1).toNat = p + 1 + 1 := by omega
    have hl5 : IntKind.i64.wrap ((p : Int) + 1 + 1) = (p : Int) + 1 + 1 := IntWalk.i64_in _ (by omega)
    have hl6 : p + 1 + 1 ≤ x.size := by omega
    have j1 := HMB.out.item.cell 1
    have j2 := HMB.out.item.frozen 1
    go_wp2_with fail
    go_region
    have HMC : Hid (Made w R tx (p + 1) false f (.int .u8 c.toNat) (.string (tb [b])) (.int .i64 0) OB [] [] (.slice (some ⟨XB, 0, none⟩) 0 0) (WB.setCell ⟨OB, 1, none⟩ (.string (x.extract (p + 1) (p + 1 + 1)))).drew) := by
      rw [HEX.out]
      exact (HMB.out.cell 1 (.string (tb [b])) rfl hOR hlO).drew 1
    generalize (WB.setCell ⟨OB, 1, none⟩ (.string (x.extract (p + 1) (p + 1 + 1)))).drew = WC at *
    clear d0 d1 j1 j2 HMB
    have r1 : WC.cell? ⟨R, 1, none⟩ = some (.int .i64 ((p : Int) + 1)) := by rw [← HE.out]; exact Blk.cell HMC.out.rd 1
    have g1 : WC.frozen? ⟨R, 1, none⟩ = false := Blk.frozen HMC.out.rd 1
    have HMD : Hid (Made w R tx (p + 2) false f (.int .u8 c.toNat) (.string (tb [b])) (.int .i64 0) OB [] [] (.slice (some ⟨XB, 0, none⟩) 0 0) (WC.setCell ⟨R, 1, none⟩ (.int .i64 ((p : Int) + 1 + 1)))) := by
      refine HMC.out.reader hR hOR 1 _ ?_
      unfold Mrd
      rw [show ((p + 2 : Nat) : Int) = (p : Int) + 1 + 1 by omega]
      exact Blk.set_ HMC.out.rd 1 (.int .i64 ((p : Int) + 1 + 1))
    go_upto_region 16 with fail
    generalize WC.setCell ⟨R, 1, none⟩ (.int .i64 ((p : Int) + 1 + 1)) = WD at *
    clear r1 g1 HMC
    go_cut [] (fun wx => AskMid w R tx p f c b OB wx)
    case first =>
      have HME : Hid (Made w R tx (p + 2) false f (.int .u8 c.toNat) (.string (tb [b])) (.int .i64 0) OB [] [] (.slice (some ⟨XB, 0, none⟩) 0 0) WD.drew) := HMD.out.drew 1
      have q9 : WD.cell? ⟨OB, 3, none⟩ = some (.slice (some ⟨XB, 0, none⟩) 0 0) := HMD.out.item.cell 3
      go_region_law (first
        | (refine step_append_lies _ (by rfl) _ _ _ (by rfl) (w.heap.size + 1) 90 i0 _ 1 24 Tryz.underlying155 hi hz0 hz1 hz2 rfl (by omega) _ _ _ (by rfl) ((own_only HME.out.row ho2.out (by omega)).alloc _) ⟨w2.heap.size, 0, none⟩ 1 1 [.slice A2 m2 k2] (by rfl) (by rfl) (World.news_of_block (cs := #[.slice A2 m2 k2]) (t := 90) (fr := (0, 0)) (heap_alloc_new w2 _)) (by simp [Value.oneCell']) (by omega) (by unfold maxLen; simp) (by simp) ?_ (w2.heap.size + 1) (by simp) ?_
           · simp; omega
           intro gg2 capg w5 hown5 hgrow hat5 hltg
           have q6 : w5.cell? ⟨OB, 3, none⟩ = some (.slice (some ⟨XB, 0, none⟩) 0 0) := (HME.out.grown hOR ho2.out hgrow).cell 3
           have q7 := (HME.out.grown hOR ho2.out hgrow).frozen 3)
        | (go_simp; go_at_call 100; refine (HW1.out _ HME.out.rd).mono ?_; rintro e w2 ⟨A2, m2, k2, rfl, ho2, hr2⟩; have q5 : w2.cell? ⟨OB, 3, none⟩ = some (.slice (some ⟨XB, 0, none⟩) 0 0) := (blk_only HME.out.item ho2.out hOR).cell 3; have hlw : w.heap.size + 1 ≤ w2.heap.size := (by have := HME.out.only.size; have := ho2.out.size; have := HME.out.item.lt; omega); have hO2 : OB < w2.heap.size := (blk_only HME.out.item ho2.out hOR).lt)
        | fail)
      all_goals
        have HMID : Hid (AskMid w R tx p f c b OB (w5.setCell ⟨OB, 3, none⟩ (.slice (some ⟨gg2, 0, none⟩) 1 capg))) := by
          rcases hr2.out with ⟨_, l, q, hl, hdq, hpq, hq, hrow, hm⟩ | ⟨q, hno, hfar, _, hm⟩
          · exact ⟨l, _, gg2, capg, q, false, HME.out.step (l := l) hR hOR hlO ho2.out hm (fun _ => hrow) hown5 hgrow hat5, fun _ => ⟨hl, hdq, hpq, hq⟩, fun e => by cases e⟩
          · exact ⟨[], _, gg2, capg, q, true, HME.out.step (l := []) (bad' := true) hR hOR hlO ho2.out hm (fun e => by cases e) hown5 hgrow hat5, (fun e => by cases e), fun _ => ⟨by rw [HDD.out]; exact noI_ask1 fun l r k => hno rfl l r k.1 k.2, hfar rfl⟩⟩
        clear hown5 hgrow hat5 hr2 ho2 q5 q6 q7
        go_wp2_with fail
        go_meet
        exact HMID.out
    case rest =>
      obtain ⟨l, u, gg, cap, q, bad, hM, hgood, hbad⟩ := hcut
      have HMF := Lib.hid (hM.drew 1)
      have q9 := hM.item.cell 3
      clear hM HMD
      go_upto_region 17 with fail
      go_region_law (first
          | (refine step_append_lies _ (by rfl) _ _ _ (by rfl) (w.heap.size + 1) 90 i0 _ 1 24 Tryz.underlying155 hi hz0 hz1 hz2 rfl (by omega) _ _ _ (by rfl) ((own_only HMF.out.row ho2.out (by omega)).alloc _) ⟨w2.heap.size, 0, none⟩ 1 1 [.slice A2 m2 k2] (by rfl) (by rfl) (World.news_of_block (cs := #[.slice A2 m2 k2]) (t := 90) (fr := (0, 0)) (heap_alloc_new w2 _)) (by simp [Value.oneCell']) (by omega) (by unfold maxLen; simp) (by simp) ?_ (w2.heap.size + 1) (by simp) ?_
             · simp; omega
             intro gg3 capg w5 hown5 hgrow hat5 hltg
             have q6 : w5.cell? ⟨OB, 3, none⟩ = some (.slice (some ⟨gg, 0, none⟩) 1 cap) := (HMF.out.grown hOR ho2.out hgrow).cell 3
             have q7 := (HMF.out.grown hOR ho2.out hgrow).frozen 3)
          | (go_simp; go_at_call 100; refine (HW2.out q bad _ (fun e => ⟨(hgood e).2.2.2, (hgood e).2.2.1⟩) (fun e => by have := (hbad e).2; omega) HMF.out.rd).mono ?_; rintro e w2 ⟨A2, m2, k2, rfl, ho2, hr2⟩; have q5 : w2.cell? ⟨OB, 3, none⟩ = some (.slice (some ⟨gg, 0, none⟩) 1 cap) := (blk_only HMF.out.item ho2.out hOR).cell 3; have hlw : w.heap.size + 1 ≤ w2.heap.size := (by have := HMF.out.only.size; have := ho2.out.size; have := HMF.out.item.lt; omega); have hO2 : OB < w2.heap.size := (blk_only HMF.out.item ho2.out hOR).lt)
          | fail)
      all_goals
        rcases hr2.out with ⟨rfl, lr, q2, hl2, hdq2, hpq2, hq2, hrow, hm⟩ | ⟨q2, hno, hfar, hfar2, hm⟩
        · have HM := Lib.hid (HMF.out.stepG (l := lr) hR hOR hlO ho2.out hm (fun _ => hrow) hown5 hgrow hat5 (fun _ => rfl))
          obtain ⟨hl, hdq, hpq, hq⟩ := hgood rfl
          have HRD := Lib.hid (show RdI f (tx.drop p) (.ask b l lr) (tx.drop q2) by rw [HDD.out]; exact rd_ask HLB.out ⟨hl, hdq⟩ ⟨hl2, hdq2⟩ (.inr trivial))
          clear hgood hbad hdq hdq2 hrow hl hl2
          have HMR : Hid (Blk (w5.setCell ⟨OB, 3, none⟩ (.slice (some ⟨gg3, 0, none⟩) 2 capg)) w.heap.size 157 #[.int .u8 0, .string ⟨#[]⟩, .int .i64 0, .slice none 0 0]) := HM.out.res
          have HMI : Hid (Blk (w5.setCell ⟨OB, 3, none⟩ (.slice (some ⟨gg3, 0, none⟩) 2 capg)) OB 157 #[.int .u8 c.toNat, .string (tb [b]), .int .i64 0, .slice (some ⟨gg3, 0, none⟩) 2 capg]) := HM.out.item
          clear hm hown5 hgrow hat5 hr2 ho2 q5 q6 q7
          have hI9 := HMI.out
          have hR9 := HMR.out
          have l0 := hI9.cell 0
          have l1 := hI9.cell 1
          have l2 := hI9.cell 2
          have l3 := hI9.cell 3
          have z0 := hR9.cell 0
          have z1 := hR9.cell 1
          have z2 := hR9.cell 2
          have z3 := hR9.cell 3
          have y0 := hR9.frozen 0
          have y1 := hR9.frozen 1
          have y2 := hR9.frozen 2
          have y3 := hR9.frozen 3
          clear hI9 hR9
          go_wp2_with fail
          have V := res4_blk HMR.out (.int .u8 c.toNat) (.string (tb [b])) (.int .i64 0) (.slice (some ⟨gg3, 0, none⟩) 2 capg)
          have v0 := V.cell 0
          have v1 := V.cell 1
          have v2 := V.cell 2
          have v3 := V.cell 3
          unfold Res4 at v0 v1 v2 v3
          refine bodyPost_ret (v := .agg #[.int .u8 c.toNat, .string (tb [b]), .int .i64 0, .slice (some ⟨gg3, 0, none⟩) 2 capg]) (by simp [results, Tryz.results85, go_sem, v0, v1, v2, v3]) rfl ?_
          clear v0 v1 v2 v3 V
          exact .inl ⟨.ask b l lr, q2, _, _, _, HRD.out, by omega, hq2, by rw [HC.out]; rfl, HM.out.bodies rfl _ _ _ _, res4_far HM.out.rd hQR.symm _ _ _ _, res4_only HM.out.only (Nat.le_refl _) _ _ _ _⟩
        · have HM := Lib.hid (HMF.out.stepG (l := []) (bad' := true) hR hOR hlO ho2.out hm (fun e => by cases e) hown5 hgrow hat5 (fun e => by cases e))
          have HNF : Hid (NoI f (tx.drop p) ∧ q2 + 3 * p ≤ 4 * tx.length + 4) := by
            show _ ∧ _
            cases bad with
            | false =>
              obtain ⟨hl, hdq, hpq, hq⟩ := hgood rfl
              exact ⟨by rw [HDD.out]; exact noI_ask2 (⟨hl, hdq⟩ : RdB f (tx.drop (p + 2)) l (tx.drop q)) fun l' r k => hno rfl l' r k.1 k.2, by have := hfar rfl; omega⟩
            | true => exact ⟨(hbad rfl).1, by have := (hbad rfl).2; have := hfar2 rfl; omega⟩
          clear hgood hbad hno hfar hfar2
          have HMR : Hid (Blk (w5.setCell ⟨OB, 3, none⟩ (.slice (some ⟨gg3, 0, none⟩) 2 capg)) w.heap.size 157 #[.int .u8 0, .string ⟨#[]⟩, .int .i64 0, .slice none 0 0]) := HM.out.res
          have HMI : Hid (Blk (w5.setCell ⟨OB, 3, none⟩ (.slice (some ⟨gg3, 0, none⟩) 2 capg)) OB 157 #[.int .u8 c.toNat, .string (tb [b]), .int .i64 0, .slice (some ⟨gg3, 0, none⟩) 2 capg]) := HM.out.item
          clear hm hown5 hgrow hat5 hr2 ho2 q5 q6 q7
          have hI9 := HMI.out
          have hR9 := HMR.out
          have l0 := hI9.cell 0
          have l1 := hI9.cell 1
          have l2 := hI9.cell 2
          have l3 := hI9.cell 3
          have z0 := hR9.cell 0
          have z1 := hR9.cell 1
          have z2 := hR9.cell 2
          have z3 := hR9.cell 3
          have y0 := hR9.frozen 0
          have y1 := hR9.frozen 1
          have y2 := hR9.frozen 2
          have y3 := hR9.frozen 3
          clear hI9 hR9
          go_wp2_with fail
          have V := res4_blk HMR.out (.int .u8 c.toNat) (.string (tb [b])) (.int .i64 0) (.slice (some ⟨gg3, 0, none⟩) 2 capg)
          have v0 := V.cell 0
          have v1 := V.cell 1
          have v2 := V.cell 2
          have v3 := V.cell 3
          unfold Res4 at v0 v1 v2 v3
          refine bodyPost_ret (v := .agg #[.int .u8 c.toNat, .string (tb [b]), .int .i64 0, .slice (some ⟨gg3, 0, none⟩) 2 capg]) (by simp [results, Tryz.results85, go_sem, v0, v1, v2, v3]) rfl ?_
          clear v0 v1 v2 v3 V
          exact .inr ⟨c.toNat, tb [b], 0, _, _, _, q2, HNF.out.1, HNF.out.2, rfl, res4_far HM.out.rd hQR.symm _ _ _ _, res4_only HM.out.only (Nat.le_refl _) _ _ _ _⟩
end Go.Proofs.YtgkamcnbpiipoaaGreat
