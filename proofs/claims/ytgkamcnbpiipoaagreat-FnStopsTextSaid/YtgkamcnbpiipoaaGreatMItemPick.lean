/-
  The model's reader: brackets by the number.
-/
import Derived.Test.YtgkamcnbpiipoaaGreatMItemAsk
namespace Go.Proofs.YtgkamcnbpiipoaaGreat
open Go.RowKit Go.Sort

/-- As many brackets as there are, but not as many as there may be. -/
theorem noI_pick_len {f : Nat} {s t : List UInt8} {bs : List (List It)} (h : SoB f s bs t) (ht : NoBr t) (hl : bs.length = 0 ∨ 10 < bs.length) : NoI f (35 :: s) := fun i r hi hr e => by
  obtain ⟨bs', _, h0, h10, hb, e2⟩ := pick_parts hi e
  rcases hl with hl | hl
  · have hn : bs = [] := List.eq_nil_of_length_eq_zero hl
    subst hn
    have e3 := h.2.1
    rw [txB, List.nil_append] at e3
    rw [e3] at e2
    cases bs' with
    | nil => simp at h0
    | cons l bs' => rw [txB] at e2; exact ht _ (by rw [e2, List.cons_append])
  · have e4 : txB bs' ++ r = txB bs ++ t := e2.symm.trans h.2.1
    obtain ⟨e5, _⟩ := uniqB bs bs' f f t r h.1 hb (.inr (by omega)) hr e4.symm
    rw [e5] at hl; omega
theorem sees_br {tx : List UInt8} {q : Nat} (h : seesB tx q 91 = false) : NoBr (tx.drop q) := fun _ e => sees_not h (drop_cons e).2.2

/-- Between two brackets. -/
def PickMid (w : World) (R : Nat) (tx : List UInt8) (p f : Nat) (c : UInt8) (OB : Nat) (q : Nat) (bad : Bool) (wx : World) : Prop :=
  ∃ bs vs A cap, Made w R tx q bad f (.int .u8 c.toNat) (.string ⟨#[]⟩) (.int .i64 0) OB bs vs (.slice A vs.length cap) wx ∧ vs.length = bs.length ∧
    (bad = false → SoB f (tx.drop (p + 1)) bs (tx.drop q) ∧ p + 1 ≤ q ∧ q ≤ tx.length ∧ vs.length ≤ q) ∧ (bad = true → NoI f (tx.drop p) ∧ q + 3 * p ≤ 4 * tx.length + 4)

set_option maxRecDepth 100000 in
set_option maxHeartbeats 3200000 in
theorem mitem_pick (n : Nat) (HB : MBodyOk n) (R f p : Nat) (tx : List UInt8) (c : UInt8) (w : World) (hc : c = 35) (hat : tx[p]? = some c) (hn : tx.length - p ≤ n + 1) (htx : tx.length ≤ 1048576) (hf : f ≤ 9) (h : Mrd w R tx p false f) :
    Calls Tryz.prog 85 #[.pointer (some ⟨R, 0, none⟩)] w (MItemPost R f tx p w) := by
  have hplt := (drop_cons (drop_at hat)).1
  have HW1 := Lib.hid (fun q W (hq1 : p + 1 ≤ q) (hq : q ≤ tx.length) (k : Mrd W R tx q false f) => (mwithin_out n HB R f q tx 91 93 W (.inr (.inr rfl)) (by omega) hq htx hf k : Calls Tryz.prog 100 #[.pointer (some ⟨R, 0, none⟩), .int .u8 91, .int .u8 93] W (WiOut R f tx q 91 93 false W)))
  have HSE := Lib.hid (fun q bad W (k : Mrd W R tx q bad f) => (sees_any R q f tx bad 91 W k : Calls Tryz.prog 103 #[.pointer (some ⟨R, 0, none⟩), .int .u8 91] W fun e w' => e = .returned (.bool (seesB tx q 91)) ∧ ∃ m, w' = W.drewN m))
  have c0 := Blk.cell h 0
  obtain ⟨x, hx⟩ : ∃ x, x = tb tx := ⟨_, rfl⟩
  have hxz : x.size = tx.length := by rw [hx, tb_size]
  have hxd : x.data.toList = tx := by rw [hx, tb_data]
  have hlt : p < x.size := by have := (drop_cons (drop_at hat)).1; omega
  have hb := byte_at x p hlt
  rw [hxd, hat] at hb
  have hxp : x[p] = c := (Option.some.inj hb).symm
  have d0 : w.cell? ⟨R, 0, none⟩ = some (.string x) := by rw [hx]; exact c0
  have d1 : w.cell? ⟨R, 1, none⟩ = some (.int .i64 p) := Blk.cell h 1
  have HXP := Lib.hid hxp
  have HXZ := Lib.hid hxz
  have HX := Lib.hid hx
  have HD := Lib.hid (drop_at hat)
  have H := Lib.hid h
  have hR := h.lt
  have hR1 : R < w.heap.size + 1 := by omega
  have hR2 : R < w.heap.size + 1 + 1 := by omega
  have hp1 : p + 1 ≤ 1048576 := by omega
  have e1 : ((p + 1 : Nat) : Int) = (p : Int) + 1 := by omega
  have HE := Lib.hid e1
  clear hb hxd hx c0 hxp hxz h hat e1
  have e46 : ((c.toNat : Int) == 46) = false := by rw [hc]; rfl
  have e63 : ((c.toNat : Int) == 63) = false := by rw [hc]; rfl
  have e40 : ((c.toNat : Int) == 40) = false := by rw [hc]; rfl
  have e123 : ((c.toNat : Int) == 123) = false := by rw [hc]; rfl
  have e94 : ((c.toNat : Int) == 94) = false := by rw [hc]; rfl
  have e61 : ((c.toNat : Int) == 61) = false := by rw [hc]; rfl
  have e35 : ((c.toNat : Int) == 35) = true := by rw [hc]; rfl
  have HL := Lib.hid (fun W => (by have := letter_any c W; rw [show letB c = false by rw [hc]; rfl] at this; exact this : Calls Tryz.prog 45 #[.int .u8 c.toNat] W fun e w' => e = .returned (.bool false) ∧ W = w'))
  have HC := Lib.hid hc
  obtain ⟨i0, hi, hz0, hz1, hz2⟩ := info_parts info_l5items
  clear hc HB
  go_enter Tryz.func85, Tryz.ntmps85
  go_upto_region 1 with fail
  go_cut [3] (fun s3 wx => ∃ OB XB, s3 = .pointer (some ⟨OB, 0, none⟩) ∧ Begun w c OB XB wx)
  case first =>
    go_region
    all_goals (go_wp2_with fail; go_meet)
    all_goals rw [HXP.out]
    case rel => exact ⟨_, _, rfl, begun_a w c⟩
    case rel => exact ⟨_, _, rfl, begun_b w c⟩
  case rest =>
    obtain ⟨OB, XB, rfl, hst⟩ := hcut
    clear d0 d1
    have hlO := hst.ltO
    have hOR : OB ≠ R := by omega
    have hQR : w.heap.size ≠ R := by omega
    have hOQ : OB ≠ w.heap.size := by omega
    have k0 : wc.cell? ⟨OB, 0, none⟩ = some (.int .u8 c.toNat) := hst.item.cell 0
    have hm : Mrd wc R tx p false f := Blk.below H.out hst.below hR
    have d0 : wc.cell? ⟨R, 0, none⟩ = some (.string x) := by rw [HX.out]; exact Blk.cell hm 0
    have d1 : wc.cell? ⟨R, 1, none⟩ = some (.int .i64 p) := Blk.cell hm 1
    have g1 : wc.frozen? ⟨R, 1, none⟩ = false := Blk.frozen hm 1
    have m1 : Mrd (wc.setCell ⟨R, 1, none⟩ (.int .i64 ((p : Int) + 1))) R tx (p + 1) false f := by
      unfold Mrd
      rw [HE.out]; exact Blk.set_ hm 1 (.int .i64 ((p : Int) + 1))
    have i1 := blk_other hst.item hOR 1 (.int .i64 ((p : Int) + 1))
    have r1 := blk_other hst.res hQR 1 (.int .i64 ((p : Int) + 1))
    have HM1 := Lib.hid m1
    have HI1 := Lib.hid i1
    have HR1 := Lib.hid r1
    have HST := Lib.hid hst
    have hM1 : Made w R tx (p + 1) false f (.int .u8 c.toNat) (.string ⟨#[]⟩) (.int .i64 0) OB [] [] (.slice (some ⟨XB, 0, none⟩) 0 0) (wc.setCell ⟨R, 1, none⟩ (.int .i64 ((p : Int) + 1))) := (hst.made H.out hR).reader hR hOR 1 _ m1
    have HMA := Lib.hid hM1
    clear hm m1 i1 r1 hst HM1 HI1 HR1 hM1
    go_wp2_with fail
    refine (HL.out _).mono ?_
    rintro e w2 ⟨rfl, rfl⟩
    go_wp2_with fail
    have HM0 : Hid (PickMid w R tx p f c OB (p + 1) false (wc.setCell ⟨R, 1, none⟩ (.int .i64 ((p : Int) + 1)))) := ⟨[], [], some ⟨XB, 0, none⟩, 0, HMA.out, rfl, fun _ => ⟨soB_start _ _, Nat.le_refl _, by omega, Nat.zero_le _⟩, fun e => by cases e⟩
    generalize wc.setCell ⟨R, 1, none⟩ (.int .i64 ((p : Int) + 1)) = WA at *
    clear d0 d1 g1 k0 HMA
    go_loopg [] (tx.length + 1 - (p + 1)) (fun gk wr => ∃ q bad, gk = (if bad then 0 else tx.length + 1 - q) ∧ Hid (PickMid w R tx p f c OB q bad wr))
    case atStart => exact ⟨p + 1, false, rfl, HM0.out⟩
    case round =>
      obtain ⟨q, bad, rfl, HP⟩ := hrel
      obtain ⟨bs, vs, A, cap, hM, hvl, hgood, hbad⟩ := HP.out
      have HVL := Lib.hid hvl
      have HS := Lib.hid (HSE.out q bad wr hM.rd)
      have HMX := Lib.hid hM
      clear hM hvl
      cases bad with
      | false =>
        obtain ⟨hso, hpq, hq, hvq⟩ := hgood rfl
        have HSO := Lib.hid hso
        clear hgood hbad hso
        cases hs : seesB tx q 91 with
        | true =>
          rw [hs] at HS
          have HBR := Lib.hid (drop_at (sees_at hs))
          clear hs
          have x2 : wr.cell? ⟨R, 2, none⟩ = some (.bool false) := Blk.cell HMX.out.rd 2
          go_wp2_with fail
          refine HS.out.mono ?_
          rintro e w2 ⟨rfl, m, rfl⟩
          have HMY := Lib.hid (HMX.out.drew m)
          have x2 : (wr.drewN m).cell? ⟨R, 2, none⟩ = some (.bool false) := Blk.cell HMY.out.rd 2
          have x3 := HMY.out.item.cell 3
          have HME : Hid (Made w R tx q false f (.int .u8 c.toNat) (.string ⟨#[]⟩) (.int .i64 0) OB bs vs (.slice A vs.length cap) (wr.drewN m).drew) := HMY.out.drew 1
          generalize wr.drewN m = wy at *
          have hvn : vs.length ≤ 1048576 := by omega
          go_wp2_with fail
          go_region_law (first
            | (refine step_append_lies _ (by rfl) _ _ _ (by rfl) (w.heap.size + 1) 90 i0 _ 1 24 Tryz.underlying155 hi hz0 hz1 hz2 rfl (by omega) _ _ _ (by rfl) ((own_only HME.out.row ho2.out (by omega)).alloc _) ⟨w2.heap.size, 0, none⟩ 1 1 [.slice A2 m2 k2] (by rfl) (by rfl) (World.news_of_block (cs := #[.slice A2 m2 k2]) (t := 90) (fr := (0, 0)) (heap_alloc_new w2 _)) (by simp [Value.oneCell']) (by omega) (by unfold maxLen; omega) (by omega) ?_ (w2.heap.size + 1) (by simp) ?_
               · simp; omega
               intro gg capg w5 hown5 hgrow hat5 hltg
               have q6 : w5.cell? ⟨OB, 3, none⟩ = some (.slice A vs.length cap) := (HME.out.grown hOR ho2.out hgrow).cell 3
               have q7 := (HME.out.grown hOR ho2.out hgrow).frozen 3)
            | (go_simp; go_at_call 100; refine (HW1.out q _ hpq hq HME.out.rd).mono ?_; rintro e w2 ⟨A2, m2, k2, rfl, ho2, hr2⟩; have q5 : w2.cell? ⟨OB, 3, none⟩ = some (.slice A vs.length cap) := (blk_only HME.out.item ho2.out hOR).cell 3; have hlw : w.heap.size + 1 ≤ w2.heap.size := (by have := HME.out.only.size; have := ho2.out.size; have := HME.out.item.lt; omega); have hO2 : OB < w2.heap.size := (blk_only HME.out.item ho2.out hOR).lt)
            | fail)
          all_goals
            clear x2 x3 q5 q6 q7
            have HSTEP : Hid (∃ q' bad', (if bad' then 0 else tx.length + 1 - q') < tx.length + 1 - q ∧ PickMid w R tx p f c OB q' bad' (w5.setCell ⟨OB, 3, none⟩ (.slice (some ⟨gg, 0, none⟩) (vs.length + 1) capg))) := by
              rcases hr2.out with ⟨_, l, q', hl, hdq, hpq', hq', hrow, hm⟩ | ⟨q', hno, hfar, _, hm⟩
              · refine ⟨q', false, by show tx.length + 1 - q' < _; omega, bs ++ [l], vs ++ [.slice A2 m2 k2], some ⟨gg, 0, none⟩, capg, ?_, by have := HVL.out; simp; omega, fun _ => ⟨soB_next HSO.out ⟨hl, hdq⟩, by omega, hq', by simp; omega⟩, fun e => by cases e⟩
                have := HME.out.step (l := l) hR hOR hlO ho2.out hm (fun _ => hrow) hown5 hgrow hat5
                rw [show (vs ++ [Value.slice A2 m2 k2]).length = vs.length + 1 by simp]
                exact this
              · refine ⟨q', true, by show 0 < _; omega, bs ++ [[]], vs ++ [.slice A2 m2 k2], some ⟨gg, 0, none⟩, capg, ?_, by have := HVL.out; simp; omega, (fun e => by cases e), fun _ => ⟨?_, ?_⟩⟩
                · have := HME.out.step (l := []) (bad' := true) hR hOR hlO ho2.out hm (fun e => by cases e) hown5 hgrow hat5
                  rw [show (vs ++ [Value.slice A2 m2 k2]).length = vs.length + 1 by simp]
                  exact this
                · rw [HD.out, HC.out]
                  refine noI_pick (t := tx.drop (q + 1)) (by rw [← HBR.out]; exact HSO.out) fun l r k => hno rfl l r k.1 ?_
                  rw [HBR.out]; exact k.2
                · have := hfar rfl; omega
            clear hown5 hgrow hat5 hr2 ho2
            go_wp2_with fail
            obtain ⟨q', bad', hlt', hpm⟩ := HSTEP.out
            go_roundg (if bad' then 0 else tx.length + 1 - q')
            case measure => simpa using hlt'
            case rel => exact ⟨q', bad', rfl, hpm⟩
        | false =>
          rw [hs] at HS
          have HNB := Lib.hid (sees_br hs)
          clear hs
          go_wp2_with fail
          refine HS.out.mono ?_
          rintro e w2 ⟨rfl, m, rfl⟩
          have HMY := Lib.hid (HMX.out.drew m)
          have x2 : (wr.drewN m).cell? ⟨R, 2, none⟩ = some (.bool false) := Blk.cell HMY.out.rd 2
          have g2 := Blk.frozen HMY.out.rd 2
          have x3 := HMY.out.item.cell 3
          generalize wr.drewN m = wy at *
          have HIN := Lib.hid (fun W => in_any (vs.length : Int) 1 10 W)
          cases hin : inB (vs.length : Int) 1 10 with
          | true =>
            rw [hin] at HIN
            have hr : 1 ≤ vs.length ∧ vs.length ≤ 10 := by
              unfold inB at hin
              have := Bool.and_eq_true_iff.1 hin
              have a := of_decide_eq_true this.1
              have b := of_decide_eq_true this.2
              omega
            have HRD := Lib.hid (show RdI f (tx.drop p) (.pick bs) (tx.drop q) by rw [HD.out, HC.out]; have := HVL.out; exact rd_pick HSO.out (by omega) (by omega) (.inl HNB.out))
            have HM2 : Hid (Made w R tx q false f (.int .u8 c.toNat) (.string ⟨#[]⟩) (.int .i64 0) OB bs vs (.slice A vs.length cap) (wy.setCell ⟨R, 2, none⟩ (.bool false))) := HMY.out.reader hR hOR 2 (.bool false) (Blk.set_ HMY.out.rd 2 (.bool false))
            clear hin hr
            have hI9 := HM2.out.item
            have hR9 := HM2.out.res
            have l0 := hI9.cell 0
            have l1 := hI9.cell 1
            have l2 := hI9.cell 2
            have l3 := hI9.cell 3
            have z0 := hR9.cell 0
            have z1 := hR9.cell 1
            have z2 := hR9.cell 2
            have z3 := hR9.cell 3
            have y0 := hR9.frozen 0
            have y1 := hR9.frozen 1
            have y2 := hR9.frozen 2
            have y3 := hR9.frozen 3
            clear hI9 hR9
            go_wp2_with fail
            refine (HIN.out _).mono ?_
            rintro e w3 ⟨rfl, rfl⟩
            go_wp2_with fail
            have V := res4_blk HM2.out.res (.int .u8 c.toNat) (.string ⟨#[]⟩) (.int .i64 0) (.slice A vs.length cap)
            have v0 := V.cell 0
            have v1 := V.cell 1
            have v2 := V.cell 2
            have v3 := V.cell 3
            unfold Res4 at v0 v1 v2 v3
            refine bodyPost_ret (v := .agg #[.int .u8 c.toNat, .string ⟨#[]⟩, .int .i64 0, .slice A vs.length cap]) (by simp [results, Tryz.results85, go_sem, v0, v1, v2, v3]) rfl ?_
            clear v0 v1 v2 v3 V
            exact .inl ⟨.pick bs, q, _, _, _, HRD.out, by omega, hq, by rw [HC.out]; rfl, HM2.out.bodies rfl _ _ _ _, res4_far HM2.out.rd hQR.symm _ _ _ _, res4_only HM2.out.only (Nat.le_refl _) _ _ _ _⟩
          | false =>
            rw [hin] at HIN
            have hr : vs.length = 0 ∨ 10 < vs.length := by
              unfold inB at hin
              rcases Bool.and_eq_false_iff.1 hin with h | h
              · have := of_decide_eq_false h; omega
              · have := of_decide_eq_false h; omega
            have HNF : Hid (NoI f (tx.drop p) ∧ q + 3 * p ≤ 4 * tx.length + 4) := ⟨by rw [HD.out, HC.out]; exact noI_pick_len HSO.out HNB.out (by have := HVL.out; omega), by omega⟩
            have HM2 : Hid (Made w R tx q true f (.int .u8 c.toNat) (.string ⟨#[]⟩) (.int .i64 0) OB bs vs (.slice A vs.length cap) (wy.setCell ⟨R, 2, none⟩ (.bool true))) := HMY.out.reader hR hOR 2 (.bool true) (Blk.set_ HMY.out.rd 2 (.bool true))
            clear hin hr
            have hI9 := HM2.out.item
            have hR9 := HM2.out.res
            have l0 := hI9.cell 0
            have l1 := hI9.cell 1
            have l2 := hI9.cell 2
            have l3 := hI9.cell 3
            have z0 := hR9.cell 0
            have z1 := hR9.cell 1
            have z2 := hR9.cell 2
            have z3 := hR9.cell 3
            have y0 := hR9.frozen 0
            have y1 := hR9.frozen 1
            have y2 := hR9.frozen 2
            have y3 := hR9.frozen 3
            clear hI9 hR9
            go_wp2_with fail
            refine (HIN.out _).mono ?_
            rintro e w3 ⟨rfl, rfl⟩
            go_wp2_with fail
            have V := res4_blk HM2.out.res (.int .u8 c.toNat) (.string ⟨#[]⟩) (.int .i64 0) (.slice A vs.length cap)
            have v0 := V.cell 0
            have v1 := V.cell 1
            have v2 := V.cell 2
            have v3 := V.cell 3
            unfold Res4 at v0 v1 v2 v3
            refine bodyPost_ret (v := .agg #[.int .u8 c.toNat, .string ⟨#[]⟩, .int .i64 0, .slice A vs.length cap]) (by simp [results, Tryz.results85, go_sem, v0, v1, v2, v3]) rfl ?_
            clear v0 v1 v2 v3 V
            exact .inr ⟨c.toNat, ⟨#[]⟩, 0, _, _, _, q, HNF.out.1, HNF.out.2, rfl, res4_far HM2.out.rd hQR.symm _ _ _ _, res4_only HM2.out.only (Nat.le_refl _) _ _ _ _⟩
      | true =>
        have HNF := Lib.hid (hbad rfl)
        clear hgood hbad
        generalize seesB tx q 91 = sb at HS
        go_wp2_with fail
        refine HS.out.mono ?_
        rintro e w2 ⟨rfl, m, rfl⟩
        have HMY := Lib.hid (HMX.out.drew m)
        have x2 : (wr.drewN m).cell? ⟨R, 2, none⟩ = some (.bool true) := Blk.cell HMY.out.rd 2
        have g2 := Blk.frozen HMY.out.rd 2
        have HM2 : Hid (Made w R tx q true f (.int .u8 c.toNat) (.string ⟨#[]⟩) (.int .i64 0) OB bs vs (.slice A vs.length cap) ((wr.drewN m).setCell ⟨R, 2, none⟩ (.bool true))) := by
          have h := HMY.out
          exact ⟨blk_other h.item hOR 2 _, own_only h.row (Only.set R _ 2 _) (by omega), (fun e => by cases e), blk_other h.res hQR 2 _, h.only.trans (Only.set R _ 2 _), Blk.set_ h.rd 2 (.bool true)⟩
        generalize wr.drewN m = wy at *
        have hI9 := HM2.out.item
        have hR9 := HM2.out.res
        have l0 := hI9.cell 0
        have l1 := hI9.cell 1
        have l2 := hI9.cell 2
        have l3 := hI9.cell 3
        have z0 := hR9.cell 0
        have z1 := hR9.cell 1
        have z2 := hR9.cell 2
        have z3 := hR9.cell 3
        have y0 := hR9.frozen 0
        have y1 := hR9.frozen 1
        have y2 := hR9.frozen 2
        have y3 := hR9.frozen 3
        clear hI9 hR9
        cases sb
        all_goals
          go_wp2_with fail
          have V := res4_blk HM2.out.res (.int .u8 c.toNat) (.string ⟨#[]⟩) (.int .i64 0) (.slice A vs.length cap)
          have v0 := V.cell 0
          have v1 := V.cell 1
          have v2 := V.cell 2
          have v3 := V.cell 3
          unfold Res4 at v0 v1 v2 v3
          refine bodyPost_ret (v := .agg #[.int .u8 c.toNat, .string ⟨#[]⟩, .int .i64 0, .slice A vs.length cap]) (by simp [results, Tryz.results85, go_sem, v0, v1, v2, v3]) rfl ?_
          clear v0 v1 v2 v3 V
          exact .inr ⟨c.toNat, ⟨#[]⟩, 0, _, _, _, q, HNF.out.1, HNF.out.2, rfl, res4_far HM2.out.rd hQR.symm _ _ _ _, res4_only HM2.out.only (Nat.le_refl _) _ _ _ _⟩
end Go.Proofs.YtgkamcnbpiipoaaGreat
