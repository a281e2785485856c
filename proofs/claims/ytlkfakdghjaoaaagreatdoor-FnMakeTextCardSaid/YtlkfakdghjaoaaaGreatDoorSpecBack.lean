import Derived.Maps.AppendAt
import Derived.Test.YtlkfakdghjaoaaaGreatDoorLoopMath
set_option maxRecDepth 100000
set_option maxHeartbeats 4000000
namespace Go.Proofs.YtlkfakdghjaoaaaGreatDoor
open Go.RowKit Go.Sort
theorem sF {g : List Bl} (hv : aa g = true) {l : List Nat} (hl : ∀ i ∈ l, i < g.length) {t : Nat} (hm : t ∈ l) {c : UInt8} (ht : t < g.length) (hc : g[t].1 = ⟨#[c]⟩) : Lib.indexByte (ae g l).data.toList c = (bz l t : Int) := by
 obtain ⟨o, ho⟩ := Int.eq_ofNat_of_zero_le ((bU hv hl ht hc).2 hm)
 have ho' : Lib.indexByte (ae g l).data.toList c = (o : Int) := ho
 obtain ⟨h1, h2⟩ := Lib.indexByte_some ho'
 have hp := ei hm
 have hpt := eZ hm
 obtain ⟨_, e1⟩ := io hv hl hp
 have e2 : (ae g l).data.toList[bz l t]? = some c := by
  rw [e1]
  simp only [hpt, hc]; rfl
 have hle : o ≤ bz l t := Nat.le_of_not_lt fun h => h2 _ h e2
 have hol : o < l.length := by omega
 obtain ⟨h3, e3⟩ := io hv hl hol
 rw [h1] at e3
 obtain ⟨d, hd, _⟩ := bi hv (List.getElem_mem h3)
 have hcd : c = d := by
  rw [hd] at e3
  simpa using e3
 have hx : l[o] = t := gn hv h3 ht (by rw [hd, hc, hcd])
 have hge : bz l t ≤ o := by
  rcases Nat.lt_or_ge o (bz l t) with h | h
  ·have := List.not_of_lt_findIdx (xs := l) (p := fun y => decide (y = t)) h
   simp [hx] at this
  ·exact h
 rw [ho']
 congr 1
 omega
theorem tt (A : Option Addr) (cap : Nat) (g : List Bl) (nm : ByteArray) (t : Nat) (w : World) (hg : Gr w A g) (hn : g.length ≤ 1048576) (hv : aa g = true) (hr : Rch g [] t) (hnm : nm = aC g t) :
  Calls Tryz.prog 176 #[.slice A g.length cap, .string nm] w fun e w' => e = .returned (.int .i64 (ew g dx t).length) ∧ Below w.heap.size w w' := by
 have h26 := (ak.1 hv).2.1
 have htl := hr.lt hv
 have hz : nm.size = 1 := by rw [hnm]; exact eP hv htl
 have h0 : 0 < nm.size := by omega
 have hnmc : g[t].1 = ⟨#[nm[0]]⟩ := by
  rw [← am htl, ← hnm]; exact uP hz
 have HO := F7 (ir A cap g w hg hn hv)
 obtain ⟨o, ho⟩ : ∃ o, o = ae g (af g) := ⟨_, rfl⟩
 have hos : o.size = (af g).length := by rw [ho]; exact ax hv _ (be hv)
 have hol := bW hv
 rw [← ho] at HO
 have hpm := (aD hv).2 hr
 have hidx := sF hv (be hv) hpm htl hnmc
 rw [← ho] at hidx
 have hpl := ei hpm
 have HCN := F7 (zQ hv t)
 obtain ⟨p, hp⟩ : ∃ p, p = bz (af g) t := ⟨_, rfl⟩
 rw [← hp] at hidx hpl
 have hos2 : o.size ≤ 26 := by omega
 have HF : Hid (∀ w, Calls Tryz.prog 114 #[.string o, .int .u8 nm[0].toNat] w fun e w' => e = .returned (.int .i64 p) ∧ w = w') := fun w => by
  rw [← hidx]; exact a7 o nm[0] w (by omega)
 have HPP := F7 (show p = ah g t from hp)
 have HNC := F7 hnmc
 have HOO := F7 ho
 have HOS := F7 hos
 have HG := F7 hg
 have HV := F7 hv
 clear ho hg hv hos hpm hidx hp hnmc hnm hr
 go_enter Tryz.func176, Tryz.ntmps176
 go_wp2_with fail
 refine HO.out.mono ?_
 rintro e w1 ⟨rfl, b1⟩
 have HB1 := F7 b1
 clear b1
 go_wp2_with fail
 refine (HF.out _).mono ?_
 rintro e w2 ⟨rfl, rfl⟩
 go_wp2_with fail
 go_loopw [6, 14] (fun cv iv wr => ∃ (k c : Nat), k ≤ p ∧ iv = .int .i64 k ∧ cv = .int .i64 c ∧ c ≤ k ∧ Hid (c = (((af g).take k).filter fun i => decide (t ∈ ai g i)).length) ∧ Hid (Below w.heap.size w wr)) (fun _ iv _ => p - (intOf iv).toNat)
 case atStart => exact ⟨0, 0, Nat.zero_le _, rfl, rfl, Nat.le_refl _, (show 0 = (((af g).take 0).filter fun i => decide (t ∈ ai g i)).length by simp), HB1.out⟩
 case round =>
  obtain ⟨k, c, hk, rfl, rfl, hck, HC, HB⟩ := hrel
  by_cases hlt : k < p
  ·have hlt' : k < (af g).length := by omega
   obtain ⟨x, hx⟩ : ∃ x, x = (af g)[k] := ⟨_, rfl⟩
   have hxl : x < g.length := hx ▸ be HV.out _ (List.getElem_mem hlt')
   obtain ⟨_, hcut⟩ := du HV.out (be HV.out) hlt'
   have hex : o.extract k (k + 1) = aC g x := by rw [HOO.out, hcut, am hxl]; congr 2; exact hx.symm
   have hk1 : k + 1 ≤ o.size := by rw [HOS.out]; omega
   have HFT := F7 (eB (p := fun i => decide (t ∈ ai g i)) hlt')
   have HX := F7 hx
   have hga := HG.out.below HB.out
   obtain ⟨nx, hnx⟩ : ∃ nx, nx = g[x].2 := ⟨_, rfl⟩
   have hnx2 : nx.size ≤ 2 := by rw [hnx]; have := dO hxl; have := gp HV.out hxl; omega
   have cN : ∀ d os, Calls Tryz.prog 180 #[.slice A g.length cap, .string (o.extract k (k + 1))] (grow (redrawn wr d) os) fun e w'' => e = .returned (.string nx) ∧ ∃ p : Regrown, w'' = grow (redrawn wr p.d) p.os := fun d os => by
    have := fK A cap g (o.extract k (k + 1)) x (grow (redrawn wr d) os) (mu hga d os) hn (by rw [hex, am hxl]; exact fL HV.out hxl) hxl
    rw [← hnx] at this
    exact Calls.regrown_of this
   obtain ⟨q, hq⟩ : ∃ q, q = Lib.indexByte nx.data.toList nm[0] := ⟨_, rfl⟩
   have cF : ∀ d os, Calls Tryz.prog 114 #[.string nx, .int .u8 nm[0].toNat] (grow (redrawn wr d) os) fun e w'' => e = .returned (.int .i64 q) ∧ ∃ p : Regrown, w'' = grow (redrawn wr p.d) p.os := fun d os => by
    have := fR (a7 nx nm[0] (grow (redrawn wr d) os) (by omega))
    rwa [← hq] at this
   have hqm : 0 ≤ q ↔ t ∈ ai g x := by
    rw [hq, eF, D9 HV.out hxl htl HNC.out, hnx]
   clear hx hcut hex hnx hq hga
   by_cases hin : t ∈ ai g x
   ·have q0 : 0 ≤ q := hqm.2 hin
    have q1 : decide (0 ≤ q) = true := by simpa using q0
    have HC2 := F7 (show c + 1 = (((af g).take (k + 1)).filter fun i => decide (t ∈ ai g i)).length by
     rw [HFT.out, ← HX.out, decide_eq_true hin, if_pos rfl, List.length_append, ← HC.out]; rfl)
    clear hqm hin
    go_wp2_with fail
    refine wp_region_quiet_below (by kernel_rfl) (by kernel_rfl) ?_
    repeat (any_goals (first | go_big_quiet_step (first | with_reducible exact cN _ _ | with_reducible exact cF _ _) | quiet_step (first | with_reducible exact cN _ _ | with_reducible exact cF _ _)))
    all_goals (refine wpQuiet_nil ?_; intro _ hw'; obtain ⟨⟨dq, osq⟩, hw''⟩ := hw'; subst hw'')
    have hb2 := below_regrown wr dq osq
    generalize grow (redrawn wr dq) osq = w2 at hb2 ⊢
    have HB2 := F7 (ac HB.out hb2)
    clear cN cF hb2
    go_wp2_with fail
    go_roundw
    case rel => exact ⟨k + 1, c + 1, by omega, by go_num, by go_num, by omega, HC2.out, HB2.out⟩
    case measure => simp [intOf]; omega
   ·have q0 : ¬ 0 ≤ q := fun h => hin (hqm.1 h)
    have q1 : decide (0 ≤ q) = false := by simpa using q0
    have HC2 := F7 (show c = (((af g).take (k + 1)).filter fun i => decide (t ∈ ai g i)).length by
     rw [HFT.out, ← HX.out, decide_eq_false hin, if_neg (by simp), List.append_nil, ← HC.out])
    clear hqm hin
    go_wp2_with fail
    refine wp_region_quiet_below (by kernel_rfl) (by kernel_rfl) ?_
    repeat (any_goals (first | go_big_quiet_step (first | with_reducible exact cN _ _ | with_reducible exact cF _ _) | quiet_step (first | with_reducible exact cN _ _ | with_reducible exact cF _ _)))
    all_goals (refine wpQuiet_nil ?_; intro _ hw'; obtain ⟨⟨dq, osq⟩, hw''⟩ := hw'; subst hw'')
    have hb2 := below_regrown wr dq osq
    generalize grow (redrawn wr dq) osq = w2 at hb2 ⊢
    have HB2 := F7 (ac HB.out hb2)
    clear cN cF hb2
    go_wp2_with fail
    go_roundw
    case rel => exact ⟨k + 1, c, by omega, by go_num, rfl, by omega, HC2.out, HB2.out⟩
    case measure => simp [intOf]; omega
  ·have HE := F7 (show (c : Int) = (((ew g dx t).length : Nat) : Int) by
    rw [← HCN.out, ← HPP.out, show p = k by omega, ← HC.out])
   go_wp2_with fail
   go_ret
   exact ⟨cC HE.out, HB.out⟩
end Go.Proofs.YtlkfakdghjaoaaaGreatDoor
namespace Go.Proofs.YtlkfakdghjaoaaaGreatDoor
open Go.RowKit Go.Sort Go.Deep
attribute [local go_sem] Oper.semAt_some
theorem y6 {g : List Bl} {l : List Nat} {k : Nat} (hv : aa g = true) (hl : ∀ i ∈ l, i < g.length) (hk : k ≤ l.length) : (ae g l).extract 0 k = ae g (l.take k) := by
 have e : ae g l = ae g (l.take k) ++ ae g (l.drop k) := by rw [← a8, List.take_append_drop]
 have hz : (ae g (l.take k)).size = k := by rw [ax hv _ fun i hi => hl i ((List.take_subset _ _) hi), List.length_take]; omega
 rw [e]
 apply aV
 have hl2 : (ae g (l.take k)).data.toList.length = k := by rw [Array.length_toList]; exact hz
 rw [← Lib.toList_data, Lib.extract_toList]
 simp only [List.drop_zero, Nat.sub_zero, ByteArray.data_append, Array.toList_append]
 rw [List.take_append_of_le_length (by omega), List.take_of_length_le (by omega)]
theorem CO {g : List Bl} (hv : aa g = true) {x t : Nat} (hx : x < g.length) (ht : t < g.length) : aC g x ++ aC g t = jt g (x, t) := by
 rw [am hx, am ht, bf hv hx, bf hv ht]
 rfl
theorem AV {g : List Bl} (hv : aa g = true) {x t : Nat} {c : UInt8} (ht : Rch g [] t) (hn : (g[t]'(ht.lt hv)).1 = ⟨#[c]⟩) {k : Nat} (hk : k < (af g).length) (hxk : x = (af g)[k]) :
  0 ≤ Lib.indexByte ((ae g (af g)).extract 0 (k + 1)).data.toList c ↔ bu (aH g x t) = true := by
 rw [y6 hv (be hv) (by omega), bU hv (fun i hi => be hv i ((List.take_subset _ _) hi)) (ht.lt hv) hn, ju (ba hv) ((aD hv).2 ht), pY, decide_eq_true_iff]
 have : ah g x = k := by rw [hxk]; exact i8 (ba hv) hk
 show ah g t < k + 1 ↔ _
 rw [this]; omega
theorem qD (A : Option Addr) (cap : Nat) (g : List Bl) (w : World) (hg : Gr w A g) (hn : g.length ≤ 1048576) (hv : aa g = true) :
  Calls Tryz.prog 178 #[.slice A g.length cap] w fun e w' => ∃ v, e = .returned v ∧ gR w' g w.heap.size v (bD g bu) ∧ Below w.heap.size w w' := by
 have h26 := (ak.1 hv).2.1
 obtain ⟨i0, hi, hz0, hz1, hz2⟩ := info_parts gY
 have b0 := (Below.refl w.heap.size w).alloc (Nat.le_refl _) (.cells #[] 9)
 have HO := F7 (ir A cap g _ (hg.below b0) hn hv)
 have HOW := F7 (World.ownsRow_made (base := w.heap.size) (e := 9) (size := 1) w #[] 0 (Nat.le_refl _) (Nat.zero_le _) rfl)
 obtain ⟨o, ho⟩ : ∃ o, o = ae g (af g) := ⟨_, rfl⟩
 have hos : o.size = (af g).length := by rw [ho]; exact ax hv _ (be hv)
 have hol := bW hv
 rw [← ho] at HO
 have hos2 : o.size ≤ 26 := by omega
 have HOO := F7 ho
 have HOS := F7 hos
 have HG := F7 hg
 have HV := F7 hv
 have HB0 := F7 b0
 clear ho hg hv hos b0
 go_enter Tryz.func178, Tryz.ntmps178
 go_wp2_with fail
 refine HO.out.mono ?_
 rintro e w1 ⟨rfl, b1⟩
 have HO1 : Hid (gR w1 g w.heap.size (.slice (some ⟨w.heap.size, 0, none⟩) 0 0) []) := fB HOW.out b1
 have HB1 := F7 (ac HB0.out b1)
 clear b1
 go_wp2_with fail
 go_loopw [3, 13] (fun pv iv wr => ∃ (k : Nat) (P : List (Nat × Nat)), k ≤ o.size ∧ iv = .int .i64 k ∧ P.length ≤ 2 * k ∧ Hid (P = ((af g).take k).flatMap (cz g bu)) ∧ Hid (gR wr g w.heap.size pv P) ∧ Hid (Below w.heap.size w wr)) (fun _ iv _ => o.size - (intOf iv).toNat)
 case atStart => exact ⟨0, [], Nat.zero_le _, rfl, by simp, (show ([] : List (Nat × Nat)) = ((af g).take 0).flatMap (cz g bu) by simp), HO1.out, HB1.out⟩
 case round =>
  obtain ⟨k, P, hk, rfl, hPl, HP, HOWN, HB⟩ := hrel
  by_cases hlt : k < o.size
  ·have hlt' : k < (af g).length := by rw [← HOS.out]; exact hlt
   obtain ⟨x, hx⟩ : ∃ x, x = (af g)[k] := ⟨_, rfl⟩
   have hxr := (aD HV.out).1 (hx ▸ List.getElem_mem hlt' : x ∈ af g)
   have hxl : x < g.length := hxr.lt HV.out
   obtain ⟨_, hcut⟩ := du HV.out (be HV.out) hlt'
   have hex : o.extract k (k + 1) = aC g x := by rw [HOO.out, hcut, am hxl]; congr 2; exact hx.symm
   have hk1 : k + 1 ≤ o.size := by omega
   obtain ⟨nx, hnx⟩ : ∃ nx, nx = g[x].2 := ⟨_, rfl⟩
   have hnl : (ai g x).length = nx.size := by rw [hnx]; exact dO hxl
   have hnx2 : nx.size ≤ 2 := by rw [hnx]; exact gp HV.out hxl
   have HN := F7 (fK A cap g (o.extract k (k + 1)) x wr (HG.out.below HB.out) hn (by rw [hex, am hxl]; exact fL HV.out hxl) hxl)
   rw [← hnx] at HN
   have HEX := F7 hex
   have HX := F7 hx
   have HXR := F7 hxr
   have HNX := F7 hnx
   clear hx hcut hex hxr hnx
   have hez : (o.extract k (k + 1)).size = 1 := by rw [HEX.out]; exact eP HV.out hxl
   go_wp2_with fail
   refine HN.out.mono ?_
   rintro e w3 ⟨rfl, b3⟩
   have HOWN3 := F7 (aR HOWN.out b3)
   have HB3 := F7 (ac HB.out b3)
   clear b3
   go_wp2_with fail
   go_loopw [3, 25] (fun pv iv wr => ∃ (p : Nat) (P2 : List (Nat × Nat)), p ≤ nx.size ∧ iv = .int .i64 p ∧ P2.length ≤ 2 * k + p ∧ Hid (P2 = P ++ (((ai g x).take p).filter fun t => bu (aH g x t)).map fun t => (x, t)) ∧ Hid (gR wr g w.heap.size pv P2) ∧ Hid (Below w.heap.size w wr)) (fun _ iv _ => nx.size - (intOf iv).toNat)
   case atStart => exact ⟨0, P, Nat.zero_le _, rfl, by omega, (show P = P ++ (((ai g x).take 0).filter fun t => bu (aH g x t)).map fun t => (x, t) by simp), HOWN3.out, HB3.out⟩
   case round =>
    obtain ⟨p, P2, hp, rfl, hP2l, HP2, HOWN4, HB4⟩ := hrel
    have hsz4 := HB4.out.size
    by_cases hpl : p < nx.size
    ·have hpl' : p < (ai g x).length := by omega
     obtain ⟨t, ht, hget, _, hnm⟩ := jj HV.out hxl (k := p) (by rw [← HNX.out]; exact hpl)
     have hgx : ∀ h : p < g[x].2.size, g[x].2[p]'h = nx[p] := fun h => by
      have e := HNX.out
      subst e; rfl
     rw [hgx] at hnm
     have htm : t ∈ ai g x := List.mem_of_getElem? hget
     have htr : Rch g [] t := .step HXR.out htm (by simp)
     have HKZ := F7 (show (ai g x).take (p + 1) = (ai g x).take p ++ [t] by
      rw [List.take_succ_eq_append_getElem hpl']
      rw [List.getElem?_eq_getElem hpl'] at hget
      rw [Option.some.inj hget])
     have hp1 : p + 1 ≤ nx.size := by omega
     have hext : nx.extract p (p + 1) = aC g t := by rw [fJ _ (a := p) (b := p + 1) (by omega) (by omega) (by omega), am ht, hnm]
     have hxz : (nx.extract p (p + 1)).size = 1 := by rw [hext]; exact eP HV.out ht
     have HTX := F7 (show o.extract k (k + 1) ++ nx.extract p (p + 1) = jt g (x, t) by rw [HEX.out, hext]; exact CO HV.out hxl ht)
     obtain ⟨q, hq⟩ : ∃ q, q = Lib.indexByte (o.extract 0 (k + 1)).data.toList nx[p] := ⟨_, rfl⟩
     have hqs := AV HV.out htr hnm hlt' HX.out
     rw [← HOO.out, ← hq] at hqs
     have tC := fun n => Calls.quiet_of_same ((a7 (o.extract 0 (k + 1)) nx[p] (wr.drewN n) (by rw [ByteArray.size_extract]; omega)).mono fun _ _ ⟨a, b⟩ => ⟨a, b.symm⟩)
     rw [← hq] at tC
     clear hget hnm hgx hext htm htr hq
     by_cases hb : bu (aH g x t) = true
     ·have q0 : (0 : Int) ≤ q := hqs.2 hb
      have q1 : decide (0 ≤ q) = true := by simpa using q0
      have HP3 := F7 (show P2 ++ [(x, t)] = P ++ (((ai g x).take (p + 1)).filter fun t => bu (aH g x t)).map fun t => (x, t) by
       rw [HKZ.out, List.filter_append, List.map_append, ← List.append_assoc, ← HP2.out]
       congr 1
       rw [List.filter_cons, hb]; rfl)
      clear hqs hb
      go_wp2_with fail
      go_quiet (with_reducible exact tC _)
      have HO8 := F7 (aR HOWN4.out (ab wr nq))
      have HB8 := F7 (HB4.out.trans ((ab wr nq).mono HB4.out.size))
      obtain ⟨w8, hw8⟩ : ∃ w8, w8 = wr.drewN nq := ⟨_, rfl⟩
      rw [← hw8] at HO8 HB8 ⊢
      have hszq := HB8.out.size
      have hlm : (P2.map (jt g)).length = P2.length := List.length_map _
      have s1 : IntKind.i64.wrap ((k : Int) + 1) = (k : Int) + 1 := IntWalk.i64_in _ (by omega)
      have s2 : IntKind.i64.wrap ((p : Int) + 1) = (p : Int) + 1 := IntWalk.i64_in _ (by omega)
      have s3 : ((k : Int) + 1).toNat = k + 1 := by omega
      have s4 : ((p : Int) + 1).toNat = p + 1 := by omega
      have s5 : (k : Int) + 1 ≤ o.size := by omega
      have s6 : (p : Int) + 1 ≤ nx.size := by omega
      have s7 : (0 : Int) ≤ (k : Int) + 1 := by omega
      have s8 : (0 : Int) ≤ (p : Int) + 1 := by omega
      have s9 : (k : Int) ≤ (k : Int) + 1 := by omega
      have s10 : (p : Int) ≤ (p : Int) + 1 := by omega
      clear hw8 tC
      go_wp2_with fail
      go_region_law ((refine step_append_lies _ (by rfl) _ _ _ (by rfl) w.heap.size 9 i0 _ 1 16 Tryz.underlying37 hi hz0 hz1 hz2 rfl (by omega) _ _ _ (by rfl) ((HO8.out.alloc _).drew) ⟨w8.heap.size, 0, none⟩ 1 1 [.string (o.extract k (k + 1) ++ nx.extract p (p + 1))] (by rfl) (by rfl) (World.news_of_block (cs := #[.string (o.extract k (k + 1) ++ nx.extract p (p + 1))]) (t := 9) (fr := (0, 0)) (heap_alloc_new w8 _)) (by simp [Value.oneCell']) (by omega) (by unfold maxLen; omega) (by omega) (by simp; omega) (w8.heap.size + 1) (by simp) ?_; intro gg capg w5 hown5 hgrow hat hltg))
      have hsz := ((HO8.out.alloc (.cells #[.string (o.extract k (k + 1) ++ nx.extract p (p + 1))] 9)).drew).lt
      have hB5 := ((HB8.out.alloc hszq (.cells #[.string (o.extract k (k + 1) ++ nx.extract p (p + 1))] 9)).drew).grown hgrow (by simp; omega) (fun j hj => (hsz j hj).1)
      have HB5 := F7 hB5
      have HO5 : Hid (gR w5 g w.heap.size (.slice (some ⟨gg, 0, none⟩) (P2.length + 1) capg) (P2 ++ [(x, t)])) := by
       show w5.ownsRow w.heap.size 9 1 _ ((P2 ++ [(x, t)]).map (jt g)).length (((P2 ++ [(x, t)]).map (jt g)).map Value.string)
       rw [List.map_append, List.length_append, List.map_append, List.map_singleton, ← HTX.out, hlm]
       rw [hlm] at hown5
       exact hown5
      clear hown5 hsz hgrow hat hB5
      go_wp2_with fail
      go_roundw
      case rel => exact ⟨p + 1, P2 ++ [(x, t)], by omega, by go_num, by simp; omega, HP3.out, HO5.out, HB5.out⟩
      case measure => simp [intOf]; omega
     ·have q0 : ¬ (0 : Int) ≤ q := fun h => hb (hqs.1 h)
      have q1 : decide (0 ≤ q) = false := by simpa using q0
      have HP3 := F7 (show P2 = P ++ (((ai g x).take (p + 1)).filter fun t => bu (aH g x t)).map fun t => (x, t) by
       rw [HKZ.out, List.filter_append, List.map_append, ← List.append_assoc, ← HP2.out, List.filter_cons, if_neg hb]
       simp)
      clear hqs hb
      go_wp2_with fail
      go_quiet (with_reducible exact tC _)
      have HO8 := F7 (aR HOWN4.out (ab wr nq))
      have HB8 := F7 (HB4.out.trans ((ab wr nq).mono HB4.out.size))
      clear tC
      go_wp2_with fail
      go_roundw
      case rel => exact ⟨p + 1, P2, by omega, by go_num, by omega, HP3.out, HO8.out, HB8.out⟩
      case measure => simp [intOf]; omega
    ·have HE := F7 (show P2 = ((af g).take (k + 1)).flatMap (cz g bu) by
      rw [HP2.out, oE hlt' HX.out, List.take_of_length_le (by omega), HP.out]; rfl)
     go_wp2_with fail
     go_roundw
     case rel => exact ⟨k + 1, P2, by omega, by go_num, by omega, HE.out, HOWN4.out, HB4.out⟩
     case measure => simp [intOf]; omega
  ·have HE := F7 (show P = bD g bu by rw [HP.out, List.take_of_length_le (by rw [← HOS.out]; omega)]; rfl)
   go_wp2_with fail
   go_ret
   exact ⟨_, rfl, by rw [← HE.out]; exact HOWN.out, HB.out⟩
theorem vd (A : Option Addr) (cap : Nat) (g : List Bl) (w : World) (hg : Gr w A g) (hn : g.length + aM g ≤ 1048576) (hcap : g.length ≤ cap) :
  Calls Tryz.prog 169 #[.slice A g.length cap] w (iB bu w g) := by
 unfold iB
 have HC := F7 (iV A cap g w hg hn hcap)
 by_cases hv : aa g = true
 ·rw [hv] at HC
  rw [if_pos hv, hv]
  have HB := F7 (fun w' (h : Gr w' A g) => qD A cap g w' h (by omega) hv)
  have HG := F7 hg
  clear hg hv
  go_enter Tryz.func169, Tryz.ntmps169
  go_wp2_with fail
  refine HC.out.mono ?_
  rintro e w1 ⟨rfl, b1⟩
  have HL := F7 (HB.out w1 (HG.out.below b1))
  have HB1 := F7 b1
  clear b1
  go_wp2_with fail
  refine HL.out.mono ?_
  rintro e w2 ⟨v, rfl, hown, b2⟩
  have HW := F7 (nc hown HB1.out.size)
  have HB2 := F7 (ac HB1.out b2)
  clear hown b2
  go_wp2_with fail
  go_ret2
  exact ⟨v, rfl, HW.out, HB2.out⟩
 ·have hv : aa g = false := by simpa using hv
  rw [hv] at HC
  rw [if_neg (by rw [hv]; simp), hv]
  clear hg hv
  go_enter Tryz.func169, Tryz.ntmps169
  go_wp2_with fail
  refine HC.out.mono ?_
  rintro e w1 ⟨rfl, b1⟩
  have hs1 := b1.size
  have HB1 := F7 (b1.alloc hs1 (.cells #[] 9))
  have HO := F7 (World.ownsRow_made (base := w.heap.size) (e := 9) (size := 1) w1 #[] 0 hs1 (Nat.zero_le _) rfl)
  clear b1
  go_wp2_with fail
  go_ret2
  exact ⟨_, rfl, HO.out, HB1.out⟩
end Go.Proofs.YtlkfakdghjaoaaaGreatDoor
namespace Go.Proofs.YtlkfakdghjaoaaaGreatDoor
open Go.RowKit Go.Sort Go.Deep
attribute [local go_sem] Oper.semAt_some
theorem ve {g : List Bl} (hv : aa g = true) {K : Nat → Bool} {i : Nat} (hi : i < g.length) : (cz g K i).length ≤ 2 := by
 unfold cz
 rw [List.length_map]
 have := List.length_filter_le (fun t => K (aH g i t)) (ai g i)
 have := gp hv hi
 have := dO hi
 omega
theorem vf {f : Nat → List (Nat × Nat)} : ∀ {l : List Nat}, (∀ i ∈ l, (f i).length ≤ 2) → (l.flatMap f).length ≤ 2 * l.length
 | [], _ => by simp
 | i :: l, h => by
  have ih := vf (l := l) fun j hj => h j (List.mem_cons_of_mem _ hj)
  have := h i (by simp)
  rw [List.flatMap_cons, List.length_append, List.length_cons]
  omega
theorem sG {g : List Bl} (hv : aa g = true) (K : Nat → Bool) : (bD g K).length ≤ 52 := by
 have h1 := vf (f := cz g K) (l := af g) fun i hi => ve (K := K) hv (be hv i hi)
 have h2 := bW hv
 have h3 := (ak.1 hv).2.1
 unfold bD
 omega
theorem vg {g : List Bl} (hv : aa g = true) {K : Nat → Bool} {j : Nat × Nat} (hj : j ∈ bD g K) : j.1 < g.length ∧ j.2 < g.length := by
 obtain ⟨h1, h2, _⟩ := (jR hv).1 hj
 exact ⟨h1.lt hv, bH hv (h1.lt hv) h2⟩
theorem AW (g : List Bl) (i t : Nat) : c6 (aH g i t) = (!bL g t i && bu (aH g i t)) := by
 unfold aH
 by_cases h : ah g i < ah g t
 ·rw [if_pos h]; simp [c6, bu]
 ·rw [if_neg h]
  cases bL g t i <;> simp [c6, bu]
theorem wS (g : List Bl) : bD g c6 = (bD g bu).filter fun j => !bL g j.2 j.1 := by
 unfold bD
 rw [List.filter_flatMap]
 congr 1
 funext i
 unfold cz
 rw [List.filter_map, List.filter_filter]
 congr 1
 refine List.filter_congr fun t _ => ?_
 exact AW g i t
theorem vh {g : List Bl} (hv : aa g = true) {j : Nat × Nat} (h1 : j.1 < g.length) (h2 : j.2 < g.length) : (jt g j).size = 2 ∧ (jt g j).extract 0 1 = aC g j.1 ∧ (jt g j).extract 1 2 = aC g j.2 := by
 have hz : (jt g j).size = 2 := rfl
 refine ⟨hz, ?_, ?_⟩
 ·rw [fJ _ (a := 0) (b := 1) (by omega) (by omega) (by omega), am h1, bf hv h1]; rfl
 ·rw [fJ _ (a := 1) (b := 2) (by omega) (by omega) (by omega), am h2, bf hv h2]; rfl
theorem vi (A : Option Addr) (cap : Nat) (g : List Bl) (w : World) (hg : Gr w A g) (hn : g.length + aM g ≤ 1048576) (hcap : g.length ≤ cap) :
  Calls Tryz.prog 133 #[.slice A g.length cap] w (iB c6 w g) := by
 unfold iB
 obtain ⟨i0, hi, hz0, hz1, hz2⟩ := info_parts gY
 have b0 := (Below.refl w.heap.size w).alloc (Nat.le_refl _) (.cells #[] 9)
 have HC := F7 (vd A cap g _ (hg.below b0) hn hcap)
 have HOW := F7 (World.ownsRow_made (base := w.heap.size) (e := 9) (size := 1) w #[] 0 (Nat.le_refl _) (Nat.zero_le _) rfl)
 obtain ⟨L, hL⟩ : ∃ L, L = if aa g = true then bD g bu else [] := ⟨_, rfl⟩
 have HLV := F7 (show ∀ j ∈ L, aa g = true ∧ j.1 < g.length ∧ j.2 < g.length from fun j hj => by
  rw [hL] at hj
  by_cases hv : aa g = true
  ·rw [if_pos hv] at hj; exact ⟨hv, vg hv hj⟩
  ·rw [if_neg hv] at hj; simp at hj)
 have hLl : L.length ≤ 52 := by
  rw [hL]
  by_cases hv : aa g = true
  ·rw [if_pos hv]; exact sG hv bu
  ·rw [if_neg hv]; simp
 have HW := F7 (show (if aa g = true then bD g c6 else []) = L.filter fun j => !bL g j.2 j.1 by
  rw [hL]
  by_cases hv : aa g = true
  ·rw [if_pos hv, if_pos hv]; exact wS g
  ·rw [if_neg hv, if_neg hv]; rfl)
 rw [HW.out]
 unfold iB at HC
 rw [← hL] at HC
 have HG := F7 hg
 have HB0 := F7 b0
 clear hg b0 hL HW
 go_enter Tryz.func133, Tryz.ntmps133
 go_wp2_with fail
 refine HC.out.mono ?_
 rintro e w1 ⟨v, rfl, hown, b1⟩
 obtain ⟨A2, cap2, rfl, -⟩ := gZ hown
 have hlm : (L.map (jt g)).length = L.length := List.length_map _
 have HLS := F7 hown
 have HO1 : Hid (gR w1 g w.heap.size (.slice (some ⟨w.heap.size, 0, none⟩) 0 0) []) := fB HOW.out b1
 have HB1 := F7 (ac HB0.out b1)
 have HNE1 := F7 (show (Value.slice A2 (L.map (jt g)).length cap2).ownBlock = none ∨ (Value.slice A2 (L.map (jt g)).length cap2).ownBlock ≠ (Value.slice (some ⟨w.heap.size, 0, none⟩) 0 0).ownBlock from by
  cases h : (Value.slice A2 (L.map (jt g)).length cap2).ownBlock with
  | none => exact .inl rfl
  | some b =>
   refine .inr fun e => ?_
   have h1 := (hown.lt b h).1
   have h2 : b = w.heap.size := by simpa [Value.ownBlock] using e
   simp at h1
   omega)
 clear b1 hown
 go_wp2_with fail
 go_loopw [4, 17] (fun pv iv wr => ∃ (k : Nat) (P : List (Nat × Nat)), k ≤ L.length ∧ iv = .int .i64 k ∧ P.length ≤ k ∧ Hid (P = (L.take k).filter fun j => !bL g j.2 j.1) ∧ Hid (gR wr g w.heap.size pv P) ∧ Hid (OwnStr wr (w.alloc (.cells #[] 9)).heap.size (.slice A2 (L.map (jt g)).length cap2) (L.map (jt g))) ∧
   Hid ((Value.slice A2 (L.map (jt g)).length cap2).ownBlock = none ∨ (Value.slice A2 (L.map (jt g)).length cap2).ownBlock ≠ pv.ownBlock) ∧ Hid (Below w.heap.size w wr)) (fun _ iv _ => L.length - (intOf iv).toNat)
 case atStart => exact ⟨0, [], Nat.zero_le _, rfl, Nat.zero_le _, (show ([] : List (Nat × Nat)) = (L.take 0).filter fun j => !bL g j.2 j.1 by simp), HO1.out, HLS.out, HNE1.out, HB1.out⟩
 case round =>
  obtain ⟨k, P, hk, rfl, hPl, HP, HOWN, HLW, HNE, HB⟩ := hrel
  by_cases hlt : k < L.length
  ·obtain ⟨b, off, rfl, hb, hc⟩ := HLW.out.strs (by omega)
   have x0 := hc k (by omega)
   obtain ⟨j, hj⟩ : ∃ j, j = L[k] := ⟨_, rfl⟩
   obtain ⟨txt, htx⟩ : ∃ txt, txt = jt g j := ⟨_, rfl⟩
   have hget : (L.map (jt g))[k]'(by omega) = txt := by rw [List.getElem_map, htx, hj]
   rw [hget] at x0
   obtain ⟨hv, h1, h2⟩ := HLV.out j (hj ▸ List.getElem_mem hlt)
   obtain ⟨hz, e1, e2⟩ := vh hv h1 h2
   rw [← htx] at hz e1 e2
   have l1 : 1 ≤ txt.size := by omega
   have l2 : (1 : Int) ≤ txt.size := by omega
   have hga := HG.out.below HB.out
   have cD : ∀ d os, Calls Tryz.prog 170 #[.slice A g.length cap, .string (txt.extract 1 2), .string (txt.extract 0 1)] (grow (redrawn wr d) os) fun e w'' => e = .returned (.bool (bL g j.2 j.1)) ∧ ∃ p : Regrown, w'' = grow (redrawn wr p.d) p.os := fun d os =>
    Calls.regrown_of (gD A cap g _ _ j.2 j.1 (grow (redrawn wr d) os) (mu hga d os) (by omega) hv h2 h1 e2 e1)
   have HFT : Hid ((L.take (k + 1)).filter (fun j => !bL g j.2 j.1) = (L.take k).filter (fun j => !bL g j.2 j.1) ++ (if (!bL g j.2 j.1) = true then [j] else [])) := by
    show _ = _
    rw [List.take_succ_eq_append_getElem hlt, List.filter_append, ← hj, List.filter_cons, List.filter_nil]
   have HTX := F7 htx
   clear hc hb hget htx hj e1 e2 hga h1 h2 hv
   cases hd : bL g j.2 j.1 with
   | false =>
    rw [hd] at cD HFT
    have HP2 := F7 (show P ++ [j] = (L.take (k + 1)).filter fun j => !bL g j.2 j.1 by rw [HFT.out, HP.out]; rfl)
    clear hd
    go_wp2_with fail
    refine wp_region_quiet_below (by kernel_rfl) (by kernel_rfl) ?_
    repeat (any_goals (first | go_big_quiet_step (with_reducible exact cD _ _) | quiet_step (with_reducible exact cD _ _)))
    all_goals (refine wpQuiet_nil ?_; intro _ hw'; obtain ⟨⟨dq, osq⟩, hw''⟩ := hw'; subst hw'')
    have hb2 := below_regrown wr dq osq
    generalize grow (redrawn wr dq) osq = w2 at hb2 ⊢
    have HB2 := F7 (ac HB.out hb2)
    have HO2 := F7 (aR HOWN.out hb2)
    have HL2 := F7 (aR HLW.out hb2)
    have hszq := HB2.out.size
    have hPm : (P.map (jt g)).length = P.length := List.length_map _
    clear cD hb2 x0
    go_wp2_with (at_builtin; refine wpList_append_own_at _ rfl _ _ 37 rfl w.heap.size 9 i0 (.string ⟨#[]⟩) 1 16 Tryz.underlying37 hi hz0 hz1 hz2 rfl (by decide) _ _ _ rfl (HO2.out.alloc _) ⟨w2.heap.size, 0, none⟩ 1 1 [.string txt] rfl rfl ?c1 ?c2 ?c3 ?c4 ?c5 ?_)
    case c1 =>
     intro j u hj
     match j, hj with
     | 0, hj =>
      have hu : Value.string txt = u := by simpa using hj
      rw [← hu]
      simp [Addr.add]
    case c2 => intro u hu; have hu' : u = .string txt := by simpa using hu
               subst hu'; rfl
    case c3 => unfold maxLen; omega
    case c4 => omega
    case c5 => simp; omega
    intro v' w5 hown' hgrow _ hat
    have hsz := (HO2.out.alloc (.cells #[.string txt] 9)).lt
    have hB5 := (HB2.out.alloc hszq (.cells #[.string txt] 9)).grown hgrow (by simp; omega) (fun j hj => (hsz j hj).1)
    have hLlt := HL2.out.lt
    have HL5 := F7 ((HL2.out.alloc (.cells #[.string txt] 9)).kept hgrow HNE.out)
    have HNE5 := F7 (show (Value.slice (some ⟨b, off, none⟩) (L.map (jt g)).length cap2).ownBlock = none ∨ (Value.slice (some ⟨b, off, none⟩) (L.map (jt g)).length cap2).ownBlock ≠ v'.ownBlock from by
     rcases hat with q | q
     ·rw [q]; exact HNE.out
     ·refine .inr fun e => ?_
      rw [q] at e
      have := (hLlt _ e).2
      first | omega | (rw [World.size_alloc] at this; omega))
    have HB5 := F7 hB5
    have HO5 : Hid (gR w5 g w.heap.size v' (P ++ [j])) := by
     show w5.ownsRow w.heap.size 9 1 v' ((P ++ [j]).map (jt g)).length (((P ++ [j]).map (jt g)).map Value.string)
     rw [List.map_append, List.length_append, List.length_map, List.map_append, List.map_map, List.map_singleton, ← HTX.out]; exact hown'
    clear hown' hsz hgrow hB5 hat hLlt
    go_wp2_with fail
    go_roundw
    case rel => exact ⟨k + 1, P ++ [j], by omega, by go_num, by simp; omega, HP2.out, HO5.out, HL5.out, HNE5.out, HB5.out⟩
    case measure => simp [intOf]; omega
   | true =>
    rw [hd] at cD HFT
    have HP2 := F7 (show P = (L.take (k + 1)).filter fun j => !bL g j.2 j.1 by rw [HFT.out, HP.out]; simp)
    clear hd
    go_wp2_with fail
    refine wp_region_quiet_below (by kernel_rfl) (by kernel_rfl) ?_
    repeat (any_goals (first | go_big_quiet_step (with_reducible exact cD _ _) | quiet_step (with_reducible exact cD _ _)))
    all_goals (refine wpQuiet_nil ?_; intro _ hw'; obtain ⟨⟨dq, osq⟩, hw''⟩ := hw'; subst hw'')
    have hb2 := below_regrown wr dq osq
    generalize grow (redrawn wr dq) osq = w2 at hb2 ⊢
    have HB2 := F7 (ac HB.out hb2)
    have HO2 := F7 (aR HOWN.out hb2)
    have HL2 := F7 (aR HLW.out hb2)
    clear cD hb2 x0
    go_wp2_with fail
    go_roundw
    case rel => exact ⟨k + 1, P, by omega, by go_num, by omega, HP2.out, HO2.out, HL2.out, HNE.out, HB2.out⟩
    case measure => simp [intOf]; omega
  ·have HE := F7 (show P = L.filter fun j => !bL g j.2 j.1 by rw [HP.out, List.take_of_length_le (by omega)])
   go_wp2_with fail
   go_ret2
   exact ⟨_, rfl, by rw [← HE.out]; exact HOWN.out, HB.out⟩
theorem g9 (A : Option Addr) (cap : Nat) (g : List Bl) (w : World) (hg : Gr w A g) (hn : g.length + aM g ≤ 1048576) (hcap : g.length ≤ cap) :
  Calls Tryz.prog 89 #[.slice A g.length cap] w fun e w' => e = .returned (.bool (df g)) ∧ Below w.heap.size w w' := by
 have HC := F7 (vi A cap g w hg hn hcap)
 clear hg
 go_enter Tryz.func89, Tryz.ntmps89
 go_wp2_with fail
 refine HC.out.mono ?_
 rintro e w1 ⟨v, rfl, hown, b1⟩
 have HB1 := F7 b1
 by_cases hv : aa g = true
 ·rw [if_pos hv] at hown
  obtain ⟨A2, cap2, rfl, -⟩ := gZ hown
  rw [hv]
  have HV := F7 hv
  clear b1 hown hv
  simp only [List.length_map]
  by_cases hz : (bD g c6).length = 0
  ·have hzI : (((bD g c6).length : Int) == 0) = true := by rw [hz]; rfl
   have HZ := F7 hz
   clear hz
   go_wp2_with fail
   go_ret
   exact ⟨gE (by unfold df; rw [HV.out, decide_eq_true HZ.out]; rfl), HB1.out⟩
  ·have hzI : (((bD g c6).length : Int) == 0) = false := beq_eq_false_iff_ne.2 fun e => hz (Int.ofNat.inj e)
   have HZ := F7 hz
   clear hz
   go_wp2_with fail
   go_ret
   exact ⟨gE (by unfold df; rw [HV.out, decide_eq_false HZ.out]; rfl), HB1.out⟩
 ·have hv : aa g = false := by simpa using hv
  rw [hv]
  have HV := F7 hv
  clear b1 hown hv
  go_wp2_with fail
  go_ret
  exact ⟨gE (by unfold df; rw [HV.out]; rfl), HB1.out⟩
end Go.Proofs.YtlkfakdghjaoaaaGreatDoor
namespace Go.Proofs.YtlkfakdghjaoaaaGreatDoor
open Go.RowKit Go.Sort
theorem vk {L : List (Nat × Nat)} {k : Nat} (h : k < L.length) : (L.take (k + 1)).map (·.2) = (L.take k).map (·.2) ++ [L[k].2] := by
 rw [List.take_succ_eq_append_getElem h, List.map_append]; rfl
theorem tu (A : Option Addr) (cap : Nat) (g : List Bl) (w : World) (hg : Gr w A g) (hn : g.length + aM g ≤ 1048576) (hv : aa g = true) :
  Calls Tryz.prog 142 #[.slice A g.length cap] w fun e w' => e = .returned (.string (ae g (aS g))) ∧ Below w.heap.size w w' := by
 have HC := F7 (qD A cap g w hg (by omega) hv)
 have hLl := sG hv bu
 have HLT := F7 (fun j (hj : j ∈ bD g bu) => vg hv hj)
 have HE0 := F7 (Cc hv)
 obtain ⟨L, hL⟩ : ∃ L, L = bD g bu := ⟨_, rfl⟩
 rw [← hL] at HC hLl HLT HE0
 have HG := F7 hg
 have HV := F7 hv
 clear hg hv hL
 go_enter Tryz.func142, Tryz.ntmps142
 go_wp2_with fail
 refine HC.out.mono ?_
 rintro e w1 ⟨v, rfl, hown, b1⟩
 obtain ⟨A2, cap2, rfl, -⟩ := gZ hown
 have hlm : (L.map (jt g)).length = L.length := List.length_map _
 have HLW := F7 hown
 have HB1 := F7 b1
 have HG1 := F7 (HG.out.below b1)
 clear b1 hown
 go_wp2_with fail
 go_loop [3, 9] (fun sv iv => ∃ (k : Nat) (out : ByteArray), k ≤ L.length ∧ iv = .int .i64 k ∧ sv = .string out ∧ out.size = k ∧ Hid (out = ae g ((L.take k).map (·.2)))) (fun _ iv => L.length - (intOf iv).toNat)
 case atStart => exact ⟨0, ⟨#[]⟩, Nat.zero_le _, rfl, rfl, rfl, (show (⟨#[]⟩ : ByteArray) = ae g ((L.take 0).map (·.2)) from rfl)⟩
 case round =>
  obtain ⟨k, out, hk, rfl, rfl, hoz, HO⟩ := hrel
  by_cases hlt : k < L.length
  ·obtain ⟨b, off, rfl, hb, hc⟩ := HLW.out.strs (by omega)
   have x0 := hc k (by omega)
   obtain ⟨j, hj⟩ : ∃ j, j = L[k] := ⟨_, rfl⟩
   obtain ⟨txt, htx⟩ : ∃ txt, txt = jt g j := ⟨_, rfl⟩
   have hget : (L.map (jt g))[k]'(by omega) = txt := by rw [List.getElem_map, htx, hj]
   rw [hget] at x0
   obtain ⟨h1, h2⟩ := HLT.out j (hj ▸ List.getElem_mem hlt)
   obtain ⟨hz, e1, e2⟩ := vh HV.out h1 h2
   rw [← htx] at hz e1 e2
   have l2 : (1 : Int) ≤ txt.size := by omega
   have hez : (txt.extract 1 2).size = 1 := by rw [e2]; exact eP HV.out h2
   have hez2 : out.size + (txt.extract 1 2).size ≤ 1048576 := by omega
   have HO2 := F7 (show out ++ txt.extract 1 2 = ae g ((L.take (k + 1)).map (·.2)) by
    rw [vk hlt, a8, bw, ← HO.out, e2, ← hj])
   clear hc hb hget htx hj e1 e2 h1 h2
   go_wp2_with fail
   go_round
   case rel => exact ⟨k + 1, _, by omega, by go_num, rfl, by rw [ByteArray.size_append]; omega, HO2.out⟩
   case measure => simp [intOf]; omega
  ·have HS := F7 (nM A cap g (L.map (·.2)) out w1 HG1.out hn HV.out (fun i hi => by
    obtain ⟨j, hj, rfl⟩ := List.mem_map.1 hi
    exact (HLT.out j hj).2) (by rw [HO.out, List.take_of_length_le (by omega)]) (by omega))
   rw [HE0.out] at HS
   go_wp2_with fail
   refine HS.out.mono ?_
   rintro e w3 ⟨rfl, b3⟩
   have HB3 := F7 (ac HB1.out b3)
   clear b3
   go_wp2_with fail
   go_ret
   exact ⟨rfl, HB3.out⟩
end Go.Proofs.YtlkfakdghjaoaaaGreatDoor
namespace Go.Proofs.YtlkfakdghjaoaaaGreatDoor
open Go.RowKit Go.Sort
end Go.Proofs.YtlkfakdghjaoaaaGreatDoor
namespace Go.Proofs.YtlkfakdghjaoaaaGreatDoor
open Go.RowKit Go.Sort
end Go.Proofs.YtlkfakdghjaoaaaGreatDoor
