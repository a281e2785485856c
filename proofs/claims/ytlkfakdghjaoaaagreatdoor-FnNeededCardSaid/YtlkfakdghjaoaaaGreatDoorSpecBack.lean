import Derived.Maps.AppendAt
import Derived.Test.YtlkfakdghjaoaaaGreatDoorLoopMath
set_option maxRecDepth 100000
set_option maxHeartbeats 4000000
namespace Go.Proofs.YtlkfakdghjaoaaaGreatDoor
open Go.RowKit Go.Sort
theorem tK {g : List Bl} (hv : aa g = true) {l : List Nat} (hl : ∀ i ∈ l, i < g.length) {t : Nat} (hm : t ∈ l) {c : UInt8} (ht : t < g.length) (hc : g[t].1 = ⟨#[c]⟩) : Lib.indexByte (ae g l).data.toList c = (bJ l t : Int) := by
 obtain ⟨o, ho⟩ := Int.eq_ofNat_of_zero_le ((co hv hl ht hc).2 hm)
 have ho' : Lib.indexByte (ae g l).data.toList c = (o : Int) := ho
 obtain ⟨h1, h2⟩ := Lib.indexByte_some ho'
 have hp := eB hm
 have hpt := fx hm
 obtain ⟨_, e1⟩ := iX hv hl hp
 have e2 : (ae g l).data.toList[bJ l t]? = some c := by
  rw [e1]
  simp only [hpt, hc]; rfl
 have hle : o ≤ bJ l t := Nat.le_of_not_lt fun h => h2 _ h e2
 have hol : o < l.length := by omega
 obtain ⟨h3, e3⟩ := iX hv hl hol
 rw [h1] at e3
 obtain ⟨d, hd, _⟩ := a8 hv (List.getElem_mem h3)
 have hcd : c = d := by
  rw [hd] at e3
  simpa using e3
 have hx : l[o] = t := ge hv h3 ht (by rw [hd, hc, hcd])
 have hge : bJ l t ≤ o := by
  rcases Nat.lt_or_ge o (bJ l t) with h | h
  ·have := List.not_of_lt_findIdx (xs := l) (p := fun y => decide (y = t)) h
   simp [hx] at this
  ·exact h
 rw [ho']
 congr 1
 omega
theorem uw (A : Option Addr) (cap : Nat) (g : List Bl) (nm : ByteArray) (t : Nat) (w : World) (hg : Gr w A g) (hn : g.length ≤ 1048576) (hv : aa g = true) (hr : Rch g [] t) (hnm : nm = ay g t) :
  Calls Tryz.prog 176 #[.slice A g.length cap, .string nm] w fun e w' => e = .returned (.int .i64 (dg g bD t).length) ∧ Below w.heap.size w w' := by
 have h26 := (aj.1 hv).2.1
 have htl := hr.lt hv
 have hz : nm.size = 1 := by rw [hnm]; exact e8 hv htl
 have h0 : 0 < nm.size := by omega
 have hnmc : g[t].1 = ⟨#[nm[0]]⟩ := by
  rw [← al htl, ← hnm]; exact mH hz
 have HO := GR (iY A cap g w hg hn hv)
 obtain ⟨o, ho⟩ : ∃ o, o = ae g (ac g) := ⟨_, rfl⟩
 have hos : o.size = (ac g).length := by rw [ho]; exact ax hv _ (aX hv)
 have hol := bK hv
 rw [← ho] at HO
 have hpm := (aA hv).2 hr
 have hidx := tK hv (aX hv) hpm htl hnmc
 rw [← ho] at hidx
 have hpl := eB hpm
 have HCN := GR (sS hv t)
 obtain ⟨p, hp⟩ : ∃ p, p = bJ (ac g) t := ⟨_, rfl⟩
 rw [← hp] at hidx hpl
 have hos2 : o.size ≤ 26 := by omega
 have HF : Hid (∀ w, Calls Tryz.prog 114 #[.string o, .int .u8 nm[0].toNat] w fun e w' => e = .returned (.int .i64 p) ∧ w = w') := fun w => by
  rw [← hidx]; exact bf o nm[0] w (by omega)
 have HPP := GR (show p = ah g t from hp)
 have HNC := GR hnmc
 have HOO := GR ho
 have HOS := GR hos
 have HG := GR hg
 have HV := GR hv
 clear ho hg hv hos hpm hidx hp hnmc hnm hr
 go_enter Tryz.func176, Tryz.ntmps176
 go_wp2_with fail
 refine HO.out.mono ?_
 rintro e w1 ⟨rfl, b1⟩
 have HB1 := GR b1
 clear b1
 go_wp2_with fail
 refine (HF.out _).mono ?_
 rintro e w2 ⟨rfl, rfl⟩
 go_wp2_with fail
 go_loopw [6, 14] (fun cv iv wr => ∃ (k c : Nat), k ≤ p ∧ iv = .int .i64 k ∧ cv = .int .i64 c ∧ c ≤ k ∧ Hid (c = (((ac g).take k).filter fun i => decide (t ∈ ai g i)).length) ∧ Hid (Below w.heap.size w wr)) (fun _ iv _ => p - (intOf iv).toNat)
 case atStart => exact ⟨0, 0, Nat.zero_le _, rfl, rfl, Nat.le_refl _, (show 0 = (((ac g).take 0).filter fun i => decide (t ∈ ai g i)).length by simp), HB1.out⟩
 case round =>
  obtain ⟨k, c, hk, rfl, rfl, hck, HC, HB⟩ := hrel
  by_cases hlt : k < p
  ·have hlt' : k < (ac g).length := by omega
   obtain ⟨x, hx⟩ : ∃ x, x = (ac g)[k] := ⟨_, rfl⟩
   have hxl : x < g.length := hx ▸ aX HV.out _ (List.getElem_mem hlt')
   obtain ⟨_, hcut⟩ := dD HV.out (aX HV.out) hlt'
   have hex : o.extract k (k + 1) = ay g x := by rw [HOO.out, hcut, al hxl]; congr 2; exact hx.symm
   have hk1 : k + 1 ≤ o.size := by rw [HOS.out]; omega
   have HFT := GR (eO (p := fun i => decide (t ∈ ai g i)) hlt')
   have HX := GR hx
   have hga := HG.out.below HB.out
   obtain ⟨nx, hnx⟩ : ∃ nx, nx = g[x].2 := ⟨_, rfl⟩
   have hnx2 : nx.size ≤ 2 := by rw [hnx]; have := d6 hxl; have := gR HV.out hxl; omega
   have cN : ∀ d os, Calls Tryz.prog 180 #[.slice A g.length cap, .string (o.extract k (k + 1))] (grow (redrawn wr d) os) fun e w'' => e = .returned (.string nx) ∧ ∃ p : Regrown, w'' = grow (redrawn wr p.d) p.os := fun d os => by
    have := gq A cap g (o.extract k (k + 1)) x (grow (redrawn wr d) os) (mX hga d os) hn (by rw [hex, al hxl]; exact gu HV.out hxl) hxl
    rw [← hnx] at this
    exact Calls.regrown_of this
   obtain ⟨q, hq⟩ : ∃ q, q = Lib.indexByte nx.data.toList nm[0] := ⟨_, rfl⟩
   have cF : ∀ d os, Calls Tryz.prog 114 #[.string nx, .int .u8 nm[0].toNat] (grow (redrawn wr d) os) fun e w'' => e = .returned (.int .i64 q) ∧ ∃ p : Regrown, w'' = grow (redrawn wr p.d) p.os := fun d os => by
    have := gx (bf nx nm[0] (grow (redrawn wr d) os) (by omega))
    rwa [← hq] at this
   have hqm : 0 ≤ q ↔ t ∈ ai g x := by
    rw [hq, eT, yI HV.out hxl htl HNC.out, hnx]
   clear hx hcut hex hnx hq hga
   by_cases hin : t ∈ ai g x
   ·have q0 : 0 ≤ q := hqm.2 hin
    have q1 : decide (0 ≤ q) = true := by simpa using q0
    have HC2 := GR (show c + 1 = (((ac g).take (k + 1)).filter fun i => decide (t ∈ ai g i)).length by
     rw [HFT.out, ← HX.out, decide_eq_true hin, if_pos rfl, List.length_append, ← HC.out]; rfl)
    clear hqm hin
    go_wp2_with fail
    refine wp_region_quiet_below (by kernel_rfl) (by kernel_rfl) ?_
    repeat (any_goals (first | go_big_quiet_step (first | with_reducible exact cN _ _ | with_reducible exact cF _ _) | quiet_step (first | with_reducible exact cN _ _ | with_reducible exact cF _ _)))
    all_goals (refine wpQuiet_nil ?_; intro _ hw'; obtain ⟨⟨dq, osq⟩, hw''⟩ := hw'; subst hw'')
    have hb2 := below_regrown wr dq osq
    generalize grow (redrawn wr dq) osq = w2 at hb2 ⊢
    have HB2 := GR (af HB.out hb2)
    clear cN cF hb2
    go_wp2_with fail
    go_roundw
    case rel => exact ⟨k + 1, c + 1, by omega, by go_num, by go_num, by omega, HC2.out, HB2.out⟩
    case measure => simp [intOf]; omega
   ·have q0 : ¬ 0 ≤ q := fun h => hin (hqm.1 h)
    have q1 : decide (0 ≤ q) = false := by simpa using q0
    have HC2 := GR (show c = (((ac g).take (k + 1)).filter fun i => decide (t ∈ ai g i)).length by
     rw [HFT.out, ← HX.out, decide_eq_false hin, if_neg (by simp), List.append_nil, ← HC.out])
    clear hqm hin
    go_wp2_with fail
    refine wp_region_quiet_below (by kernel_rfl) (by kernel_rfl) ?_
    repeat (any_goals (first | go_big_quiet_step (first | with_reducible exact cN _ _ | with_reducible exact cF _ _) | quiet_step (first | with_reducible exact cN _ _ | with_reducible exact cF _ _)))
    all_goals (refine wpQuiet_nil ?_; intro _ hw'; obtain ⟨⟨dq, osq⟩, hw''⟩ := hw'; subst hw'')
    have hb2 := below_regrown wr dq osq
    generalize grow (redrawn wr dq) osq = w2 at hb2 ⊢
    have HB2 := GR (af HB.out hb2)
    clear cN cF hb2
    go_wp2_with fail
    go_roundw
    case rel => exact ⟨k + 1, c, by omega, by go_num, rfl, by omega, HC2.out, HB2.out⟩
    case measure => simp [intOf]; omega
  ·have HE := GR (show (c : Int) = (((dg g bD t).length : Nat) : Int) by
    rw [← HCN.out, ← HPP.out, show p = k by omega, ← HC.out])
   go_wp2_with fail
   go_ret
   exact ⟨bz HE.out, HB.out⟩
end Go.Proofs.YtlkfakdghjaoaaaGreatDoor
namespace Go.Proofs.YtlkfakdghjaoaaaGreatDoor
open Go.RowKit Go.Sort Go.Deep
attribute [local go_sem] Oper.semAt_some
theorem Af {g : List Bl} {l : List Nat} {k : Nat} (hv : aa g = true) (hl : ∀ i ∈ l, i < g.length) (hk : k ≤ l.length) : (ae g l).extract 0 k = ae g (l.take k) := by
 have e : ae g l = ae g (l.take k) ++ ae g (l.drop k) := by rw [← be, List.take_append_drop]
 have hz : (ae g (l.take k)).size = k := by rw [ax hv _ fun i hi => hl i ((List.take_subset _ _) hi), List.length_take]; omega
 rw [e]
 apply bg
 have hl2 : (ae g (l.take k)).data.toList.length = k := by rw [Array.length_toList]; exact hz
 rw [← Lib.toList_data, Lib.extract_toList]
 simp only [List.drop_zero, Nat.sub_zero, ByteArray.data_append, Array.toList_append]
 rw [List.take_append_of_le_length (by omega), List.take_of_length_le (by omega)]
theorem DQ {g : List Bl} (hv : aa g = true) {x t : Nat} (hx : x < g.length) (ht : t < g.length) : ay g x ++ ay g t = jt g (x, t) := by
 rw [al hx, al ht, bu hv hx, bu hv ht]
 rfl
theorem B6 {g : List Bl} (hv : aa g = true) {x t : Nat} {c : UInt8} (ht : Rch g [] t) (hn : (g[t]'(ht.lt hv)).1 = ⟨#[c]⟩) {k : Nat} (hk : k < (ac g).length) (hxk : x = (ac g)[k]) :
  0 ≤ Lib.indexByte ((ae g (ac g)).extract 0 (k + 1)).data.toList c ↔ aS (aG g x t) = true := by
 rw [Af hv (aX hv) (by omega), co hv (fun i hi => aX hv i ((List.take_subset _ _) hi)) (ht.lt hv) hn, j5 (aZ hv) ((aA hv).2 ht), jD, decide_eq_true_iff]
 have : ah g x = k := by rw [hxk]; exact jC (aZ hv) hk
 show ah g t < k + 1 ↔ _
 rw [this]; omega
theorem rl (A : Option Addr) (cap : Nat) (g : List Bl) (w : World) (hg : Gr w A g) (hn : g.length ≤ 1048576) (hv : aa g = true) :
  Calls Tryz.prog 178 #[.slice A g.length cap] w fun e w' => ∃ v, e = .returned v ∧ iB w' g w.heap.size v (bw g aS) ∧ Below w.heap.size w w' := by
 have h26 := (aj.1 hv).2.1
 obtain ⟨i0, hi, hz0, hz1, hz2⟩ := info_parts km
 have b0 := (Below.refl w.heap.size w).alloc (Nat.le_refl _) (.cells #[] 9)
 have HO := GR (iY A cap g _ (hg.below b0) hn hv)
 have HOW := GR (World.ownsRow_made (base := w.heap.size) (e := 9) (size := 1) w #[] 0 (Nat.le_refl _) (Nat.zero_le _) rfl)
 obtain ⟨o, ho⟩ : ∃ o, o = ae g (ac g) := ⟨_, rfl⟩
 have hos : o.size = (ac g).length := by rw [ho]; exact ax hv _ (aX hv)
 have hol := bK hv
 rw [← ho] at HO
 have hos2 : o.size ≤ 26 := by omega
 have HOO := GR ho
 have HOS := GR hos
 have HG := GR hg
 have HV := GR hv
 have HB0 := GR b0
 clear ho hg hv hos b0
 go_enter Tryz.func178, Tryz.ntmps178
 go_wp2_with fail
 refine HO.out.mono ?_
 rintro e w1 ⟨rfl, b1⟩
 have HO1 : Hid (iB w1 g w.heap.size (.slice (some ⟨w.heap.size, 0, none⟩) 0 0) []) := f8 HOW.out b1
 have HB1 := GR (af HB0.out b1)
 clear b1
 go_wp2_with fail
 go_loopw [3, 13] (fun pv iv wr => ∃ (k : Nat) (P : List (Nat × Nat)), k ≤ o.size ∧ iv = .int .i64 k ∧ P.length ≤ 2 * k ∧ Hid (P = ((ac g).take k).flatMap (ci g aS)) ∧ Hid (iB wr g w.heap.size pv P) ∧ Hid (Below w.heap.size w wr)) (fun _ iv _ => o.size - (intOf iv).toNat)
 case atStart => exact ⟨0, [], Nat.zero_le _, rfl, by simp, (show ([] : List (Nat × Nat)) = ((ac g).take 0).flatMap (ci g aS) by simp), HO1.out, HB1.out⟩
 case round =>
  obtain ⟨k, P, hk, rfl, hPl, HP, HOWN, HB⟩ := hrel
  by_cases hlt : k < o.size
  ·have hlt' : k < (ac g).length := by rw [← HOS.out]; exact hlt
   obtain ⟨x, hx⟩ : ∃ x, x = (ac g)[k] := ⟨_, rfl⟩
   have hxr := (aA HV.out).1 (hx ▸ List.getElem_mem hlt' : x ∈ ac g)
   have hxl : x < g.length := hxr.lt HV.out
   obtain ⟨_, hcut⟩ := dD HV.out (aX HV.out) hlt'
   have hex : o.extract k (k + 1) = ay g x := by rw [HOO.out, hcut, al hxl]; congr 2; exact hx.symm
   have hk1 : k + 1 ≤ o.size := by omega
   obtain ⟨nx, hnx⟩ : ∃ nx, nx = g[x].2 := ⟨_, rfl⟩
   have hnl : (ai g x).length = nx.size := by rw [hnx]; exact d6 hxl
   have hnx2 : nx.size ≤ 2 := by rw [hnx]; exact gR HV.out hxl
   have HN := GR (gq A cap g (o.extract k (k + 1)) x wr (HG.out.below HB.out) hn (by rw [hex, al hxl]; exact gu HV.out hxl) hxl)
   rw [← hnx] at HN
   have HEX := GR hex
   have HX := GR hx
   have HXR := GR hxr
   have HNX := GR hnx
   clear hx hcut hex hxr hnx
   have hez : (o.extract k (k + 1)).size = 1 := by rw [HEX.out]; exact e8 HV.out hxl
   go_wp2_with fail
   refine HN.out.mono ?_
   rintro e w3 ⟨rfl, b3⟩
   have HOWN3 := GR (aW HOWN.out b3)
   have HB3 := GR (af HB.out b3)
   clear b3
   go_wp2_with fail
   go_loopw [3, 25] (fun pv iv wr => ∃ (p : Nat) (P2 : List (Nat × Nat)), p ≤ nx.size ∧ iv = .int .i64 p ∧ P2.length ≤ 2 * k + p ∧ Hid (P2 = P ++ (((ai g x).take p).filter fun t => aS (aG g x t)).map fun t => (x, t)) ∧ Hid (iB wr g w.heap.size pv P2) ∧ Hid (Below w.heap.size w wr)) (fun _ iv _ => nx.size - (intOf iv).toNat)
   case atStart => exact ⟨0, P, Nat.zero_le _, rfl, by omega, (show P = P ++ (((ai g x).take 0).filter fun t => aS (aG g x t)).map fun t => (x, t) by simp), HOWN3.out, HB3.out⟩
   case round =>
    obtain ⟨p, P2, hp, rfl, hP2l, HP2, HOWN4, HB4⟩ := hrel
    have hsz4 := HB4.out.size
    by_cases hpl : p < nx.size
    ·have hpl' : p < (ai g x).length := by omega
     obtain ⟨t, ht, hget, _, hnm⟩ := jR HV.out hxl (k := p) (by rw [← HNX.out]; exact hpl)
     have hgx : ∀ h : p < g[x].2.size, g[x].2[p]'h = nx[p] := fun h => by
      have e := HNX.out
      subst e; rfl
     rw [hgx] at hnm
     have htm : t ∈ ai g x := List.mem_of_getElem? hget
     have htr : Rch g [] t := .step HXR.out htm (by simp)
     have HKZ := GR (show (ai g x).take (p + 1) = (ai g x).take p ++ [t] by
      rw [List.take_succ_eq_append_getElem hpl']
      rw [List.getElem?_eq_getElem hpl'] at hget
      rw [Option.some.inj hget])
     have hp1 : p + 1 ≤ nx.size := by omega
     have hext : nx.extract p (p + 1) = ay g t := by rw [d9 _ (a := p) (b := p + 1) (by omega) (by omega) (by omega), al ht, hnm]
     have hxz : (nx.extract p (p + 1)).size = 1 := by rw [hext]; exact e8 HV.out ht
     have HTX := GR (show o.extract k (k + 1) ++ nx.extract p (p + 1) = jt g (x, t) by rw [HEX.out, hext]; exact DQ HV.out hxl ht)
     obtain ⟨q, hq⟩ : ∃ q, q = Lib.indexByte (o.extract 0 (k + 1)).data.toList nx[p] := ⟨_, rfl⟩
     have hqs := B6 HV.out htr hnm hlt' HX.out
     rw [← HOO.out, ← hq] at hqs
     have tC := fun n => Calls.quiet_of_same ((bf (o.extract 0 (k + 1)) nx[p] (wr.drewN n) (by rw [ByteArray.size_extract]; omega)).mono fun _ _ ⟨a, b⟩ => ⟨a, b.symm⟩)
     rw [← hq] at tC
     clear hget hnm hgx hext htm htr hq
     by_cases hb : aS (aG g x t) = true
     ·have q0 : (0 : Int) ≤ q := hqs.2 hb
      have q1 : decide (0 ≤ q) = true := by simpa using q0
      have HP3 := GR (show P2 ++ [(x, t)] = P ++ (((ai g x).take (p + 1)).filter fun t => aS (aG g x t)).map fun t => (x, t) by
       rw [HKZ.out, List.filter_append, List.map_append, ← List.append_assoc, ← HP2.out]
       congr 1
       rw [List.filter_cons, hb]; rfl)
      clear hqs hb
      go_wp2_with fail
      go_quiet (with_reducible exact tC _)
      have HO8 := GR (aW HOWN4.out (ab wr nq))
      have HB8 := GR (HB4.out.trans ((ab wr nq).mono HB4.out.size))
      obtain ⟨w8, hw8⟩ : ∃ w8, w8 = wr.drewN nq := ⟨_, rfl⟩
      rw [← hw8] at HO8 HB8 ⊢
      have hszq := HB8.out.size
      have hlm : (P2.map (jt g)).length = P2.length := List.length_map _
      have s1 : IntKind.i64.wrap ((k : Int) + 1) = (k : Int) + 1 := IntWalk.i64_in _ (by omega)
      have s2 : IntKind.i64.wrap ((p : Int) + 1) = (p : Int) + 1 := IntWalk.i64_in _ (by omega)
      have s3 : ((k : Int) + 1).toNat = k + 1 := by omega
      have s4 : ((p : Int) + 1).toNat = p + 1 := by omega
      have s5 : (k : Int) + 1 ≤ o.size := by omega
      have s6 : (p : Int) + 1 ≤ nx.size := by omega
      have s7 : (0 : Int) ≤ (k : Int) + 1 := by omega
      have s8 : (0 : Int) ≤ (p : Int) + 1 := by omega
      have s9 : (k : Int) ≤ (k : Int) + 1 := by omega
      have s10 : (p : Int) ≤ (p : Int) + 1 := by omega
      clear hw8 tC
      go_wp2_with fail
      go_region_law ((refine step_append_lies _ (by rfl) _ _ _ (by rfl) w.heap.size 9 i0 _ 1 16 Tryz.underlying37 hi hz0 hz1 hz2 rfl (by omega) _ _ _ (by rfl) ((HO8.out.alloc _).drew) ⟨w8.heap.size, 0, none⟩ 1 1 [.string (o.extract k (k + 1) ++ nx.extract p (p + 1))] (by rfl) (by rfl) (World.news_of_block (cs := #[.string (o.extract k (k + 1) ++ nx.extract p (p + 1))]) (t := 9) (fr := (0, 0)) (heap_alloc_new w8 _)) (by simp [Value.oneCell']) (by omega) (by unfold maxLen; omega) (by omega) (by simp; omega) (w8.heap.size + 1) (by simp) ?_; intro gg capg w5 hown5 hgrow hat hltg))
      have hsz := ((HO8.out.alloc (.cells #[.string (o.extract k (k + 1) ++ nx.extract p (p + 1))] 9)).drew).lt
      have hB5 := ((HB8.out.alloc hszq (.cells #[.string (o.extract k (k + 1) ++ nx.extract p (p + 1))] 9)).drew).grown hgrow (by simp; omega) (fun j hj => (hsz j hj).1)
      have HB5 := GR hB5
      have HO5 : Hid (iB w5 g w.heap.size (.slice (some ⟨gg, 0, none⟩) (P2.length + 1) capg) (P2 ++ [(x, t)])) := by
       show w5.ownsRow w.heap.size 9 1 _ ((P2 ++ [(x, t)]).map (jt g)).length (((P2 ++ [(x, t)]).map (jt g)).map Value.string)
       rw [List.map_append, List.length_append, List.map_append, List.map_singleton, ← HTX.out, hlm]
       rw [hlm] at hown5
       exact hown5
      clear hown5 hsz hgrow hat hB5
      go_wp2_with fail
      go_roundw
      case rel => exact ⟨p + 1, P2 ++ [(x, t)], by omega, by go_num, by simp; omega, HP3.out, HO5.out, HB5.out⟩
      case measure => simp [intOf]; omega
     ·have q0 : ¬ (0 : Int) ≤ q := fun h => hb (hqs.1 h)
      have q1 : decide (0 ≤ q) = false := by simpa using q0
      have HP3 := GR (show P2 = P ++ (((ai g x).take (p + 1)).filter fun t => aS (aG g x t)).map fun t => (x, t) by
       rw [HKZ.out, List.filter_append, List.map_append, ← List.append_assoc, ← HP2.out, List.filter_cons, if_neg hb]
       simp)
      clear hqs hb
      go_wp2_with fail
      go_quiet (with_reducible exact tC _)
      have HO8 := GR (aW HOWN4.out (ab wr nq))
      have HB8 := GR (HB4.out.trans ((ab wr nq).mono HB4.out.size))
      clear tC
      go_wp2_with fail
      go_roundw
      case rel => exact ⟨p + 1, P2, by omega, by go_num, by omega, HP3.out, HO8.out, HB8.out⟩
      case measure => simp [intOf]; omega
    ·have HE := GR (show P2 = ((ac g).take (k + 1)).flatMap (ci g aS) by
      rw [HP2.out, o9 hlt' HX.out, List.take_of_length_le (by omega), HP.out]; rfl)
     go_wp2_with fail
     go_roundw
     case rel => exact ⟨k + 1, P2, by omega, by go_num, by omega, HE.out, HOWN4.out, HB4.out⟩
     case measure => simp [intOf]; omega
  ·have HE := GR (show P = bw g aS by rw [HP.out, List.take_of_length_le (by rw [← HOS.out]; omega)]; rfl)
   go_wp2_with fail
   go_ret
   exact ⟨_, rfl, by rw [← HE.out]; exact HOWN.out, HB.out⟩
theorem wu (A : Option Addr) (cap : Nat) (g : List Bl) (w : World) (hg : Gr w A g) (hn : g.length + aO g ≤ 1048576) (hcap : g.length ≤ cap) :
  Calls Tryz.prog 169 #[.slice A g.length cap] w (fW aS w g) := by
 unfold fW
 have HC := GR (jw A cap g w hg hn hcap)
 by_cases hv : aa g = true
 ·rw [hv] at HC
  rw [if_pos hv, hv]
  have HB := GR (fun w' (h : Gr w' A g) => rl A cap g w' h (by omega) hv)
  have HG := GR hg
  clear hg hv
  go_enter Tryz.func169, Tryz.ntmps169
  go_wp2_with fail
  refine HC.out.mono ?_
  rintro e w1 ⟨rfl, b1⟩
  have HL := GR (HB.out w1 (HG.out.below b1))
  have HB1 := GR b1
  clear b1
  go_wp2_with fail
  refine HL.out.mono ?_
  rintro e w2 ⟨v, rfl, hown, b2⟩
  have HW := GR (ky hown HB1.out.size)
  have HB2 := GR (af HB1.out b2)
  clear hown b2
  go_wp2_with fail
  go_ret2
  exact ⟨v, rfl, HW.out, HB2.out⟩
 ·have hv : aa g = false := by simpa using hv
  rw [hv] at HC
  rw [if_neg (by rw [hv]; simp), hv]
  clear hg hv
  go_enter Tryz.func169, Tryz.ntmps169
  go_wp2_with fail
  refine HC.out.mono ?_
  rintro e w1 ⟨rfl, b1⟩
  have hs1 := b1.size
  have HB1 := GR (b1.alloc hs1 (.cells #[] 9))
  have HO := GR (World.ownsRow_made (base := w.heap.size) (e := 9) (size := 1) w1 #[] 0 hs1 (Nat.zero_le _) rfl)
  clear b1
  go_wp2_with fail
  go_ret2
  exact ⟨_, rfl, HO.out, HB1.out⟩
end Go.Proofs.YtlkfakdghjaoaaaGreatDoor
namespace Go.Proofs.YtlkfakdghjaoaaaGreatDoor
open Go.RowKit Go.Sort Go.Deep
attribute [local go_sem] Oper.semAt_some
theorem wv {g : List Bl} (hv : aa g = true) {K : Nat → Bool} {i : Nat} (hi : i < g.length) : (ci g K i).length ≤ 2 := by
 unfold ci
 rw [List.length_map]
 have := List.length_filter_le (fun t => K (aG g i t)) (ai g i)
 have := gR hv hi
 have := d6 hi
 omega
theorem ww {f : Nat → List (Nat × Nat)} : ∀ {l : List Nat}, (∀ i ∈ l, (f i).length ≤ 2) → (l.flatMap f).length ≤ 2 * l.length
 | [], _ => by simp
 | i :: l, h => by
  have ih := ww (l := l) fun j hj => h j (List.mem_cons_of_mem _ hj)
  have := h i (by simp)
  rw [List.flatMap_cons, List.length_append, List.length_cons]
  omega
theorem oa {g : List Bl} (hv : aa g = true) (K : Nat → Bool) : (bw g K).length ≤ 52 := by
 have h1 := ww (f := ci g K) (l := ac g) fun i hi => wv (K := K) hv (aX hv i hi)
 have h2 := bK hv
 have h3 := (aj.1 hv).2.1
 unfold bw
 omega
theorem wz {g : List Bl} (hv : aa g = true) {K : Nat → Bool} {j : Nat × Nat} (hj : j ∈ bw g K) : j.1 < g.length ∧ j.2 < g.length := by
 obtain ⟨h1, h2, _⟩ := (kx hv).1 hj
 exact ⟨h1.lt hv, bP hv (h1.lt hv) h2⟩
theorem B7 (g : List Bl) (i t : Nat) : dj (aG g i t) = (!bU g t i && aS (aG g i t)) := by
 unfold aG
 by_cases h : ah g i < ah g t
 ·rw [if_pos h]; simp [dj, aS]
 ·rw [if_neg h]
  cases bU g t i <;> simp [dj, aS]
theorem xX (g : List Bl) : bw g dj = (bw g aS).filter fun j => !bU g j.2 j.1 := by
 unfold bw
 rw [List.filter_flatMap]
 congr 1
 funext i
 unfold ci
 rw [List.filter_map, List.filter_filter]
 congr 1
 refine List.filter_congr fun t _ => ?_
 exact B7 g i t
theorem wA {g : List Bl} (hv : aa g = true) {j : Nat × Nat} (h1 : j.1 < g.length) (h2 : j.2 < g.length) : (jt g j).size = 2 ∧ (jt g j).extract 0 1 = ay g j.1 ∧ (jt g j).extract 1 2 = ay g j.2 := by
 have hz : (jt g j).size = 2 := rfl
 refine ⟨hz, ?_, ?_⟩
 ·rw [d9 _ (a := 0) (b := 1) (by omega) (by omega) (by omega), al h1, bu hv h1]; rfl
 ·rw [d9 _ (a := 1) (b := 2) (by omega) (by omega) (by omega), al h2, bu hv h2]; rfl
theorem wC (A : Option Addr) (cap : Nat) (g : List Bl) (w : World) (hg : Gr w A g) (hn : g.length + aO g ≤ 1048576) (hcap : g.length ≤ cap) :
  Calls Tryz.prog 133 #[.slice A g.length cap] w (fW dj w g) := by
 unfold fW
 obtain ⟨i0, hi, hz0, hz1, hz2⟩ := info_parts km
 have b0 := (Below.refl w.heap.size w).alloc (Nat.le_refl _) (.cells #[] 9)
 have HC := GR (wu A cap g _ (hg.below b0) hn hcap)
 have HOW := GR (World.ownsRow_made (base := w.heap.size) (e := 9) (size := 1) w #[] 0 (Nat.le_refl _) (Nat.zero_le _) rfl)
 obtain ⟨L, hL⟩ : ∃ L, L = if aa g = true then bw g aS else [] := ⟨_, rfl⟩
 have HLV := GR (show ∀ j ∈ L, aa g = true ∧ j.1 < g.length ∧ j.2 < g.length from fun j hj => by
  rw [hL] at hj
  by_cases hv : aa g = true
  ·rw [if_pos hv] at hj; exact ⟨hv, wz hv hj⟩
  ·rw [if_neg hv] at hj; simp at hj)
 have hLl : L.length ≤ 52 := by
  rw [hL]
  by_cases hv : aa g = true
  ·rw [if_pos hv]; exact oa hv aS
  ·rw [if_neg hv]; simp
 have HW := GR (show (if aa g = true then bw g dj else []) = L.filter fun j => !bU g j.2 j.1 by
  rw [hL]
  by_cases hv : aa g = true
  ·rw [if_pos hv, if_pos hv]; exact xX g
  ·rw [if_neg hv, if_neg hv]; rfl)
 rw [HW.out]
 unfold fW at HC
 rw [← hL] at HC
 have HG := GR hg
 have HB0 := GR b0
 clear hg b0 hL HW
 go_enter Tryz.func133, Tryz.ntmps133
 go_wp2_with fail
 refine HC.out.mono ?_
 rintro e w1 ⟨v, rfl, hown, b1⟩
 obtain ⟨A2, cap2, rfl, -⟩ := gO hown
 have hlm : (L.map (jt g)).length = L.length := List.length_map _
 have HLS := GR hown
 have HO1 : Hid (iB w1 g w.heap.size (.slice (some ⟨w.heap.size, 0, none⟩) 0 0) []) := f8 HOW.out b1
 have HB1 := GR (af HB0.out b1)
 have HNE1 := GR (show (Value.slice A2 (L.map (jt g)).length cap2).ownBlock = none ∨ (Value.slice A2 (L.map (jt g)).length cap2).ownBlock ≠ (Value.slice (some ⟨w.heap.size, 0, none⟩) 0 0).ownBlock from by
  cases h : (Value.slice A2 (L.map (jt g)).length cap2).ownBlock with
  | none => exact .inl rfl
  | some b =>
   refine .inr fun e => ?_
   have h1 := (hown.lt b h).1
   have h2 : b = w.heap.size := by simpa [Value.ownBlock] using e
   simp at h1
   omega)
 clear b1 hown
 go_wp2_with fail
 go_loopw [4, 17] (fun pv iv wr => ∃ (k : Nat) (P : List (Nat × Nat)), k ≤ L.length ∧ iv = .int .i64 k ∧ P.length ≤ k ∧ Hid (P = (L.take k).filter fun j => !bU g j.2 j.1) ∧ Hid (iB wr g w.heap.size pv P) ∧ Hid (OwnStr wr (w.alloc (.cells #[] 9)).heap.size (.slice A2 (L.map (jt g)).length cap2) (L.map (jt g))) ∧
   Hid ((Value.slice A2 (L.map (jt g)).length cap2).ownBlock = none ∨ (Value.slice A2 (L.map (jt g)).length cap2).ownBlock ≠ pv.ownBlock) ∧ Hid (Below w.heap.size w wr)) (fun _ iv _ => L.length - (intOf iv).toNat)
 case atStart => exact ⟨0, [], Nat.zero_le _, rfl, Nat.zero_le _, (show ([] : List (Nat × Nat)) = (L.take 0).filter fun j => !bU g j.2 j.1 by simp), HO1.out, HLS.out, HNE1.out, HB1.out⟩
 case round =>
  obtain ⟨k, P, hk, rfl, hPl, HP, HOWN, HLW, HNE, HB⟩ := hrel
  by_cases hlt : k < L.length
  ·obtain ⟨b, off, rfl, hb, hc⟩ := HLW.out.strs (by omega)
   have x0 := hc k (by omega)
   obtain ⟨j, hj⟩ : ∃ j, j = L[k] := ⟨_, rfl⟩
   obtain ⟨txt, htx⟩ : ∃ txt, txt = jt g j := ⟨_, rfl⟩
   have hget : (L.map (jt g))[k]'(by omega) = txt := by rw [List.getElem_map, htx, hj]
   rw [hget] at x0
   obtain ⟨hv, h1, h2⟩ := HLV.out j (hj ▸ List.getElem_mem hlt)
   obtain ⟨hz, e1, e2⟩ := wA hv h1 h2
   rw [← htx] at hz e1 e2
   have l1 : 1 ≤ txt.size := by omega
   have l2 : (1 : Int) ≤ txt.size := by omega
   have hga := HG.out.below HB.out
   have cD : ∀ d os, Calls Tryz.prog 170 #[.slice A g.length cap, .string (txt.extract 1 2), .string (txt.extract 0 1)] (grow (redrawn wr d) os) fun e w'' => e = .returned (.bool (bU g j.2 j.1)) ∧ ∃ p : Regrown, w'' = grow (redrawn wr p.d) p.os := fun d os =>
    Calls.regrown_of (ic A cap g _ _ j.2 j.1 (grow (redrawn wr d) os) (mX hga d os) (by omega) hv h2 h1 e2 e1)
   have HFT : Hid ((L.take (k + 1)).filter (fun j => !bU g j.2 j.1) = (L.take k).filter (fun j => !bU g j.2 j.1) ++ (if (!bU g j.2 j.1) = true then [j] else [])) := by
    show _ = _
    rw [List.take_succ_eq_append_getElem hlt, List.filter_append, ← hj, List.filter_cons, List.filter_nil]
   have HTX := GR htx
   clear hc hb hget htx hj e1 e2 hga h1 h2 hv
   cases hd : bU g j.2 j.1 with
   | false =>
    rw [hd] at cD HFT
    have HP2 := GR (show P ++ [j] = (L.take (k + 1)).filter fun j => !bU g j.2 j.1 by rw [HFT.out, HP.out]; rfl)
    clear hd
    go_wp2_with fail
    refine wp_region_quiet_below (by kernel_rfl) (by kernel_rfl) ?_
    repeat (any_goals (first | go_big_quiet_step (with_reducible exact cD _ _) | quiet_step (with_reducible exact cD _ _)))
    all_goals (refine wpQuiet_nil ?_; intro _ hw'; obtain ⟨⟨dq, osq⟩, hw''⟩ := hw'; subst hw'')
    have hb2 := below_regrown wr dq osq
    generalize grow (redrawn wr dq) osq = w2 at hb2 ⊢
    have HB2 := GR (af HB.out hb2)
    have HO2 := GR (aW HOWN.out hb2)
    have HL2 := GR (aW HLW.out hb2)
    have hszq := HB2.out.size
    have hPm : (P.map (jt g)).length = P.length := List.length_map _
    clear cD hb2 x0
    go_wp2_with (at_builtin; refine wpList_append_own_at _ rfl _ _ 37 rfl w.heap.size 9 i0 (.string ⟨#[]⟩) 1 16 Tryz.underlying37 hi hz0 hz1 hz2 rfl (by decide) _ _ _ rfl (HO2.out.alloc _) ⟨w2.heap.size, 0, none⟩ 1 1 [.string txt] rfl rfl ?c1 ?c2 ?c3 ?c4 ?c5 ?_)
    case c1 =>
     intro j u hj
     match j, hj with
     | 0, hj =>
      have hu : Value.string txt = u := by simpa using hj
      rw [← hu]
      simp [Addr.add]
    case c2 => intro u hu; have hu' : u = .string txt := by simpa using hu
               subst hu'; rfl
    case c3 => unfold maxLen; omega
    case c4 => omega
    case c5 => simp; omega
    intro v' w5 hown' hgrow _ hat
    have hsz := (HO2.out.alloc (.cells #[.string txt] 9)).lt
    have hB5 := (HB2.out.alloc hszq (.cells #[.string txt] 9)).grown hgrow (by simp; omega) (fun j hj => (hsz j hj).1)
    have hLlt := HL2.out.lt
    have HL5 := GR ((HL2.out.alloc (.cells #[.string txt] 9)).kept hgrow HNE.out)
    have HNE5 := GR (show (Value.slice (some ⟨b, off, none⟩) (L.map (jt g)).length cap2).ownBlock = none ∨ (Value.slice (some ⟨b, off, none⟩) (L.map (jt g)).length cap2).ownBlock ≠ v'.ownBlock from by
     rcases hat with q | q
     ·rw [q]; exact HNE.out
     ·refine .inr fun e => ?_
      rw [q] at e
      have := (hLlt _ e).2
      first | omega | (rw [World.size_alloc] at this; omega))
    have HB5 := GR hB5
    have HO5 : Hid (iB w5 g w.heap.size v' (P ++ [j])) := by
     show w5.ownsRow w.heap.size 9 1 v' ((P ++ [j]).map (jt g)).length (((P ++ [j]).map (jt g)).map Value.string)
     rw [List.map_append, List.length_append, List.length_map, List.map_append, List.map_map, List.map_singleton, ← HTX.out]; exact hown'
    clear hown' hsz hgrow hB5 hat hLlt
    go_wp2_with fail
    go_roundw
    case rel => exact ⟨k + 1, P ++ [j], by omega, by go_num, by simp; omega, HP2.out, HO5.out, HL5.out, HNE5.out, HB5.out⟩
    case measure => simp [intOf]; omega
   | true =>
    rw [hd] at cD HFT
    have HP2 := GR (show P = (L.take (k + 1)).filter fun j => !bU g j.2 j.1 by rw [HFT.out, HP.out]; simp)
    clear hd
    go_wp2_with fail
    refine wp_region_quiet_below (by kernel_rfl) (by kernel_rfl) ?_
    repeat (any_goals (first | go_big_quiet_step (with_reducible exact cD _ _) | quiet_step (with_reducible exact cD _ _)))
    all_goals (refine wpQuiet_nil ?_; intro _ hw'; obtain ⟨⟨dq, osq⟩, hw''⟩ := hw'; subst hw'')
    have hb2 := below_regrown wr dq osq
    generalize grow (redrawn wr dq) osq = w2 at hb2 ⊢
    have HB2 := GR (af HB.out hb2)
    have HO2 := GR (aW HOWN.out hb2)
    have HL2 := GR (aW HLW.out hb2)
    clear cD hb2 x0
    go_wp2_with fail
    go_roundw
    case rel => exact ⟨k + 1, P, by omega, by go_num, by omega, HP2.out, HO2.out, HL2.out, HNE.out, HB2.out⟩
    case measure => simp [intOf]; omega
  ·have HE := GR (show P = L.filter fun j => !bU g j.2 j.1 by rw [HP.out, List.take_of_length_le (by omega)])
   go_wp2_with fail
   go_ret2
   exact ⟨_, rfl, by rw [← HE.out]; exact HOWN.out, HB.out⟩
theorem iN (A : Option Addr) (cap : Nat) (g : List Bl) (w : World) (hg : Gr w A g) (hn : g.length + aO g ≤ 1048576) (hcap : g.length ≤ cap) :
  Calls Tryz.prog 89 #[.slice A g.length cap] w fun e w' => e = .returned (.bool (dV g)) ∧ Below w.heap.size w w' := by
 have HC := GR (wC A cap g w hg hn hcap)
 clear hg
 go_enter Tryz.func89, Tryz.ntmps89
 go_wp2_with fail
 refine HC.out.mono ?_
 rintro e w1 ⟨v, rfl, hown, b1⟩
 have HB1 := GR b1
 by_cases hv : aa g = true
 ·rw [if_pos hv] at hown
  obtain ⟨A2, cap2, rfl, -⟩ := gO hown
  rw [hv]
  have HV := GR hv
  clear b1 hown hv
  simp only [List.length_map]
  by_cases hz : (bw g dj).length = 0
  ·have hzI : (((bw g dj).length : Int) == 0) = true := by rw [hz]; rfl
   have HZ := GR hz
   clear hz
   go_wp2_with fail
   go_ret
   exact ⟨jE (by unfold dV; rw [HV.out, decide_eq_true HZ.out]; rfl), HB1.out⟩
  ·have hzI : (((bw g dj).length : Int) == 0) = false := beq_eq_false_iff_ne.2 fun e => hz (Int.ofNat.inj e)
   have HZ := GR hz
   clear hz
   go_wp2_with fail
   go_ret
   exact ⟨jE (by unfold dV; rw [HV.out, decide_eq_false HZ.out]; rfl), HB1.out⟩
 ·have hv : aa g = false := by simpa using hv
  rw [hv]
  have HV := GR hv
  clear b1 hown hv
  go_wp2_with fail
  go_ret
  exact ⟨jE (by unfold dV; rw [HV.out]; rfl), HB1.out⟩
end Go.Proofs.YtlkfakdghjaoaaaGreatDoor
namespace Go.Proofs.YtlkfakdghjaoaaaGreatDoor
open Go.RowKit Go.Sort
theorem wD {L : List (Nat × Nat)} {k : Nat} (h : k < L.length) : (L.take (k + 1)).map (·.2) = (L.take k).map (·.2) ++ [L[k].2] := by
 rw [List.take_succ_eq_append_getElem h, List.map_append]; rfl
theorem ux (A : Option Addr) (cap : Nat) (g : List Bl) (w : World) (hg : Gr w A g) (hn : g.length + aO g ≤ 1048576) (hv : aa g = true) :
  Calls Tryz.prog 142 #[.slice A g.length cap] w fun e w' => e = .returned (.string (ae g (aL g))) ∧ Below w.heap.size w w' := by
 have HC := GR (rl A cap g w hg (by omega) hv)
 have hLl := oa hv aS
 have HLT := GR (fun j (hj : j ∈ bw g aS) => wz hv hj)
 have HE0 := GR (Dc hv)
 obtain ⟨L, hL⟩ : ∃ L, L = bw g aS := ⟨_, rfl⟩
 rw [← hL] at HC hLl HLT HE0
 have HG := GR hg
 have HV := GR hv
 clear hg hv hL
 go_enter Tryz.func142, Tryz.ntmps142
 go_wp2_with fail
 refine HC.out.mono ?_
 rintro e w1 ⟨v, rfl, hown, b1⟩
 obtain ⟨A2, cap2, rfl, -⟩ := gO hown
 have hlm : (L.map (jt g)).length = L.length := List.length_map _
 have HLW := GR hown
 have HB1 := GR b1
 have HG1 := GR (HG.out.below b1)
 clear b1 hown
 go_wp2_with fail
 go_loop [3, 9] (fun sv iv => ∃ (k : Nat) (out : ByteArray), k ≤ L.length ∧ iv = .int .i64 k ∧ sv = .string out ∧ out.size = k ∧ Hid (out = ae g ((L.take k).map (·.2)))) (fun _ iv => L.length - (intOf iv).toNat)
 case atStart => exact ⟨0, ⟨#[]⟩, Nat.zero_le _, rfl, rfl, rfl, (show (⟨#[]⟩ : ByteArray) = ae g ((L.take 0).map (·.2)) from rfl)⟩
 case round =>
  obtain ⟨k, out, hk, rfl, rfl, hoz, HO⟩ := hrel
  by_cases hlt : k < L.length
  ·obtain ⟨b, off, rfl, hb, hc⟩ := HLW.out.strs (by omega)
   have x0 := hc k (by omega)
   obtain ⟨j, hj⟩ : ∃ j, j = L[k] := ⟨_, rfl⟩
   obtain ⟨txt, htx⟩ : ∃ txt, txt = jt g j := ⟨_, rfl⟩
   have hget : (L.map (jt g))[k]'(by omega) = txt := by rw [List.getElem_map, htx, hj]
   rw [hget] at x0
   obtain ⟨h1, h2⟩ := HLT.out j (hj ▸ List.getElem_mem hlt)
   obtain ⟨hz, e1, e2⟩ := wA HV.out h1 h2
   rw [← htx] at hz e1 e2
   have l2 : (1 : Int) ≤ txt.size := by omega
   have hez : (txt.extract 1 2).size = 1 := by rw [e2]; exact e8 HV.out h2
   have hez2 : out.size + (txt.extract 1 2).size ≤ 1048576 := by omega
   have HO2 := GR (show out ++ txt.extract 1 2 = ae g ((L.take (k + 1)).map (·.2)) by
    rw [wD hlt, be, bp, ← HO.out, e2, ← hj])
   clear hc hb hget htx hj e1 e2 h1 h2
   go_wp2_with fail
   go_round
   case rel => exact ⟨k + 1, _, by omega, by go_num, rfl, by rw [ByteArray.size_append]; omega, HO2.out⟩
   case measure => simp [intOf]; omega
  ·have HS := GR (og A cap g (L.map (·.2)) out w1 HG1.out hn HV.out (fun i hi => by
    obtain ⟨j, hj, rfl⟩ := List.mem_map.1 hi
    exact (HLT.out j hj).2) (by rw [HO.out, List.take_of_length_le (by omega)]) (by omega))
   rw [HE0.out] at HS
   go_wp2_with fail
   refine HS.out.mono ?_
   rintro e w3 ⟨rfl, b3⟩
   have HB3 := GR (af HB1.out b3)
   clear b3
   go_wp2_with fail
   go_ret
   exact ⟨rfl, HB3.out⟩
end Go.Proofs.YtlkfakdghjaoaaaGreatDoor
namespace Go.Proofs.YtlkfakdghjaoaaaGreatDoor
open Go.RowKit Go.Sort
end Go.Proofs.YtlkfakdghjaoaaaGreatDoor
namespace Go.Proofs.YtlkfakdghjaoaaaGreatDoor
open Go.RowKit Go.Sort
end Go.Proofs.YtlkfakdghjaoaaaGreatDoor
