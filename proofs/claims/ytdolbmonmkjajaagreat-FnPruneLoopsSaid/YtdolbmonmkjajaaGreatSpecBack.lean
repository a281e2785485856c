/-
  Contract of the model's count of jumps that go forward to a block.
-/
import Derived.Test.YtdolbmonmkjajaaGreatKinds
import Derived.Test.YtdolbmonmkjajaaGreatSpecDom
import Derived.Test.YtdolbmonmkjajaaGreatValids
import Derived.Test.YtdolbmonmkjajaaGreatSpecReached
import Derived.Maps.AppendAt
import Derived.Test.YtdolbmonmkjajaaGreatKids
import Derived.Test.YtdolbmonmkjajaaGreatLoopMath
namespace Go.Proofs.YtdolbmonmkjajaaGreat
open Go.RowKit Go.Sort

/-- Where the letter of a block stands among names. -/
theorem idx_place {g : List Bl} (hv : validB g = true) {l : List Nat} (hl : ∀ i ∈ l, i < g.length) {t : Nat} (hm : t ∈ l) {c : UInt8} (ht : t < g.length) (hc : g[t].1 = ⟨#[c]⟩) : Lib.indexByte (namesAt g l).data.toList c = (placeIn l t : Int) := by
  obtain ⟨o, ho⟩ := Int.eq_ofNat_of_zero_le ((idx_namesAt hv hl ht hc).2 hm)
  have ho' : Lib.indexByte (namesAt g l).data.toList c = (o : Int) := ho
  obtain ⟨h1, h2⟩ := Lib.indexByte_some ho'
  have hp := placeIn_lt hm
  have hpt := placeIn_get hm
  obtain ⟨_, e1⟩ := namesAt_get hv hl hp
  have e2 : (namesAt g l).data.toList[placeIn l t]? = some c := by
    rw [e1]
    simp only [hpt, hc]; rfl
  have hle : o ≤ placeIn l t := Nat.le_of_not_lt fun h => h2 _ h e2
  have hol : o < l.length := by omega
  obtain ⟨h3, e3⟩ := namesAt_get hv hl hol
  rw [h1] at e3
  obtain ⟨d, hd, _⟩ := valid_one hv (List.getElem_mem h3)
  have hcd : c = d := by
    rw [hd] at e3
    simpa using e3
  have hx : l[o] = t := name_inj hv h3 ht (by rw [hd, hc, hcd])
  have hge : placeIn l t ≤ o := by
    rcases Nat.lt_or_ge o (placeIn l t) with h | h
    · have := List.not_of_lt_findIdx (xs := l) (p := fun y => decide (y = t)) h
      simp [hx] at this
    · exact h
  rw [ho']
  congr 1
  omega

set_option maxRecDepth 100000 in
set_option maxHeartbeats 2000000 in
theorem l4Forward_any (A : Option Addr) (cap : Nat) (g : List Bl) (nm : ByteArray) (t : Nat) (w : World) (hg : Gr w A g) (hn : g.length ≤ 1048576) (hv : validB g = true) (hr : Rch g [] t) (hnm : nm = nthName g t) :
    Calls Tryz.prog 73 #[.slice A g.length cap, .string nm] w fun e w' => e = .returned (.int .i64 (srcL g fwdK t).length) ∧ Below w.heap.size w w' := by
  have h26 := (valid_iff.1 hv).2.1
  have htl := hr.lt hv
  have hz : nm.size = 1 := by rw [hnm]; exact one_size hv htl
  have h0 : 0 < nm.size := by omega
  have hnmc : g[t].1 = ⟨#[nm[0]]⟩ := by
    rw [← nthName_at htl, ← hnm]; exact one_byte hz
  have HO := Lib.hid (l4Order_any A cap g w hg hn hv)
  obtain ⟨o, ho⟩ : ∃ o, o = namesAt g (wayOrd g) := ⟨_, rfl⟩
  have hos : o.size = (wayOrd g).length := by rw [ho]; exact namesAt_size hv _ (wayOrd_lt hv)
  have hol := wayOrd_len hv
  rw [← ho] at HO
  have hpm := (mem_wayOrd hv).2 hr
  have hidx := idx_place hv (wayOrd_lt hv) hpm htl hnmc
  rw [← ho] at hidx
  have hpl := placeIn_lt hpm
  have HCN := Lib.hid (fwd_count hv t)
  obtain ⟨p, hp⟩ : ∃ p, p = placeIn (wayOrd g) t := ⟨_, rfl⟩
  rw [← hp] at hidx hpl
  have hos2 : o.size ≤ 26 := by omega
  have HF : Hid (∀ w, Calls Tryz.prog 53 #[.string o, .int .u8 nm[0].toNat] w fun e w' => e = .returned (.int .i64 p) ∧ w = w') := fun w => by
    rw [← hidx]; exact find_any o nm[0] w (by omega)
  have HPP := Lib.hid (show p = placeN g t from hp)
  have HNC := Lib.hid hnmc
  have HOO := Lib.hid ho
  have HOS := Lib.hid hos
  have HG := Lib.hid hg
  have HV := Lib.hid hv
  clear ho hg hv hos hpm hidx hp hnmc hnm hr
  go_enter Tryz.func73, Tryz.ntmps73
  go_wp2_with fail
  refine HO.out.mono ?_
  rintro e w1 ⟨rfl, b1⟩
  have HB1 := Lib.hid b1
  clear b1
  go_wp2_with fail
  refine (HF.out _).mono ?_
  rintro e w2 ⟨rfl, rfl⟩
  go_wp2_with fail
  go_loopw [6, 14] (fun cv iv wr => ∃ (k c : Nat), k ≤ p ∧ iv = .int .i64 k ∧ cv = .int .i64 c ∧ c ≤ k ∧ Hid (c = (((wayOrd g).take k).filter fun i => decide (t ∈ nxt g i)).length) ∧ Hid (Below w.heap.size w wr)) (fun _ iv _ => p - (intOf iv).toNat)
  case atStart => exact ⟨0, 0, Nat.zero_le _, rfl, rfl, Nat.le_refl _, (show 0 = (((wayOrd g).take 0).filter fun i => decide (t ∈ nxt g i)).length by simp), HB1.out⟩
  case round =>
    obtain ⟨k, c, hk, rfl, rfl, hck, HC, HB⟩ := hrel
    by_cases hlt : k < p
    · have hlt' : k < (wayOrd g).length := by omega
      obtain ⟨x, hx⟩ : ∃ x, x = (wayOrd g)[k] := ⟨_, rfl⟩
      have hxl : x < g.length := hx ▸ wayOrd_lt HV.out _ (List.getElem_mem hlt')
      obtain ⟨_, hcut⟩ := namesAt_cut HV.out (wayOrd_lt HV.out) hlt'
      have hex : o.extract k (k + 1) = nthName g x := by rw [HOO.out, hcut, nthName_at hxl]; congr 2; exact hx.symm
      have hk1 : k + 1 ≤ o.size := by rw [HOS.out]; omega
      have HFT := Lib.hid (filter_take (p := fun i => decide (t ∈ nxt g i)) hlt')
      have HX := Lib.hid hx
      have hga := HG.out.below HB.out
      obtain ⟨nx, hnx⟩ : ∃ nx, nx = g[x].2 := ⟨_, rfl⟩
      have hnx2 : nx.size ≤ 2 := by rw [hnx]; have := nxt_length hxl; have := nxt_two' HV.out hxl; omega
      have cN : ∀ d os, Calls Tryz.prog 108 #[.slice A g.length cap, .string (o.extract k (k + 1))] (grow (redrawn wr d) os) fun e w'' => e = .returned (.string nx) ∧ ∃ p : Regrown, w'' = grow (redrawn wr p.d) p.os := fun d os => by
        have := l1Next_any A cap g (o.extract k (k + 1)) x (grow (redrawn wr d) os) (gr_grown hga d os) hn (by rw [hex, nthName_at hxl]; exact posOf_name HV.out hxl) hxl
        rw [← hnx] at this
        exact Calls.regrown_of this
      obtain ⟨q, hq⟩ : ∃ q, q = Lib.indexByte nx.data.toList nm[0] := ⟨_, rfl⟩
      have cF : ∀ d os, Calls Tryz.prog 53 #[.string nx, .int .u8 nm[0].toNat] (grow (redrawn wr d) os) fun e w'' => e = .returned (.int .i64 q) ∧ ∃ p : Regrown, w'' = grow (redrawn wr p.d) p.os := fun d os => by
        have := same_grown (find_any nx nm[0] (grow (redrawn wr d) os) (by omega))
        rwa [← hq] at this
      have hqm : 0 ≤ q ↔ t ∈ nxt g x := by
        rw [hq, idx_mem, nxt_mem HV.out hxl htl HNC.out, hnx]
      clear hx hcut hex hnx hq hga
      by_cases hin : t ∈ nxt g x
      · have q0 : 0 ≤ q := hqm.2 hin
        have q1 : decide (0 ≤ q) = true := by simpa using q0
        have HC2 := Lib.hid (show c + 1 = (((wayOrd g).take (k + 1)).filter fun i => decide (t ∈ nxt g i)).length by
          rw [HFT.out, ← HX.out, decide_eq_true hin, if_pos rfl, List.length_append, ← HC.out]; rfl)
        clear hqm hin
        go_wp2_with fail
        refine wp_region_quiet_below (by kernel_rfl) (by kernel_rfl) ?_
        repeat (any_goals (first | go_big_quiet_step (first | with_reducible exact cN _ _ | with_reducible exact cF _ _) | quiet_step (first | with_reducible exact cN _ _ | with_reducible exact cF _ _)))
        all_goals (refine wpQuiet_nil ?_; intro _ hw'; obtain ⟨⟨dq, osq⟩, hw''⟩ := hw'; subst hw'')
        have hb2 := below_regrown wr dq osq
        generalize grow (redrawn wr dq) osq = w2 at hb2 ⊢
        have HB2 := Lib.hid (below_trans_self HB.out hb2)
        clear cN cF hb2
        go_wp2_with fail
        go_roundw
        case rel => exact ⟨k + 1, c + 1, by omega, by go_num, by go_num, by omega, HC2.out, HB2.out⟩
        case measure => simp [intOf]; omega
      · have q0 : ¬ 0 ≤ q := fun h => hin (hqm.1 h)
        have q1 : decide (0 ≤ q) = false := by simpa using q0
        have HC2 := Lib.hid (show c = (((wayOrd g).take (k + 1)).filter fun i => decide (t ∈ nxt g i)).length by
          rw [HFT.out, ← HX.out, decide_eq_false hin, if_neg (by simp), List.append_nil, ← HC.out])
        clear hqm hin
        go_wp2_with fail
        refine wp_region_quiet_below (by kernel_rfl) (by kernel_rfl) ?_
        repeat (any_goals (first | go_big_quiet_step (first | with_reducible exact cN _ _ | with_reducible exact cF _ _) | quiet_step (first | with_reducible exact cN _ _ | with_reducible exact cF _ _)))
        all_goals (refine wpQuiet_nil ?_; intro _ hw'; obtain ⟨⟨dq, osq⟩, hw''⟩ := hw'; subst hw'')
        have hb2 := below_regrown wr dq osq
        generalize grow (redrawn wr dq) osq = w2 at hb2 ⊢
        have HB2 := Lib.hid (below_trans_self HB.out hb2)
        clear cN cF hb2
        go_wp2_with fail
        go_roundw
        case rel => exact ⟨k + 1, c, by omega, by go_num, rfl, by omega, HC2.out, HB2.out⟩
        case measure => simp [intOf]; omega
    · have HE := Lib.hid (show (c : Int) = (((srcL g fwdK t).length : Nat) : Int) by
        rw [← HCN.out, ← HPP.out, show p = k by omega, ← HC.out])
      go_wp2_with fail
      go_ret
      exact ⟨ret_int HE.out, HB.out⟩
end Go.Proofs.YtdolbmonmkjajaaGreat

/-
  Contract of the model's list of jumps back.
-/
namespace Go.Proofs.YtdolbmonmkjajaaGreat
open Go.RowKit Go.Sort Go.Deep

attribute [local go_sem] Oper.semAt_some

/-- Names cut behind the k-th. -/
theorem names_upto {g : List Bl} {l : List Nat} {k : Nat} (hv : validB g = true) (hl : ∀ i ∈ l, i < g.length) (hk : k ≤ l.length) : (namesAt g l).extract 0 k = namesAt g (l.take k) := by
  have e : namesAt g l = namesAt g (l.take k) ++ namesAt g (l.drop k) := by rw [← namesAt_append, List.take_append_drop]
  have hz : (namesAt g (l.take k)).size = k := by rw [namesAt_size hv _ fun i hi => hl i ((List.take_subset _ _) hi), List.length_take]; omega
  rw [e]
  apply ba_ext
  have hl2 : (namesAt g (l.take k)).data.toList.length = k := by rw [Array.length_toList]; exact hz
  rw [← Lib.toList_data, Lib.extract_toList]
  simp only [List.drop_zero, Nat.sub_zero, ByteArray.data_append, Array.toList_append]
  rw [List.take_append_of_le_length (by omega), List.take_of_length_le (by omega)]

theorem jt_names {g : List Bl} (hv : validB g = true) {x t : Nat} (hx : x < g.length) (ht : t < g.length) : nthName g x ++ nthName g t = jt g (x, t) := by
  rw [nthName_at hx, nthName_at ht, letC_name hv hx, letC_name hv ht]
  rfl

/-- Whether a jump goes back, by the letters. -/
theorem back_seen {g : List Bl} (hv : validB g = true) {x t : Nat} {c : UInt8} (ht : Rch g [] t) (hn : (g[t]'(ht.lt hv)).1 = ⟨#[c]⟩) {k : Nat} (hk : k < (wayOrd g).length) (hxk : x = (wayOrd g)[k]) :
    0 ≤ Lib.indexByte ((namesAt g (wayOrd g)).extract 0 (k + 1)).data.toList c ↔ backK (kindN g x t) = true := by
  rw [names_upto hv (wayOrd_lt hv) (by omega), idx_namesAt hv (fun i hi => wayOrd_lt hv i ((List.take_subset _ _) hi)) (ht.lt hv) hn, placeIn_take (wayOrd_nodup hv) ((mem_wayOrd hv).2 ht), backK_kind, decide_eq_true_iff]
  have : placeN g x = k := by rw [hxk]; exact placeIn_at (wayOrd_nodup hv) hk
  show placeN g t < k + 1 ↔ _
  rw [this]; omega

set_option maxRecDepth 100000 in
set_option maxHeartbeats 4000000 in
theorem l4Back_any (A : Option Addr) (cap : Nat) (g : List Bl) (w : World) (hg : Gr w A g) (hn : g.length ≤ 1048576) (hv : validB g = true) :
    Calls Tryz.prog 70 #[.slice A g.length cap] w fun e w' => ∃ v, e = .returned v ∧ OwnJ w' g w.heap.size v (jumpL g backK) ∧ Below w.heap.size w w' := by
  have h26 := (valid_iff.1 hv).2.1
  obtain ⟨i0, hi, hz0, hz1, hz2⟩ := info_parts info_str
  have b0 := (Below.refl w.heap.size w).alloc (Nat.le_refl _) (.cells #[] 9)
  have HO := Lib.hid (l4Order_any A cap g _ (hg.below b0) hn hv)
  have HOW := Lib.hid (World.ownsRow_made (base := w.heap.size) (e := 9) (size := 1) w #[] 0 (Nat.le_refl _) (Nat.zero_le _) rfl)
  obtain ⟨o, ho⟩ : ∃ o, o = namesAt g (wayOrd g) := ⟨_, rfl⟩
  have hos : o.size = (wayOrd g).length := by rw [ho]; exact namesAt_size hv _ (wayOrd_lt hv)
  have hol := wayOrd_len hv
  rw [← ho] at HO
  have hos2 : o.size ≤ 26 := by omega
  have HOO := Lib.hid ho
  have HOS := Lib.hid hos
  have HG := Lib.hid hg
  have HV := Lib.hid hv
  have HB0 := Lib.hid b0
  clear ho hg hv hos b0
  go_enter Tryz.func70, Tryz.ntmps70
  go_wp2_with fail
  refine HO.out.mono ?_
  rintro e w1 ⟨rfl, b1⟩
  have HO1 : Hid (OwnJ w1 g w.heap.size (.slice (some ⟨w.heap.size, 0, none⟩) 0 0) []) := ownRow_below HOW.out b1
  have HB1 := Lib.hid (below_trans_self HB0.out b1)
  clear b1
  go_wp2_with fail
  go_loopw [3, 13] (fun pv iv wr => ∃ (k : Nat) (P : List (Nat × Nat)), k ≤ o.size ∧ iv = .int .i64 k ∧ P.length ≤ 2 * k ∧ Hid (P = ((wayOrd g).take k).flatMap (jumpsOf1 g backK)) ∧ Hid (OwnJ wr g w.heap.size pv P) ∧ Hid (Below w.heap.size w wr)) (fun _ iv _ => o.size - (intOf iv).toNat)
  case atStart => exact ⟨0, [], Nat.zero_le _, rfl, by simp, (show ([] : List (Nat × Nat)) = ((wayOrd g).take 0).flatMap (jumpsOf1 g backK) by simp), HO1.out, HB1.out⟩
  case round =>
    obtain ⟨k, P, hk, rfl, hPl, HP, HOWN, HB⟩ := hrel
    by_cases hlt : k < o.size
    · have hlt' : k < (wayOrd g).length := by rw [← HOS.out]; exact hlt
      obtain ⟨x, hx⟩ : ∃ x, x = (wayOrd g)[k] := ⟨_, rfl⟩
      have hxr := (mem_wayOrd HV.out).1 (hx ▸ List.getElem_mem hlt' : x ∈ wayOrd g)
      have hxl : x < g.length := hxr.lt HV.out
      obtain ⟨_, hcut⟩ := namesAt_cut HV.out (wayOrd_lt HV.out) hlt'
      have hex : o.extract k (k + 1) = nthName g x := by rw [HOO.out, hcut, nthName_at hxl]; congr 2; exact hx.symm
      have hk1 : k + 1 ≤ o.size := by omega
      obtain ⟨nx, hnx⟩ : ∃ nx, nx = g[x].2 := ⟨_, rfl⟩
      have hnl : (nxt g x).length = nx.size := by rw [hnx]; exact nxt_length hxl
      have hnx2 : nx.size ≤ 2 := by rw [hnx]; exact nxt_two' HV.out hxl
      have HN := Lib.hid (l1Next_any A cap g (o.extract k (k + 1)) x wr (HG.out.below HB.out) hn (by rw [hex, nthName_at hxl]; exact posOf_name HV.out hxl) hxl)
      rw [← hnx] at HN
      have HEX := Lib.hid hex
      have HX := Lib.hid hx
      have HXR := Lib.hid hxr
      have HNX := Lib.hid hnx
      clear hx hcut hex hxr hnx
      have hez : (o.extract k (k + 1)).size = 1 := by rw [HEX.out]; exact one_size HV.out hxl
      go_wp2_with fail
      refine HN.out.mono ?_
      rintro e w3 ⟨rfl, b3⟩
      have HOWN3 := Lib.hid (own_below HOWN.out b3)
      have HB3 := Lib.hid (below_trans_self HB.out b3)
      clear b3
      go_wp2_with fail
      go_loopw [3, 25] (fun pv iv wr => ∃ (p : Nat) (P2 : List (Nat × Nat)), p ≤ nx.size ∧ iv = .int .i64 p ∧ P2.length ≤ 2 * k + p ∧ Hid (P2 = P ++ (((nxt g x).take p).filter fun t => backK (kindN g x t)).map fun t => (x, t)) ∧ Hid (OwnJ wr g w.heap.size pv P2) ∧ Hid (Below w.heap.size w wr)) (fun _ iv _ => nx.size - (intOf iv).toNat)
      case atStart => exact ⟨0, P, Nat.zero_le _, rfl, by omega, (show P = P ++ (((nxt g x).take 0).filter fun t => backK (kindN g x t)).map fun t => (x, t) by simp), HOWN3.out, HB3.out⟩
      case round =>
        obtain ⟨p, P2, hp, rfl, hP2l, HP2, HOWN4, HB4⟩ := hrel
        have hsz4 := HB4.out.size
        by_cases hpl : p < nx.size
        · have hpl' : p < (nxt g x).length := by omega
          obtain ⟨t, ht, hget, _, hnm⟩ := nxt_get HV.out hxl (k := p) (by rw [← HNX.out]; exact hpl)
          have hgx : ∀ h : p < g[x].2.size, g[x].2[p]'h = nx[p] := fun h => by
            have e := HNX.out
            subst e; rfl
          rw [hgx] at hnm
          have htm : t ∈ nxt g x := List.mem_of_getElem? hget
          have htr : Rch g [] t := .step HXR.out htm (by simp)
          have HKZ := Lib.hid (show (nxt g x).take (p + 1) = (nxt g x).take p ++ [t] by
            rw [List.take_succ_eq_append_getElem hpl']
            rw [List.getElem?_eq_getElem hpl'] at hget
            rw [Option.some.inj hget])
          have hp1 : p + 1 ≤ nx.size := by omega
          have hext : nx.extract p (p + 1) = nthName g t := by rw [ex_byte _ (a := p) (b := p + 1) (by omega) (by omega) (by omega), nthName_at ht, hnm]
          have hxz : (nx.extract p (p + 1)).size = 1 := by rw [hext]; exact one_size HV.out ht
          have HTX := Lib.hid (show o.extract k (k + 1) ++ nx.extract p (p + 1) = jt g (x, t) by rw [HEX.out, hext]; exact jt_names HV.out hxl ht)
          obtain ⟨q, hq⟩ : ∃ q, q = Lib.indexByte (o.extract 0 (k + 1)).data.toList nx[p] := ⟨_, rfl⟩
          have hqs := back_seen HV.out htr hnm hlt' HX.out
          rw [← HOO.out, ← hq] at hqs
          have tC := fun n => Calls.quiet_of_same ((find_any (o.extract 0 (k + 1)) nx[p] (wr.drewN n) (by rw [ByteArray.size_extract]; omega)).mono fun _ _ ⟨a, b⟩ => ⟨a, b.symm⟩)
          rw [← hq] at tC
          clear hget hnm hgx hext htm htr hq
          by_cases hb : backK (kindN g x t) = true
          · have q0 : (0 : Int) ≤ q := hqs.2 hb
            have q1 : decide (0 ≤ q) = true := by simpa using q0
            have HP3 := Lib.hid (show P2 ++ [(x, t)] = P ++ (((nxt g x).take (p + 1)).filter fun t => backK (kindN g x t)).map fun t => (x, t) by
              rw [HKZ.out, List.filter_append, List.map_append, ← List.append_assoc, ← HP2.out]
              congr 1
              rw [List.filter_cons, hb]; rfl)
            clear hqs hb
            go_wp2_with fail
            go_quiet (with_reducible exact tC _)
            have HO8 := Lib.hid (own_below HOWN4.out (below_drewN wr nq))
            have HB8 := Lib.hid (HB4.out.trans ((below_drewN wr nq).mono HB4.out.size))
            obtain ⟨w8, hw8⟩ : ∃ w8, w8 = wr.drewN nq := ⟨_, rfl⟩
            rw [← hw8] at HO8 HB8 ⊢
            have hszq := HB8.out.size
            have hlm : (P2.map (jt g)).length = P2.length := List.length_map _
            have s1 : IntKind.i64.wrap ((k : Int) + 1) = (k : Int) + 1 := IntWalk.i64_in _ (by omega)
            have s2 : IntKind.i64.wrap ((p : Int) + 1) = (p : Int) + 1 := IntWalk.i64_in _ (by omega)
            have s3 : ((k : Int) + 1).toNat = k + 1 := by omega
            have s4 : ((p : Int) + 1).toNat = p + 1 := by omega
            have s5 : (k : Int) + 1 ≤ o.size := by omega
            have s6 : (p : Int) + 1 ≤ nx.size := by omega
            have s7 : (0 : Int) ≤ (k : Int) + 1 := by omega
            have s8 : (0 : Int) ≤ (p : Int) + 1 := by omega
            have s9 : (k : Int) ≤ (k : Int) + 1 := by omega
            have s10 : (p : Int) ≤ (p : Int) + 1 := by omega
            clear hw8 tC
            go_wp2_with fail
            go_region_law ((refine step_append_lies _ (by rfl) _ _ _ (by rfl) w.heap.size 9 i0 _ 1 16 Tryz.underlying34 hi hz0 hz1 hz2 rfl (by omega) _ _ _ (by rfl) ((HO8.out.alloc _).drew) ⟨w8.heap.size, 0, none⟩ 1 1 [.string (o.extract k (k + 1) ++ nx.extract p (p + 1))] (by rfl) (by rfl) (World.news_of_block (cs := #[.string (o.extract k (k + 1) ++ nx.extract p (p + 1))]) (t := 9) (fr := (0, 0)) (heap_alloc_new w8 _)) (by simp [Value.oneCell']) (by omega) (by unfold maxLen; omega) (by omega) (by simp; omega) (w8.heap.size + 1) (by simp) ?_; intro gg capg w5 hown5 hgrow hat hltg))
            have hsz := ((HO8.out.alloc (.cells #[.string (o.extract k (k + 1) ++ nx.extract p (p + 1))] 9)).drew).lt
            have hB5 := ((HB8.out.alloc hszq (.cells #[.string (o.extract k (k + 1) ++ nx.extract p (p + 1))] 9)).drew).grown hgrow (by simp; omega) (fun j hj => (hsz j hj).1)
            have HB5 := Lib.hid hB5
            have HO5 : Hid (OwnJ w5 g w.heap.size (.slice (some ⟨gg, 0, none⟩) (P2.length + 1) capg) (P2 ++ [(x, t)])) := by
              show w5.ownsRow w.heap.size 9 1 _ ((P2 ++ [(x, t)]).map (jt g)).length (((P2 ++ [(x, t)]).map (jt g)).map Value.string)
              rw [List.map_append, List.length_append, List.map_append, List.map_singleton, ← HTX.out, hlm]
              rw [hlm] at hown5
              exact hown5
            clear hown5 hsz hgrow hat hB5
            go_wp2_with fail
            go_roundw
            case rel => exact ⟨p + 1, P2 ++ [(x, t)], by omega, by go_num, by simp; omega, HP3.out, HO5.out, HB5.out⟩
            case measure => simp [intOf]; omega
          · have q0 : ¬ (0 : Int) ≤ q := fun h => hb (hqs.1 h)
            have q1 : decide (0 ≤ q) = false := by simpa using q0
            have HP3 := Lib.hid (show P2 = P ++ (((nxt g x).take (p + 1)).filter fun t => backK (kindN g x t)).map fun t => (x, t) by
              rw [HKZ.out, List.filter_append, List.map_append, ← List.append_assoc, ← HP2.out, List.filter_cons, if_neg hb]
              simp)
            clear hqs hb
            go_wp2_with fail
            go_quiet (with_reducible exact tC _)
            have HO8 := Lib.hid (own_below HOWN4.out (below_drewN wr nq))
            have HB8 := Lib.hid (HB4.out.trans ((below_drewN wr nq).mono HB4.out.size))
            clear tC
            go_wp2_with fail
            go_roundw
            case rel => exact ⟨p + 1, P2, by omega, by go_num, by omega, HP3.out, HO8.out, HB8.out⟩
            case measure => simp [intOf]; omega
        · have HE := Lib.hid (show P2 = ((wayOrd g).take (k + 1)).flatMap (jumpsOf1 g backK) by
            rw [HP2.out, jumps_round hlt' HX.out, List.take_of_length_le (by omega), HP.out]; rfl)
          go_wp2_with fail
          go_roundw
          case rel => exact ⟨k + 1, P2, by omega, by go_num, by omega, HE.out, HOWN4.out, HB4.out⟩
          case measure => simp [intOf]; omega
    · have HE := Lib.hid (show P = jumpL g backK by rw [HP.out, List.take_of_length_le (by rw [← HOS.out]; omega)]; rfl)
      go_wp2_with fail
      go_ret
      exact ⟨_, rfl, by rw [← HE.out]; exact HOWN.out, HB.out⟩

theorem specBack_any (A : Option Addr) (cap : Nat) (g : List Bl) (w : World) (hg : Gr w A g) (hn : g.length + tot g ≤ 1048576) (hcap : g.length ≤ cap) :
    Calls Tryz.prog 24 #[.slice A g.length cap] w (JumpsPost backK w g) := by
  unfold JumpsPost
  have HC := Lib.hid (specValid_any A cap g w hg hn hcap)
  by_cases hv : validB g = true
  · rw [hv] at HC
    rw [if_pos hv, hv]
    have HB := Lib.hid (fun w' (h : Gr w' A g) => l4Back_any A cap g w' h (by omega) hv)
    have HG := Lib.hid hg
    clear hg hv
    go_enter Tryz.func24, Tryz.ntmps24
    go_wp2_with fail
    refine HC.out.mono ?_
    rintro e w1 ⟨rfl, b1⟩
    have HL := Lib.hid (HB.out w1 (HG.out.below b1))
    have HB1 := Lib.hid b1
    clear b1
    go_wp2_with fail
    refine HL.out.mono ?_
    rintro e w2 ⟨v, rfl, hown, b2⟩
    have HW := Lib.hid (own_lower hown HB1.out.size)
    have HB2 := Lib.hid (below_trans_self HB1.out b2)
    clear hown b2
    go_wp2_with fail
    go_ret2
    exact ⟨v, rfl, HW.out, HB2.out⟩
  · have hv : validB g = false := by simpa using hv
    rw [hv] at HC
    rw [if_neg (by rw [hv]; simp), hv]
    clear hg hv
    go_enter Tryz.func24, Tryz.ntmps24
    go_wp2_with fail
    refine HC.out.mono ?_
    rintro e w1 ⟨rfl, b1⟩
    have hs1 := b1.size
    have HB1 := Lib.hid (b1.alloc hs1 (.cells #[] 9))
    have HO := Lib.hid (World.ownsRow_made (base := w.heap.size) (e := 9) (size := 1) w1 #[] 0 hs1 (Nat.zero_le _) rfl)
    clear b1
    go_wp2_with fail
    go_ret2
    exact ⟨_, rfl, HO.out, HB1.out⟩
end Go.Proofs.YtdolbmonmkjajaaGreat

/-
  Contracts of the model's WildJumps and IsTame.
-/
namespace Go.Proofs.YtdolbmonmkjajaaGreat
open Go.RowKit Go.Sort Go.Deep

attribute [local go_sem] Oper.semAt_some

theorem jumpsOf1_len {g : List Bl} (hv : validB g = true) {K : Nat → Bool} {i : Nat} (hi : i < g.length) : (jumpsOf1 g K i).length ≤ 2 := by
  unfold jumpsOf1
  rw [List.length_map]
  have := List.length_filter_le (fun t => K (kindN g i t)) (nxt g i)
  have := nxt_two' hv hi
  have := nxt_length hi
  omega

theorem flat_len {f : Nat → List (Nat × Nat)} : ∀ {l : List Nat}, (∀ i ∈ l, (f i).length ≤ 2) → (l.flatMap f).length ≤ 2 * l.length
  | [], _ => by simp
  | i :: l, h => by
    have ih := flat_len (l := l) fun j hj => h j (List.mem_cons_of_mem _ hj)
    have := h i (by simp)
    rw [List.flatMap_cons, List.length_append, List.length_cons]
    omega

theorem jumpL_len {g : List Bl} (hv : validB g = true) (K : Nat → Bool) : (jumpL g K).length ≤ 52 := by
  have h1 := flat_len (f := jumpsOf1 g K) (l := wayOrd g) fun i hi => jumpsOf1_len (K := K) hv (wayOrd_lt hv i hi)
  have h2 := wayOrd_len hv
  have h3 := (valid_iff.1 hv).2.1
  unfold jumpL
  omega

theorem jumpL_lt {g : List Bl} (hv : validB g = true) {K : Nat → Bool} {j : Nat × Nat} (hj : j ∈ jumpL g K) : j.1 < g.length ∧ j.2 < g.length := by
  obtain ⟨h1, h2, _⟩ := (mem_jumpL hv).1 hj
  exact ⟨h1.lt hv, nxt_lt hv (h1.lt hv) h2⟩

theorem wild_kind (g : List Bl) (i t : Nat) : wildK (kindN g i t) = (!dmB g t i && backK (kindN g i t)) := by
  unfold kindN
  by_cases h : placeN g i < placeN g t
  · rw [if_pos h]; simp [wildK, backK]
  · rw [if_neg h]
    cases dmB g t i <;> simp [wildK, backK]

theorem wild_filter (g : List Bl) : jumpL g wildK = (jumpL g backK).filter fun j => !dmB g j.2 j.1 := by
  unfold jumpL
  rw [List.filter_flatMap]
  congr 1
  funext i
  unfold jumpsOf1
  rw [List.filter_map, List.filter_filter]
  congr 1
  refine List.filter_congr fun t _ => ?_
  exact wild_kind g i t

theorem jt_parts {g : List Bl} (hv : validB g = true) {j : Nat × Nat} (h1 : j.1 < g.length) (h2 : j.2 < g.length) : (jt g j).size = 2 ∧ (jt g j).extract 0 1 = nthName g j.1 ∧ (jt g j).extract 1 2 = nthName g j.2 := by
  have hz : (jt g j).size = 2 := rfl
  refine ⟨hz, ?_, ?_⟩
  · rw [ex_byte _ (a := 0) (b := 1) (by omega) (by omega) (by omega), nthName_at h1, letC_name hv h1]; rfl
  · rw [ex_byte _ (a := 1) (b := 2) (by omega) (by omega) (by omega), nthName_at h2, letC_name hv h2]; rfl

theorem ret_vb {v : Value} {a b : Bool} (h : a = b) : Ending.returned (.tuple #[v, .bool a]) = .returned (.tuple #[v, .bool b]) := by rw [h]

set_option maxRecDepth 100000 in
set_option maxHeartbeats 4000000 in
theorem specWild_any (A : Option Addr) (cap : Nat) (g : List Bl) (w : World) (hg : Gr w A g) (hn : g.length + tot g ≤ 1048576) (hcap : g.length ≤ cap) :
    Calls Tryz.prog 37 #[.slice A g.length cap] w (JumpsPost wildK w g) := by
  unfold JumpsPost
  obtain ⟨i0, hi, hz0, hz1, hz2⟩ := info_parts info_str
  have b0 := (Below.refl w.heap.size w).alloc (Nat.le_refl _) (.cells #[] 9)
  have HC := Lib.hid (specBack_any A cap g _ (hg.below b0) hn hcap)
  have HOW := Lib.hid (World.ownsRow_made (base := w.heap.size) (e := 9) (size := 1) w #[] 0 (Nat.le_refl _) (Nat.zero_le _) rfl)
  obtain ⟨L, hL⟩ : ∃ L, L = if validB g = true then jumpL g backK else [] := ⟨_, rfl⟩
  have HLV := Lib.hid (show ∀ j ∈ L, validB g = true ∧ j.1 < g.length ∧ j.2 < g.length from fun j hj => by
    rw [hL] at hj
    by_cases hv : validB g = true
    · rw [if_pos hv] at hj; exact ⟨hv, jumpL_lt hv hj⟩
    · rw [if_neg hv] at hj; simp at hj)
  have hLl : L.length ≤ 52 := by
    rw [hL]
    by_cases hv : validB g = true
    · rw [if_pos hv]; exact jumpL_len hv backK
    · rw [if_neg hv]; simp
  have HW := Lib.hid (show (if validB g = true then jumpL g wildK else []) = L.filter fun j => !dmB g j.2 j.1 by
    rw [hL]
    by_cases hv : validB g = true
    · rw [if_pos hv, if_pos hv]; exact wild_filter g
    · rw [if_neg hv, if_neg hv]; rfl)
  rw [HW.out]
  unfold JumpsPost at HC
  rw [← hL] at HC
  have HG := Lib.hid hg
  have HB0 := Lib.hid b0
  clear hg b0 hL HW
  go_enter Tryz.func37, Tryz.ntmps37
  go_wp2_with fail
  refine HC.out.mono ?_
  rintro e w1 ⟨v, rfl, hown, b1⟩
  obtain ⟨A2, cap2, rfl, -⟩ := own_strs hown
  have hlm : (L.map (jt g)).length = L.length := List.length_map _
  have HLS := Lib.hid hown
  have HO1 : Hid (OwnJ w1 g w.heap.size (.slice (some ⟨w.heap.size, 0, none⟩) 0 0) []) := ownRow_below HOW.out b1
  have HB1 := Lib.hid (below_trans_self HB0.out b1)
  have HNE1 := Lib.hid (show (Value.slice A2 (L.map (jt g)).length cap2).ownBlock = none ∨ (Value.slice A2 (L.map (jt g)).length cap2).ownBlock ≠ (Value.slice (some ⟨w.heap.size, 0, none⟩) 0 0).ownBlock from by
    cases h : (Value.slice A2 (L.map (jt g)).length cap2).ownBlock with
    | none => exact .inl rfl
    | some b =>
      refine .inr fun e => ?_
      have h1 := (hown.lt b h).1
      have h2 : b = w.heap.size := by simpa [Value.ownBlock] using e
      simp at h1
      omega)
  clear b1 hown
  go_wp2_with fail
  go_loopw [4, 17] (fun pv iv wr => ∃ (k : Nat) (P : List (Nat × Nat)), k ≤ L.length ∧ iv = .int .i64 k ∧ P.length ≤ k ∧ Hid (P = (L.take k).filter fun j => !dmB g j.2 j.1) ∧ Hid (OwnJ wr g w.heap.size pv P) ∧ Hid (OwnStr wr (w.alloc (.cells #[] 9)).heap.size (.slice A2 (L.map (jt g)).length cap2) (L.map (jt g))) ∧
      Hid ((Value.slice A2 (L.map (jt g)).length cap2).ownBlock = none ∨ (Value.slice A2 (L.map (jt g)).length cap2).ownBlock ≠ pv.ownBlock) ∧ Hid (Below w.heap.size w wr)) (fun _ iv _ => L.length - (intOf iv).toNat)
  case atStart => exact ⟨0, [], Nat.zero_le _, rfl, Nat.zero_le _, (show ([] : List (Nat × Nat)) = (L.take 0).filter fun j => !dmB g j.2 j.1 by simp), HO1.out, HLS.out, HNE1.out, HB1.out⟩
  case round =>
    obtain ⟨k, P, hk, rfl, hPl, HP, HOWN, HLW, HNE, HB⟩ := hrel
    by_cases hlt : k < L.length
    · obtain ⟨b, off, rfl, hb, hc⟩ := HLW.out.strs (by omega)
      have x0 := hc k (by omega)
      obtain ⟨j, hj⟩ : ∃ j, j = L[k] := ⟨_, rfl⟩
      obtain ⟨txt, htx⟩ : ∃ txt, txt = jt g j := ⟨_, rfl⟩
      have hget : (L.map (jt g))[k]'(by omega) = txt := by rw [List.getElem_map, htx, hj]
      rw [hget] at x0
      obtain ⟨hv, h1, h2⟩ := HLV.out j (hj ▸ List.getElem_mem hlt)
      obtain ⟨hz, e1, e2⟩ := jt_parts hv h1 h2
      rw [← htx] at hz e1 e2
      have l1 : 1 ≤ txt.size := by omega
      have l2 : (1 : Int) ≤ txt.size := by omega
      have hga := HG.out.below HB.out
      have cD : ∀ d os, Calls Tryz.prog 76 #[.slice A g.length cap, .string (txt.extract 1 2), .string (txt.extract 0 1)] (grow (redrawn wr d) os) fun e w'' => e = .returned (.bool (dmB g j.2 j.1)) ∧ ∃ p : Regrown, w'' = grow (redrawn wr p.d) p.os := fun d os =>
        Calls.regrown_of (l3Dominates_any A cap g _ _ j.2 j.1 (grow (redrawn wr d) os) (gr_grown hga d os) (by omega) hv h2 h1 e2 e1)
      have HFT : Hid ((L.take (k + 1)).filter (fun j => !dmB g j.2 j.1) = (L.take k).filter (fun j => !dmB g j.2 j.1) ++ (if (!dmB g j.2 j.1) = true then [j] else [])) := by
        show _ = _
        rw [List.take_succ_eq_append_getElem hlt, List.filter_append, ← hj, List.filter_cons, List.filter_nil]
      have HTX := Lib.hid htx
      clear hc hb hget htx hj e1 e2 hga h1 h2 hv
      cases hd : dmB g j.2 j.1 with
      | false =>
        rw [hd] at cD HFT
        have HP2 := Lib.hid (show P ++ [j] = (L.take (k + 1)).filter fun j => !dmB g j.2 j.1 by rw [HFT.out, HP.out]; rfl)
        clear hd
        go_wp2_with fail
        refine wp_region_quiet_below (by kernel_rfl) (by kernel_rfl) ?_
        repeat (any_goals (first | go_big_quiet_step (with_reducible exact cD _ _) | quiet_step (with_reducible exact cD _ _)))
        all_goals (refine wpQuiet_nil ?_; intro _ hw'; obtain ⟨⟨dq, osq⟩, hw''⟩ := hw'; subst hw'')
        have hb2 := below_regrown wr dq osq
        generalize grow (redrawn wr dq) osq = w2 at hb2 ⊢
        have HB2 := Lib.hid (below_trans_self HB.out hb2)
        have HO2 := Lib.hid (own_below HOWN.out hb2)
        have HL2 := Lib.hid (own_below HLW.out hb2)
        have hszq := HB2.out.size
        have hPm : (P.map (jt g)).length = P.length := List.length_map _
        clear cD hb2 x0
        go_wp2_with (at_builtin; refine wpList_append_own_at _ rfl _ _ 34 rfl w.heap.size 9 i0 (.string ⟨#[]⟩) 1 16 Tryz.underlying34 hi hz0 hz1 hz2 rfl (by decide) _ _ _ rfl (HO2.out.alloc _) ⟨w2.heap.size, 0, none⟩ 1 1 [.string txt] rfl rfl ?c1 ?c2 ?c3 ?c4 ?c5 ?_)
        case c1 =>
          intro j u hj
          match j, hj with
          | 0, hj =>
            have hu : Value.string txt = u := by simpa using hj
            rw [← hu]
            simp [Addr.add]
        case c2 => intro u hu; have hu' : u = .string txt := by simpa using hu
                   subst hu'; rfl
        case c3 => unfold maxLen; omega
        case c4 => omega
        case c5 => simp; omega
        intro v' w5 hown' hgrow _ hat
        have hsz := (HO2.out.alloc (.cells #[.string txt] 9)).lt
        have hB5 := (HB2.out.alloc hszq (.cells #[.string txt] 9)).grown hgrow (by simp; omega) (fun j hj => (hsz j hj).1)
        have hLlt := HL2.out.lt
        have HL5 := Lib.hid ((HL2.out.alloc (.cells #[.string txt] 9)).kept hgrow HNE.out)
        have HNE5 := Lib.hid (show (Value.slice (some ⟨b, off, none⟩) (L.map (jt g)).length cap2).ownBlock = none ∨ (Value.slice (some ⟨b, off, none⟩) (L.map (jt g)).length cap2).ownBlock ≠ v'.ownBlock from by
          rcases hat with q | q
          · rw [q]; exact HNE.out
          · refine .inr fun e => ?_
            rw [q] at e
            have := (hLlt _ e).2
            first | omega | (rw [World.size_alloc] at this; omega))
        have HB5 := Lib.hid hB5
        have HO5 : Hid (OwnJ w5 g w.heap.size v' (P ++ [j])) := by
          show w5.ownsRow w.heap.size 9 1 v' ((P ++ [j]).map (jt g)).length (((P ++ [j]).map (jt g)).map Value.string)
          rw [List.map_append, List.length_append, List.length_map, List.map_append, List.map_map, List.map_singleton, ← HTX.out]; exact hown'
        clear hown' hsz hgrow hB5 hat hLlt
        go_wp2_with fail
        go_roundw
        case rel => exact ⟨k + 1, P ++ [j], by omega, by go_num, by simp; omega, HP2.out, HO5.out, HL5.out, HNE5.out, HB5.out⟩
        case measure => simp [intOf]; omega
      | true =>
        rw [hd] at cD HFT
        have HP2 := Lib.hid (show P = (L.take (k + 1)).filter fun j => !dmB g j.2 j.1 by rw [HFT.out, HP.out]; simp)
        clear hd
        go_wp2_with fail
        refine wp_region_quiet_below (by kernel_rfl) (by kernel_rfl) ?_
        repeat (any_goals (first | go_big_quiet_step (with_reducible exact cD _ _) | quiet_step (with_reducible exact cD _ _)))
        all_goals (refine wpQuiet_nil ?_; intro _ hw'; obtain ⟨⟨dq, osq⟩, hw''⟩ := hw'; subst hw'')
        have hb2 := below_regrown wr dq osq
        generalize grow (redrawn wr dq) osq = w2 at hb2 ⊢
        have HB2 := Lib.hid (below_trans_self HB.out hb2)
        have HO2 := Lib.hid (own_below HOWN.out hb2)
        have HL2 := Lib.hid (own_below HLW.out hb2)
        clear cD hb2 x0
        go_wp2_with fail
        go_roundw
        case rel => exact ⟨k + 1, P, by omega, by go_num, by omega, HP2.out, HO2.out, HL2.out, HNE.out, HB2.out⟩
        case measure => simp [intOf]; omega
    · have HE := Lib.hid (show P = L.filter fun j => !dmB g j.2 j.1 by rw [HP.out, List.take_of_length_le (by omega)])
      go_wp2_with fail
      go_ret2
      exact ⟨_, rfl, by rw [← HE.out]; exact HOWN.out, HB.out⟩

theorem specIsTame_any (A : Option Addr) (cap : Nat) (g : List Bl) (w : World) (hg : Gr w A g) (hn : g.length + tot g ≤ 1048576) (hcap : g.length ≤ cap) :
    Calls Tryz.prog 38 #[.slice A g.length cap] w fun e w' => e = .returned (.bool (tameB g)) ∧ Below w.heap.size w w' := by
  have HC := Lib.hid (specWild_any A cap g w hg hn hcap)
  clear hg
  go_enter Tryz.func38, Tryz.ntmps38
  go_wp2_with fail
  refine HC.out.mono ?_
  rintro e w1 ⟨v, rfl, hown, b1⟩
  have HB1 := Lib.hid b1
  by_cases hv : validB g = true
  · rw [if_pos hv] at hown
    obtain ⟨A2, cap2, rfl, -⟩ := own_strs hown
    rw [hv]
    have HV := Lib.hid hv
    clear b1 hown hv
    simp only [List.length_map]
    by_cases hz : (jumpL g wildK).length = 0
    · have hzI : (((jumpL g wildK).length : Int) == 0) = true := by rw [hz]; rfl
      have HZ := Lib.hid hz
      clear hz
      go_wp2_with fail
      go_ret
      exact ⟨ret_b (by unfold tameB; rw [HV.out, decide_eq_true HZ.out]; rfl), HB1.out⟩
    · have hzI : (((jumpL g wildK).length : Int) == 0) = false := beq_eq_false_iff_ne.2 fun e => hz (Int.ofNat.inj e)
      have HZ := Lib.hid hz
      clear hz
      go_wp2_with fail
      go_ret
      exact ⟨ret_b (by unfold tameB; rw [HV.out, decide_eq_false HZ.out]; rfl), HB1.out⟩
  · have hv : validB g = false := by simpa using hv
    rw [hv]
    have HV := Lib.hid hv
    clear b1 hown hv
    go_wp2_with fail
    go_ret
    exact ⟨ret_b (by unfold tameB; rw [HV.out]; rfl), HB1.out⟩
end Go.Proofs.YtdolbmonmkjajaaGreat

/-
  Contracts of the model's headers.
-/
namespace Go.Proofs.YtdolbmonmkjajaaGreat
open Go.RowKit Go.Sort


theorem map_take_snd {L : List (Nat × Nat)} {k : Nat} (h : k < L.length) : (L.take (k + 1)).map (·.2) = (L.take k).map (·.2) ++ [L[k].2] := by
  rw [List.take_succ_eq_append_getElem h, List.map_append]; rfl

theorem ret_s {a b : ByteArray} (h : a = b) : Ending.returned (.string a) = .returned (.string b) := by rw [h]

set_option maxRecDepth 100000 in
set_option maxHeartbeats 2000000 in
theorem l4Headers_any (A : Option Addr) (cap : Nat) (g : List Bl) (w : World) (hg : Gr w A g) (hn : g.length + tot g ≤ 1048576) (hv : validB g = true) :
    Calls Tryz.prog 54 #[.slice A g.length cap] w fun e w' => e = .returned (.string (namesAt g (headL g))) ∧ Below w.heap.size w w' := by
  have HC := Lib.hid (l4Back_any A cap g w hg (by omega) hv)
  have hLl := jumpL_len hv backK
  have HLT := Lib.hid (fun j (hj : j ∈ jumpL g backK) => jumpL_lt hv hj)
  have HE0 := Lib.hid (head_srt hv)
  obtain ⟨L, hL⟩ : ∃ L, L = jumpL g backK := ⟨_, rfl⟩
  rw [← hL] at HC hLl HLT HE0
  have HG := Lib.hid hg
  have HV := Lib.hid hv
  clear hg hv hL
  go_enter Tryz.func54, Tryz.ntmps54
  go_wp2_with fail
  refine HC.out.mono ?_
  rintro e w1 ⟨v, rfl, hown, b1⟩
  obtain ⟨A2, cap2, rfl, -⟩ := own_strs hown
  have hlm : (L.map (jt g)).length = L.length := List.length_map _
  have HLW := Lib.hid hown
  have HB1 := Lib.hid b1
  have HG1 := Lib.hid (HG.out.below b1)
  clear b1 hown
  go_wp2_with fail
  go_loop [3, 9] (fun sv iv => ∃ (k : Nat) (out : ByteArray), k ≤ L.length ∧ iv = .int .i64 k ∧ sv = .string out ∧ out.size = k ∧ Hid (out = namesAt g ((L.take k).map (·.2)))) (fun _ iv => L.length - (intOf iv).toNat)
  case atStart => exact ⟨0, ⟨#[]⟩, Nat.zero_le _, rfl, rfl, rfl, (show (⟨#[]⟩ : ByteArray) = namesAt g ((L.take 0).map (·.2)) from rfl)⟩
  case round =>
    obtain ⟨k, out, hk, rfl, rfl, hoz, HO⟩ := hrel
    by_cases hlt : k < L.length
    · obtain ⟨b, off, rfl, hb, hc⟩ := HLW.out.strs (by omega)
      have x0 := hc k (by omega)
      obtain ⟨j, hj⟩ : ∃ j, j = L[k] := ⟨_, rfl⟩
      obtain ⟨txt, htx⟩ : ∃ txt, txt = jt g j := ⟨_, rfl⟩
      have hget : (L.map (jt g))[k]'(by omega) = txt := by rw [List.getElem_map, htx, hj]
      rw [hget] at x0
      obtain ⟨h1, h2⟩ := HLT.out j (hj ▸ List.getElem_mem hlt)
      obtain ⟨hz, e1, e2⟩ := jt_parts HV.out h1 h2
      rw [← htx] at hz e1 e2
      have l2 : (1 : Int) ≤ txt.size := by omega
      have hez : (txt.extract 1 2).size = 1 := by rw [e2]; exact one_size HV.out h2
      have hez2 : out.size + (txt.extract 1 2).size ≤ 1048576 := by omega
      have HO2 := Lib.hid (show out ++ txt.extract 1 2 = namesAt g ((L.take (k + 1)).map (·.2)) by
        rw [map_take_snd hlt, namesAt_append, namesAt_one, ← HO.out, e2, ← hj])
      clear hc hb hget htx hj e1 e2 h1 h2
      go_wp2_with fail
      go_round
      case rel => exact ⟨k + 1, _, by omega, by go_num, rfl, by rw [ByteArray.size_append]; omega, HO2.out⟩
      case measure => simp [intOf]; omega
    · have HS := Lib.hid (l1Sorted_any A cap g (L.map (·.2)) out w1 HG1.out hn HV.out (fun i hi => by
        obtain ⟨j, hj, rfl⟩ := List.mem_map.1 hi
        exact (HLT.out j hj).2) (by rw [HO.out, List.take_of_length_le (by omega)]) (by omega))
      rw [HE0.out] at HS
      go_wp2_with fail
      refine HS.out.mono ?_
      rintro e w3 ⟨rfl, b3⟩
      have HB3 := Lib.hid (below_trans_self HB1.out b3)
      clear b3
      go_wp2_with fail
      go_ret
      exact ⟨rfl, HB3.out⟩

theorem specHeaders_any (A : Option Addr) (cap : Nat) (g : List Bl) (w : World) (hg : Gr w A g) (hn : g.length + tot g ≤ 1048576) (hcap : g.length ≤ cap) :
    Calls Tryz.prog 26 #[.slice A g.length cap] w fun e w' => e = .returned (.tuple #[.string (headV g), .bool (validB g)]) ∧ Below w.heap.size w w' := by
  have HC := Lib.hid (specValid_any A cap g w hg hn hcap)
  unfold headV
  by_cases hv : validB g = true
  · rw [hv] at HC
    rw [if_pos hv, hv]
    have HB := Lib.hid (fun w' (h : Gr w' A g) => l4Headers_any A cap g w' h hn hv)
    have HG := Lib.hid hg
    clear hg hv
    go_enter Tryz.func26, Tryz.ntmps26
    go_wp2_with fail
    refine HC.out.mono ?_
    rintro e w1 ⟨rfl, b1⟩
    have HL := Lib.hid (HB.out w1 (HG.out.below b1))
    have HB1 := Lib.hid b1
    clear b1
    go_wp2_with fail
    refine HL.out.mono ?_
    rintro e w2 ⟨rfl, b2⟩
    have HB2 := Lib.hid (below_trans_self HB1.out b2)
    clear b2
    go_wp2_with fail
    go_ret2
    exact ⟨rfl, HB2.out⟩
  · have hv : validB g = false := by simpa using hv
    rw [hv] at HC
    rw [if_neg (by rw [hv]; simp), hv]
    clear hg hv
    go_enter Tryz.func26, Tryz.ntmps26
    go_wp2_with fail
    refine HC.out.mono ?_
    rintro e w1 ⟨rfl, b1⟩
    have HB1 := Lib.hid b1
    clear b1
    go_wp2_with fail
    go_ret2
    exact ⟨rfl, HB1.out⟩
end Go.Proofs.YtdolbmonmkjajaaGreat

/-
  Contract of the model's loop of a header.
-/
namespace Go.Proofs.YtdolbmonmkjajaaGreat
open Go.RowKit Go.Sort

/-- The blocks from which tame jumps go back to a header, behind it. -/
def tameF (g : List Bl) (h : Nat) (o : List Nat) (j : Nat × Nat) : List Nat := if j.2 = h ∧ j.1 ∉ o ∧ dmB g h j.1 = true then o ++ [j.1] else o
def tameS (g : List Bl) (h : Nat) (L : List (Nat × Nat)) : List Nat := L.foldl (tameF g h) [h]

theorem tameS_snoc (g : List Bl) (h : Nat) (L : List (Nat × Nat)) (j : Nat × Nat) : tameS g h (L ++ [j]) = tameF g h (tameS g h L) j := by
  unfold tameS; rw [List.foldl_append]; rfl
theorem tameS_take (g : List Bl) (h : Nat) {L : List (Nat × Nat)} {k : Nat} (hk : k < L.length) : tameS g h (L.take (k + 1)) = tameF g h (tameS g h (L.take k)) L[k] := by
  rw [List.take_succ_eq_append_getElem hk, tameS_snoc]

theorem foldF_facts (g : List Bl) (h : Nat) : ∀ (L : List (Nat × Nat)) (o : List Nat), o.Nodup →
    (L.foldl (tameF g h) o).Nodup ∧ o <+: L.foldl (tameF g h) o ∧ ∀ x, x ∈ L.foldl (tameF g h) o ↔ x ∈ o ∨ ((x, h) ∈ L ∧ dmB g h x = true)
  | [], o, ho => ⟨ho, List.prefix_refl _, fun x => by simp⟩
  | j :: L, o, ho => by
    rw [List.foldl_cons]
    by_cases hc : j.2 = h ∧ j.1 ∉ o ∧ dmB g h j.1 = true
    · have e : tameF g h o j = o ++ [j.1] := by unfold tameF; rw [if_pos hc]
      have hn : (o ++ [j.1]).Nodup := List.nodup_append.2 ⟨ho, by simp, fun a ha b hb e => by simp at hb; subst hb; subst e; exact hc.2.1 ha⟩
      obtain ⟨h1, h2, h3⟩ := foldF_facts g h L (o ++ [j.1]) hn
      rw [e]
      refine ⟨h1, (List.prefix_append _ _).trans h2, fun x => ?_⟩
      rw [h3, List.mem_append, List.mem_singleton, List.mem_cons]
      constructor
      · rintro ((q | q) | ⟨q, r⟩)
        · exact .inl q
        · exact .inr ⟨.inl (by rw [q, ← hc.1]), by rw [q]; exact hc.2.2⟩
        · exact .inr ⟨.inr q, r⟩
      · rintro (q | ⟨q | q, r⟩)
        · exact .inl (.inl q)
        · exact .inl (.inr (by rw [← q]))
        · exact .inr ⟨q, r⟩
    · have e : tameF g h o j = o := by unfold tameF; rw [if_neg hc]
      obtain ⟨h1, h2, h3⟩ := foldF_facts g h L o ho
      rw [e]
      refine ⟨h1, h2, fun x => ?_⟩
      rw [h3, List.mem_cons]
      constructor
      · rintro (q | ⟨q, r⟩)
        · exact .inl q
        · exact .inr ⟨.inr q, r⟩
      · rintro (q | ⟨q | q, r⟩)
        · exact .inl q
        · left
          have hj : j.2 = h := by rw [← q]
          have hx : j.1 = x := by rw [← q]
          exact Classical.byContradiction fun hno => hc ⟨hj, by rw [hx]; exact hno, by rw [hx]; exact r⟩
        · exact .inr ⟨q, r⟩

theorem tameS_nodup (g : List Bl) (h : Nat) (L : List (Nat × Nat)) : (tameS g h L).Nodup := (foldF_facts g h L [h] (by simp)).1
theorem tameS_head (g : List Bl) (h : Nat) (L : List (Nat × Nat)) : ∃ r, tameS g h L = h :: r := by
  obtain ⟨r, hr⟩ := (foldF_facts g h L [h] (by simp)).2.1
  exact ⟨r, hr.symm⟩
theorem tameS_lt {g : List Bl} {h : Nat} (hh : h < g.length) {L : List (Nat × Nat)} (hL : ∀ j ∈ L, j.1 < g.length) : ∀ x ∈ tameS g h L, x < g.length := fun x hx => by
  rcases ((foldF_facts g h L [h] (by simp)).2.2 x).1 hx with q | ⟨q, _⟩
  · rw [List.mem_singleton.1 q]; exact hh
  · exact hL _ q
theorem mem_tameS {g : List Bl} (hv : validB g = true) {h x : Nat} : x ∈ tameS g h (jumpL g backK) ↔ x ∈ srcL g tameK h ++ [h] := by
  unfold tameS
  rw [(foldF_facts g h _ [h] (by simp)).2.2 x, List.mem_append, mem_jumpL hv, mem_srcL hv, or_comm]
  have : ((Rch g [] x ∧ h ∈ nxt g x ∧ backK (kindN g x h) = true) ∧ dmB g h x = true) ↔ (Rch g [] x ∧ h ∈ nxt g x ∧ tameK (kindN g x h) = true) := by
    constructor
    · rintro ⟨⟨a, b, c⟩, d⟩
      refine ⟨a, b, ?_⟩
      rw [backK_kind, decide_eq_true_iff] at c
      rw [kind_tame (by omega) d]; rfl
    · rintro ⟨a, b, c⟩
      have h1 : kindN g x h = 1 := by simpa [tameK] using c
      refine ⟨⟨a, b, by rw [h1]; rfl⟩, ?_⟩
      cases hd : dmB g h x with
      | true => rfl
      | false =>
        rcases Nat.lt_or_ge (placeN g x) (placeN g h) with r | r
        · rw [kind_fwd r] at h1; omega
        · rw [kind_wild (by omega) hd] at h1; omega
  exact ⟨fun q => q.imp this.1 id, fun q => q.imp this.2 id⟩

/-- What goes on to a block and is reached, in the order of the graph. -/
theorem prev_live {g : List Bl} (x : Nat) : (prevN g x g.length).filter (fun i => decide (i ∈ reachS g)) = srcL g allK x := by
  unfold prevN srcL reachS
  rw [List.filter_filter, List.filter_filter]
  refine List.filter_congr fun i hi => ?_
  rw [allK_kind, Bool.and_true, Bool.and_comm]
  congr 1
  rw [decide_eq_decide, List.mem_filter, decide_eq_true_iff]
  exact ⟨fun q => q.2, fun q => ⟨hi, q⟩⟩

theorem stepL_self {l : List Nat} (h : l.Nodup) : stepL [] l = l := by
  have : ∀ (l o : List Nat), (o ++ l).Nodup → stepL o l = o ++ l := by
    intro l
    induction l with
    | nil => intro o _; simp [stepL_nil]
    | cons t l ih =>
      intro o ho
      have ht : t ∉ o := fun q => by
        have := (List.nodup_append.1 ho).2.2 t q t (by simp)
        exact this rfl
      rw [stepL_cons, if_neg ht, ih (o ++ [t]) (by simpa using ho)]
      simp
  exact this l [] (by simpa using h)

/-- The header stays first, and nothing follows from it. -/
theorem spr_one {g : List Bl} {h : Nat} {s : List Nat} (hs : s.Nodup) (hh : ∃ r, s = h :: r) : spr (folL g h) s 1 = s := by
  have e0 : spr (folL g h) s 0 = s := stepL_self hs
  obtain ⟨r, hr⟩ := hh
  have h2 : 0 < (spr (folL g h) s 0).length := by rw [e0, hr]; simp
  have e1 : (spr (folL g h) s 0)[0] = h := by
    have : (spr (folL g h) s 0)[0]? = some h := by rw [e0, hr]; rfl
    rw [List.getElem?_eq_getElem h2] at this
    exact Option.some.inj this
  have hf : folL g h h = [] := by unfold folL; rw [if_pos rfl]
  rw [spr_step h2, e1, hf, stepL_nil, e0]

theorem spr_head {g : List Bl} {h : Nat} {s : List Nat} (hs : s.Nodup) (hh : ∃ r, s = h :: r) (k : Nat) : ∃ r, spr (folL g h) s k = h :: r := by
  obtain ⟨r, rfl⟩ := hh
  have e0 : spr (folL g h) (h :: r) 0 = h :: r := stepL_self hs
  obtain ⟨q, hq⟩ := spr_prefixes (folL g h) (h :: r) 0 k
  rw [Nat.zero_add, e0] at hq
  exact ⟨r ++ q, hq.symm⟩

/-- The same blocks make the same loop. -/
theorem srt_spread {g : List Bl} (hv : validB g = true) {h : Nat} (hh : h < g.length) : srt g (spread (folL g h) (tameS g h (jumpL g backK)) g.length) g.length = loopL g h := by
  have hs : ∀ t ∈ tameS g h (jumpL g backK), t < g.length := tameS_lt hh fun j hj => (jumpL_lt hv hj).1
  have hs2 : ∀ t ∈ srcL g tameK h ++ [h], t < g.length := fun t ht => hs t ((mem_tameS hv).2 ht)
  have hf : ∀ i, i < g.length → ∀ t ∈ folL g h i, t < g.length := fun i _ => folL_lt h i
  unfold loopL srt
  refine List.filter_congr fun x _ => ?_
  rw [decide_eq_decide, mem_spread hs hf, mem_spread hs2 hf]
  exact found_same fun x => mem_tameS hv

set_option maxRecDepth 100000 in
set_option maxHeartbeats 6400000 in
theorem l4Loop_any (A : Option Addr) (cap : Nat) (g : List Bl) (nm : ByteArray) (h : Nat) (w : World) (hg : Gr w A g) (hn : g.length + tot g ≤ 1048576) (hv : validB g = true) (hr : Rch g [] h) (hnm : nm = nthName g h) :
    Calls Tryz.prog 55 #[.slice A g.length cap, .string nm] w fun e w' => e = .returned (.string (namesAt g (loopL g h))) ∧ Below w.heap.size w w' := by
  have hhl := hr.lt hv
  have h26 := (valid_iff.1 hv).2.1
  have HC := Lib.hid (l4Back_any A cap g w hg (by omega) hv)
  have HRE := Lib.hid (fun w' (k : Gr w' A g) => l1Reached_any A cap g w' k hn hv)
  have hLl := jumpL_len hv backK
  have HLT := Lib.hid (fun j (hj : j ∈ jumpL g backK) => jumpL_lt hv hj)
  have HEND := Lib.hid (srt_spread hv hhl)
  obtain ⟨L, hL⟩ : ∃ L, L = jumpL g backK := ⟨_, rfl⟩
  rw [← hL] at HC hLl HLT HEND
  obtain ⟨ro, hro⟩ : ∃ ro, ro = namesAt g (reachS g) := ⟨_, rfl⟩
  rw [← hro] at HRE
  have hrl : ∀ i ∈ reachS g, i < g.length := fun i hi => ((mem_reachS' hv).1 hi).lt hv
  have hros : ro.size ≤ 26 := by rw [hro, namesAt_size hv _ hrl]; exact reachS_small hv
  have HRO := Lib.hid hro
  have HRL := Lib.hid hrl
  have HG := Lib.hid hg
  have HV := Lib.hid hv
  have HNM := Lib.hid hnm
  clear hg hv hL hro hrl hnm
  go_enter Tryz.func55, Tryz.ntmps55
  go_wp2_with fail
  refine HC.out.mono ?_
  rintro e w1 ⟨v, rfl, hown, b1⟩
  obtain ⟨A2, cap2, rfl, -⟩ := own_strs hown
  have hlm : (L.map (jt g)).length = L.length := List.length_map _
  have HLW1 := Lib.hid hown
  have HB1 := Lib.hid b1
  clear b1 hown
  go_wp2_with fail
  go_loopw [5, 16] (fun sv iv wr => ∃ (k : Nat) (out : ByteArray), k ≤ L.length ∧ iv = .int .i64 k ∧ sv = .string out ∧ out.size ≤ 26 ∧ Hid (out = namesAt g (tameS g h (L.take k))) ∧ Hid (OwnStr wr w.heap.size (.slice A2 (L.map (jt g)).length cap2) (L.map (jt g))) ∧ Hid (Below w.heap.size w wr)) (fun _ iv _ => L.length - (intOf iv).toNat)
  case atStart => exact ⟨0, nm, Nat.zero_le _, rfl, rfl, by rw [HNM.out, one_size HV.out hhl]; omega, (show nm = namesAt g (tameS g h (L.take 0)) by rw [HNM.out]; exact (namesAt_one g h).symm), HLW1.out, HB1.out⟩
  case round =>
    obtain ⟨k, out, hk, rfl, rfl, hoz, HO, HLW, HB⟩ := hrel
    have HSL := Lib.hid (show ∀ x ∈ tameS g h (L.take k), x < g.length from tameS_lt hhl fun j hj => (HLT.out j ((List.take_subset _ _) hj)).1)
    by_cases hlt : k < L.length
    · obtain ⟨b, off, rfl, hb, hc⟩ := HLW.out.strs (by omega)
      have x0 := hc k (by omega)
      obtain ⟨j, hj⟩ : ∃ j, j = L[k] := ⟨_, rfl⟩
      obtain ⟨txt, htx⟩ : ∃ txt, txt = jt g j := ⟨_, rfl⟩
      have hget : (L.map (jt g))[k]'(by omega) = txt := by rw [List.getElem_map, htx, hj]
      rw [hget] at x0
      obtain ⟨h1, h2⟩ := HLT.out j (hj ▸ List.getElem_mem hlt)
      obtain ⟨hz, e1, e2⟩ := jt_parts HV.out h1 h2
      rw [← htx] at hz e1 e2
      have l2 : (1 : Int) ≤ txt.size := by omega
      have l0 : 0 < txt.size := by omega
      have l0' : (0 : Int) < txt.size := by omega
      have HST := Lib.hid (tameS_take g h hlt)
      rw [← hj] at HST
      have hez : (txt.extract 0 1).size = 1 := by rw [e1]; exact one_size HV.out h1
      have hez2 : out.size + (txt.extract 0 1).size ≤ 1048576 := by omega
      have hb0 : g[j.1].1 = ⟨#[txt[0]]⟩ := by
        have q := ex_byte txt (a := 0) (b := 1) (by omega) (by omega) (by omega)
        rw [← nthName_at h1, ← e1, q]
      obtain ⟨q, hq⟩ : ∃ q, q = Lib.indexByte out.data.toList txt[0] := ⟨_, rfl⟩
      have hqm : 0 ≤ q ↔ j.1 ∈ tameS g h (L.take k) := by rw [hq, HO.out]; exact idx_namesAt HV.out HSL.out h1 hb0
      have HF : Hid (∀ w, Calls Tryz.prog 53 #[.string out, .int .u8 txt[0].toNat] w fun e w' => e = .returned (.int .i64 q) ∧ w = w') := fun w => by
        rw [hq]; exact find_any out txt[0] w (by omega)
      have HD := Lib.hid (l3Dominates_any A cap g nm (txt.extract 0 1) h j.1 wr (HG.out.below HB.out) (by omega) HV.out hhl h1 HNM.out e1)
      have HE1 := Lib.hid e1
      have HE2 := Lib.hid e2
      have HJ1 := Lib.hid h1
      have HJ2 := Lib.hid h2
      clear hc hb hget htx hj e1 e2 h1 h2 hb0 hq
      by_cases hjh : j.2 = h
      · have t1 : ((txt.extract 1 2).toList == nm.toList) = true := by rw [HE2.out, HNM.out, hjh]; simp
        by_cases hin : j.1 ∈ tameS g h (L.take k)
        · have t2 : decide (q < 0) = false := by have := hqm.2 hin; simp; omega
          have HS2 := Lib.hid (show out = namesAt g (tameS g h (L.take (k + 1))) by
            rw [HST.out, HO.out]; unfold tameF; rw [if_neg fun c => c.2.1 hin])
          clear hqm hin hjh
          go_wp2_with fail
          refine (HF.out _).mono ?_
          rintro e w3 ⟨rfl, rfl⟩
          go_wp2_with fail
          go_roundw
          case rel => exact ⟨k + 1, out, by omega, by go_num, rfl, hoz, HS2.out, HLW.out, HB.out⟩
          case measure => simp [intOf]; omega
        · have t2 : decide (q < 0) = true := by
            have : ¬ 0 ≤ q := fun c => hin (hqm.1 c)
            simp; omega
          cases hd : dmB g h j.1 with
          | true =>
            rw [hd] at HD
            have hS : tameS g h (L.take (k + 1)) = tameS g h (L.take k) ++ [j.1] := by rw [HST.out]; unfold tameF; rw [if_pos ⟨hjh, hin, hd⟩]
            have HS2 := Lib.hid (show out ++ txt.extract 0 1 = namesAt g (tameS g h (L.take (k + 1))) by
              rw [hS, namesAt_append, namesAt_one, ← HO.out, HE1.out])
            have hsz2 : (out ++ txt.extract 0 1).size ≤ 26 := by
              have hl3 : ∀ x ∈ tameS g h (L.take (k + 1)), x < g.length := tameS_lt hhl fun j hj => (HLT.out j ((List.take_subset _ _) hj)).1
              rw [HS2.out, namesAt_size HV.out _ hl3]
              have := nodup_lt_len _ _ (tameS_nodup g h (L.take (k + 1))) hl3
              omega
            clear hqm hin hjh hd hS
            go_wp2_with fail
            refine (HF.out _).mono ?_
            rintro e w3 ⟨rfl, rfl⟩
            go_wp2_with fail
            refine HD.out.mono ?_
            rintro e w4 ⟨rfl, b4⟩
            have HB4 := Lib.hid (below_trans_self HB.out b4)
            have HL4 := Lib.hid (own_below HLW.out b4)
            clear b4
            go_wp2_with fail
            go_roundw
            case rel => exact ⟨k + 1, _, by omega, by go_num, rfl, hsz2, HS2.out, HL4.out, HB4.out⟩
            case measure => simp [intOf]; omega
          | false =>
            rw [hd] at HD
            have HS2 := Lib.hid (show out = namesAt g (tameS g h (L.take (k + 1))) by
              rw [HST.out, HO.out]; unfold tameF; rw [if_neg fun c => by rw [hd] at c; exact absurd c.2.2 (by simp)])
            clear hqm hin hjh hd
            go_wp2_with fail
            refine (HF.out _).mono ?_
            rintro e w3 ⟨rfl, rfl⟩
            go_wp2_with fail
            refine HD.out.mono ?_
            rintro e w4 ⟨rfl, b4⟩
            have HB4 := Lib.hid (below_trans_self HB.out b4)
            have HL4 := Lib.hid (own_below HLW.out b4)
            clear b4
            go_wp2_with fail
            go_roundw
            case rel => exact ⟨k + 1, out, by omega, by go_num, rfl, hoz, HS2.out, HL4.out, HB4.out⟩
            case measure => simp [intOf]; omega
      · have t1 : ((txt.extract 1 2).toList == nm.toList) = false := by
          rw [Bool.eq_false_iff]
          intro c
          have := beq_toList.1 c
          rw [HE2.out, HNM.out, nthName_at HJ2.out, nthName_at hhl] at this
          exact hjh (name_inj HV.out HJ2.out hhl this)
        have HS2 := Lib.hid (show out = namesAt g (tameS g h (L.take (k + 1))) by
          rw [HST.out, HO.out]; unfold tameF; rw [if_neg fun c => hjh c.1])
        clear hqm hjh
        go_wp2_with fail
        go_roundw
        case rel => exact ⟨k + 1, out, by omega, by go_num, rfl, hoz, HS2.out, HLW.out, HB.out⟩
        case measure => simp [intOf]; omega
    · obtain ⟨s, hs⟩ : ∃ s, s = tameS g h L := ⟨_, rfl⟩
      have HO0 := Lib.hid (show out = namesAt g s by rw [HO.out, List.take_of_length_le (by omega), hs])
      have hsn : s.Nodup := by rw [hs]; exact tameS_nodup g h L
      have hsh : ∃ r, s = h :: r := by rw [hs]; exact tameS_head g h L
      have hsl : ∀ x ∈ s, x < g.length := by rw [hs]; exact tameS_lt hhl fun j hj => (HLT.out j hj).1
      have hfl : ∀ i, i < g.length → ∀ t ∈ folL g h i, t < g.length := fun i _ => folL_lt h i
      rw [← hs] at HEND
      have HSN := Lib.hid hsn
      have HSH := Lib.hid hsh
      have HSLL := Lib.hid hsl
      have HFL := Lib.hid hfl
      have h1s : spr (folL g h) s 1 = s := spr_one hsn hsh
      have H1S := Lib.hid h1s
      have hs1 : 1 ≤ s.length := by obtain ⟨r, hr⟩ := hsh; rw [hr]; simp
      have HR1 := Lib.hid (HRE.out wr (HG.out.below HB.out))
      clear hs hsn hsh hsl hfl h1s HLW HO HSL
      go_wp2_with fail
      refine HR1.out.mono ?_
      rintro e w5 ⟨rfl, b5⟩
      have HB5 := Lib.hid (below_trans_self HB.out b5)
      clear b5
      go_wp2_with fail
      go_loopw [5, 9] (fun sv iv wr => ∃ (k : Nat) (out : ByteArray), 1 ≤ k ∧ k ≤ (spr (folL g h) s k).length ∧ iv = .int .i64 k ∧ sv = .string out ∧ Hid (out = namesAt g (spr (folL g h) s k)) ∧ Hid (Below w.heap.size w wr)) (fun _ iv _ => g.length - (intOf iv).toNat)
      case atStart => exact ⟨1, out, Nat.le_refl _, by rw [H1S.out]; exact hs1, rfl, rfl, (show out = namesAt g (spr (folL g h) s 1) by rw [H1S.out]; exact HO0.out), HB5.out⟩
      case round =>
        obtain ⟨k, out, hk1, hkl, rfl, rfl, HO, HB⟩ := hrel
        have hlen := spr_len (s := s) HSLL.out HFL.out k
        have hol := spr_lt (s := s) HSLL.out HFL.out k
        have hoz : out.size = (spr (folL g h) s k).length := by rw [HO.out]; exact namesAt_size HV.out _ hol
        have hoz2 : out.size ≤ 26 := by omega
        have HOL := Lib.hid hol
        clear hol
        by_cases hlt : k < out.size
        · have hlt' : k < (spr (folL g h) s k).length := by omega
          obtain ⟨x, hx⟩ : ∃ x, x = (spr (folL g h) s k)[k] := ⟨_, rfl⟩
          have hxl : x < g.length := HOL.out x (hx ▸ List.getElem_mem hlt')
          have hxh : x ≠ h := fun e => by
            obtain ⟨r, hrr⟩ := spr_head (g := g) HSN.out HSH.out k
            have e0 : (spr (folL g h) s k)[0]'(by omega) = h := by
              have : (spr (folL g h) s k)[0]? = some h := by rw [hrr]; rfl
              rw [List.getElem?_eq_getElem (by omega)] at this
              exact Option.some.inj this
            have hnd := spr_nodup (folL g h) s k
            have e3 : (spr (folL g h) s k)[k] = (spr (folL g h) s k)[0]'(by omega) := by rw [← hx, e, e0]
            have := (List.getElem_inj hnd).1 e3
            omega
          obtain ⟨_, hcut⟩ := namesAt_cut HV.out HOL.out hlt'
          have hex : out.extract k (k + 1) = ⟨#[letC g x]⟩ := by
            rw [HO.out, hcut, ← letC_name HV.out hxl]; congr 2; exact hx.symm
          have HST := Lib.hid (show spr (folL g h) s (k + 1) = stepL (spr (folL g h) s k) ((prevN g x g.length).filter fun i => decide (i ∈ reachS g)) by
            rw [spr_step hlt', ← hx, prev_live]; unfold folL; rw [if_neg hxh])
          have hk1' : k + 1 ≤ out.size := by omega
          obtain ⟨pv, hpv⟩ : ∃ pv, pv = namesAt g (prevN g x g.length) := ⟨_, rfl⟩
          have hpl := prevN_lt (g := g) (u := x) (Nat.le_refl g.length)
          have hpz : pv.size = (prevN g x g.length).length := by rw [hpv]; exact namesAt_size HV.out _ hpl
          have hpz2 : pv.size ≤ 26 := by
            have : (prevN g x g.length).length ≤ g.length := by
              have := List.length_filter_le (fun j => decide (x ∈ nxt g j)) (List.range g.length)
              rw [List.length_range] at this
              exact this
            omega
          have HP := Lib.hid (l1Prev_any A cap g (letC g x) wr (HG.out.below HB.out) hn)
          have hpa : prevs g ⟨#[letC g x]⟩ = pv := by rw [hpv, ← prevs_all HV.out hxl, letC_name HV.out hxl]
          rw [hpa, ← hex] at HP
          have HPV := Lib.hid hpv
          have HPL := Lib.hid hpl
          clear hcut hex hx hxh hpv hpl hpa
          go_wp2_with fail
          refine HP.out.mono ?_
          rintro e w6 ⟨rfl, b6⟩
          have HB6 := Lib.hid (below_trans_self HB.out b6)
          clear b6
          go_wp2_with fail
          go_loop [5, 60] (fun sv iv => ∃ (p : Nat) (o2 : ByteArray), p ≤ pv.size ∧ iv = .int .i64 p ∧ sv = .string o2 ∧ Hid (o2 = namesAt g (stepL (spr (folL g h) s k) (((prevN g x g.length).take p).filter fun i => decide (i ∈ reachS g))))) (fun _ iv => pv.size - (intOf iv).toNat)
          case atStart => exact ⟨0, out, Nat.zero_le _, rfl, rfl, (show out = namesAt g (stepL (spr (folL g h) s k) (((prevN g x g.length).take 0).filter fun i => decide (i ∈ reachS g))) by rw [HO.out]; simp [stepL_nil])⟩
          case round =>
            obtain ⟨p, o2, hp, rfl, rfl, HO2⟩ := hrel
            obtain ⟨T, hT⟩ : ∃ T, T = stepL (spr (folL g h) s k) (((prevN g x g.length).take p).filter fun i => decide (i ∈ reachS g)) := ⟨_, rfl⟩
            have hTn : T.Nodup := by rw [hT]; exact stepL_nodup _ _ (spr_nodup (folL g h) s k)
            have hTl : ∀ y ∈ T, y < g.length := fun y hy => by
              rw [hT, stepL_mem] at hy
              rcases hy with hy | hy
              · exact HOL.out y hy
              · exact HPL.out y ((List.take_subset _ _) (List.mem_filter.1 hy).1)
            have ho2 : o2 = namesAt g T := by rw [HO2.out, hT]
            have ho2z : o2.size ≤ 26 := by
              rw [ho2, namesAt_size HV.out _ hTl]
              have := nodup_lt_len _ _ hTn hTl
              omega
            by_cases hpl : p < pv.size
            · have hpl' : p < (prevN g x g.length).length := by omega
              obtain ⟨y, hy⟩ : ∃ y, y = (prevN g x g.length)[p] := ⟨_, rfl⟩
              have hyl : y < g.length := HPL.out y (hy ▸ List.getElem_mem hpl')
              obtain ⟨_, hk', hby⟩ := namesAt_byte HV.out HPL.out hpl'
              have hby2 : g[y].1 = ⟨#[pv[p]]⟩ := by
                have e9 : g[y].1 = (g[(prevN g x g.length)[p]]'(by rw [← hy]; exact hyl)).1 := by congr 2
                rw [e9, hby]
                congr 3
                have := HPV.out
                subst this; rfl
              have hpy : pv.extract p (p + 1) = nthName g y := by rw [ex_byte _ (a := p) (b := p + 1) (by omega) (by omega) (by omega), nthName_at hyl, hby2]
              have hpyz : (pv.extract p (p + 1)).size = 1 := by rw [hpy]; exact one_size HV.out hyl
              have hp1 : p + 1 ≤ pv.size := by omega
              have hoo : o2.size + (pv.extract p (p + 1)).size ≤ 1048576 := by omega
              obtain ⟨q1, hq1⟩ : ∃ q, q = Lib.indexByte o2.data.toList pv[p] := ⟨_, rfl⟩
              obtain ⟨q2, hq2⟩ : ∃ q, q = Lib.indexByte ro.data.toList pv[p] := ⟨_, rfl⟩
              have hm1 : 0 ≤ q1 ↔ y ∈ T := by rw [hq1, ho2]; exact idx_namesAt HV.out hTl hyl hby2
              have hm2 : 0 ≤ q2 ↔ y ∈ reachS g := by rw [hq2, HRO.out]; exact idx_namesAt HV.out HRL.out hyl hby2
              have HF1 : Hid (∀ w, Calls Tryz.prog 53 #[.string o2, .int .u8 pv[p].toNat] w fun e w' => e = .returned (.int .i64 q1) ∧ w = w') := fun w => by
                rw [hq1]; exact find_any o2 pv[p] w (by omega)
              have HF2 : Hid (∀ w, Calls Tryz.prog 53 #[.string ro, .int .u8 pv[p].toNat] w fun e w' => e = .returned (.int .i64 q2) ∧ w = w') := fun w => by
                rw [hq2]; exact find_any ro pv[p] w (by omega)
              have HFT := Lib.hid (filter_take (p := fun i => decide (i ∈ reachS g)) hpl')
              rw [← hy] at HFT
              have HT := Lib.hid hT
              have HO3 := Lib.hid ho2
              have HPY := Lib.hid hpy
              clear hy hby hby2 hpy hq1 hq2 hT hTn hTl ho2
              by_cases hyT : y ∈ T
              · have t1 : decide (q1 < 0) = false := by have := hm1.2 hyT; simp; omega
                have HS3 := Lib.hid (show o2 = namesAt g (stepL (spr (folL g h) s k) (((prevN g x g.length).take (p + 1)).filter fun i => decide (i ∈ reachS g))) by
                  rw [HFT.out]
                  by_cases hyr : y ∈ reachS g
                  · rw [if_pos (by simpa using hyr), stepL_snoc, ← HT.out, if_pos hyT, HO3.out]
                  · rw [if_neg (by simpa using hyr), List.append_nil, ← HT.out, HO3.out])
                clear hm1 hm2 hyT
                go_wp2_with fail
                refine (HF1.out _).mono ?_
                rintro e w7 ⟨rfl, rfl⟩
                go_wp2_with fail
                go_round
                case rel => exact ⟨p + 1, o2, by omega, by go_num, rfl, HS3.out⟩
                case measure => simp [intOf]; omega
              · have t1 : decide (q1 < 0) = true := by
                  have : ¬ 0 ≤ q1 := fun c => hyT (hm1.1 c)
                  simp; omega
                by_cases hyr : y ∈ reachS g
                · have t2 : decide (0 ≤ q2) = true := by simpa using hm2.2 hyr
                  have HS3 := Lib.hid (show o2 ++ pv.extract p (p + 1) = namesAt g (stepL (spr (folL g h) s k) (((prevN g x g.length).take (p + 1)).filter fun i => decide (i ∈ reachS g))) by
                    rw [HFT.out, if_pos (by simpa using hyr), stepL_snoc, ← HT.out, if_neg hyT, namesAt_append, namesAt_one, HO3.out, HPY.out])
                  clear hm1 hm2 hyT hyr
                  go_wp2_with fail
                  refine (HF1.out _).mono ?_
                  rintro e w7 ⟨rfl, rfl⟩
                  go_wp2_with fail
                  refine (HF2.out _).mono ?_
                  rintro e w7 ⟨rfl, rfl⟩
                  go_wp2_with fail
                  go_round
                  case rel => exact ⟨p + 1, _, by omega, by go_num, rfl, HS3.out⟩
                  case measure => simp [intOf]; omega
                · have t2 : decide (0 ≤ q2) = false := by
                    have : ¬ 0 ≤ q2 := fun c => hyr (hm2.1 c)
                    simpa using this
                  have HS3 := Lib.hid (show o2 = namesAt g (stepL (spr (folL g h) s k) (((prevN g x g.length).take (p + 1)).filter fun i => decide (i ∈ reachS g))) by
                    rw [HFT.out, if_neg (by simpa using hyr), List.append_nil, ← HT.out, HO3.out])
                  clear hm1 hm2 hyT hyr
                  go_wp2_with fail
                  refine (HF1.out _).mono ?_
                  rintro e w7 ⟨rfl, rfl⟩
                  go_wp2_with fail
                  refine (HF2.out _).mono ?_
                  rintro e w7 ⟨rfl, rfl⟩
                  go_wp2_with fail
                  go_round
                  case rel => exact ⟨p + 1, o2, by omega, by go_num, rfl, HS3.out⟩
                  case measure => simp [intOf]; omega
            · have HE := Lib.hid (show o2 = namesAt g (spr (folL g h) s (k + 1)) by
                rw [HST.out, HO2.out, List.take_of_length_le (by omega)])
              have hle : k + 1 ≤ (spr (folL g h) s (k + 1)).length := by
                have := (spr_prefix (folL g h) s k).length_le; omega
              clear hT hTn hTl ho2
              go_wp2_with fail
              go_roundw
              case rel => exact ⟨k + 1, o2, by omega, hle, by go_num, rfl, HE.out, HB6.out⟩
              case measure => simp [intOf]; omega
        · have hsp : spr (folL g h) s k = spread (folL g h) s g.length := spread_done (by omega) (by omega)
          have HS := Lib.hid (l1Sorted_any A cap g (spr (folL g h) s k) out wr (HG.out.below HB.out) hn HV.out HOL.out HO.out (by omega))
          rw [hsp, HEND.out] at HS
          clear hsp
          go_wp2_with fail
          refine HS.out.mono ?_
          rintro e w7 ⟨rfl, b7⟩
          have HB7 := Lib.hid (below_trans_self HB.out b7)
          clear b7
          go_wp2_with fail
          go_ret
          exact ⟨rfl, HB7.out⟩
end Go.Proofs.YtdolbmonmkjajaaGreat

/-
  Contracts of the model's LoopOf and DepthIn.
-/
namespace Go.Proofs.YtdolbmonmkjajaaGreat
open Go.RowKit Go.Sort

set_option maxRecDepth 100000 in
set_option maxHeartbeats 2000000 in
theorem specLoopOf_any (A : Option Addr) (cap : Nat) (g : List Bl) (s : ByteArray) (w : World) (hg : Gr w A g) (hn : g.length + tot g ≤ 1048576) (hcap : g.length ≤ cap) :
    Calls Tryz.prog 14 #[.slice A g.length cap, .string s] w fun e w' => e = .returned (.tuple #[.string (loopV g s), .bool (loopB g s)]) ∧ Below w.heap.size w w' := by
  have cG : ∀ d os, Calls Tryz.prog 51 #[.slice A g.length cap] (grow (redrawn w d) os) fun e w'' => e = .returned (.bool (validB g)) ∧ ∃ p : Regrown, w'' = grow (redrawn w p.d) p.os := fun d os =>
    Calls.regrown_of (specValid_any A cap g _ (gr_grown hg d os) hn hcap)
  have cI : ∀ d os, Calls Tryz.prog 52 #[.slice A g.length cap, .string s] (grow (redrawn w d) os) fun e w'' => e = .returned (.int .i64 (idxInt (posOf g s))) ∧ ∃ p : Regrown, w'' = grow (redrawn w p.d) p.os := fun d os =>
    Calls.regrown_of (index_any A cap g s _ (gr_grown hg d os) (by omega))
  have HG := Lib.hid hg
  cases hv : validB g with
  | false =>
    rw [hv] at cG
    have HR := Lib.hid (headOf_no (s := s) hv)
    clear hv hg
    go_enter Tryz.func14, Tryz.ntmps14
    go_wp2_with fail
    refine wp_region_quiet_below (by kernel_rfl) (by kernel_rfl) ?_
    repeat (any_goals (first | go_big_quiet_step (with_reducible exact cG _ _) | quiet_step (with_reducible exact cG _ _)))
    all_goals (refine wpQuiet_nil ?_; intro _ hw'; obtain ⟨⟨dq, osq⟩, hw''⟩ := hw'; subst hw'')
    have hb3 := below_regrown w dq osq
    generalize grow (redrawn w dq) osq = w3 at hb3 ⊢
    clear cG cI
    go_wp2_with fail
    go_ret2
    exact ⟨ret_tsb (loopV_none HR.out).symm (loopB_none HR.out).symm, hb3⟩
  | true =>
    rw [hv] at cG
    cases hp : posOf g s with
    | none =>
      rw [hp] at cI
      have cI2 : ∀ d os, Calls Tryz.prog 52 #[.slice A g.length cap, .string s] (grow (redrawn w d) os) fun e w'' => e = .returned (.int .i64 (-1)) ∧ ∃ p : Regrown, w'' = grow (redrawn w p.d) p.os := cI
      have HR := Lib.hid (headOf_none hp)
      clear hv hg hp cI
      go_enter Tryz.func14, Tryz.ntmps14
      go_wp2_with fail
      refine wp_region_quiet_below (by kernel_rfl) (by kernel_rfl) ?_
      repeat (any_goals (first | go_big_quiet_step (first | with_reducible exact cG _ _ | with_reducible exact cI2 _ _) | quiet_step (first | with_reducible exact cG _ _ | with_reducible exact cI2 _ _)))
      all_goals (refine wpQuiet_nil ?_; intro _ hw'; obtain ⟨⟨dq, osq⟩, hw''⟩ := hw'; subst hw'')
      have hb3 := below_regrown w dq osq
      generalize grow (redrawn w dq) osq = w3 at hb3 ⊢
      clear cG cI2
      go_wp2_with fail
      go_ret2
      exact ⟨ret_tsb (loopV_none HR.out).symm (loopB_none HR.out).symm, hb3⟩
    | some i =>
      obtain ⟨hi, hnm⟩ := posOf_is hp
      obtain ⟨c, hc, _⟩ := valid_one hv (List.getElem_mem hi)
      have hsc : s = ⟨#[c]⟩ := by rw [← hnm, hc]
      have hs1 : s.size = 1 := by rw [hsc]; rfl
      have l0 : 0 < s.size := by omega
      rw [hp] at cI
      have cI2 : ∀ d os, Calls Tryz.prog 52 #[.slice A g.length cap, .string s] (grow (redrawn w d) os) fun e w'' => e = .returned (.int .i64 (i : Int)) ∧ ∃ p : Regrown, w'' = grow (redrawn w p.d) p.os := cI
      obtain ⟨rs, hrs⟩ : ∃ rs, rs = namesAt g (headL g) := ⟨_, rfl⟩
      have hrz : rs.size ≤ 26 := by rw [hrs, namesAt_size hv _ head_lt]; exact head_small hv
      have cR : ∀ d os, Calls Tryz.prog 54 #[.slice A g.length cap] (grow (redrawn w d) os) fun e w'' => e = .returned (.string rs) ∧ ∃ p : Regrown, w'' = grow (redrawn w p.d) p.os := fun d os => by
        have := l4Headers_any A cap g _ (gr_grown hg d os) hn hv
        rw [← hrs] at this
        exact Calls.regrown_of this
      obtain ⟨z, hz⟩ : ∃ z, z = Lib.indexByte rs.data.toList c := ⟨_, rfl⟩
      have cF : ∀ d os, Calls Tryz.prog 53 #[.string rs, .int .u8 (s[0]'l0).toNat] (grow (redrawn w d) os) fun e w'' => e = .returned (.int .i64 z) ∧ ∃ p : Regrown, w'' = grow (redrawn w p.d) p.os := fun d os => by
        have := same_grown (find_any rs c (grow (redrawn w d) os) (by omega))
        rw [← hz] at this
        rw [one_get' hsc l0]
        exact this
      have hzi : 0 ≤ z ↔ i ∈ headL g := by rw [hz, hrs]; exact idx_namesAt hv head_lt hi hc
      have qi : decide ((i : Int) < 0) = false := decide_eq_false (by omega)
      by_cases hr : i ∈ headL g
      · have q0 : decide (z < 0) = false := by have := hzi.2 hr; simp; omega
        have HR := Lib.hid (headOf_some hv hp hr)
        have HL := Lib.hid (fun w' (h : Gr w' A g) => l4Loop_any A cap g s i w' h hn hv (head_live hv hr) (by rw [nthName_at hi, hnm]))
        clear hv hg hp cI hnm hc hsc hrs hz hzi hr
        go_enter Tryz.func14, Tryz.ntmps14
        go_wp2_with fail
        refine wp_region_quiet_below (by kernel_rfl) (by kernel_rfl) ?_
        repeat (any_goals (first | go_big_quiet_step (first | with_reducible exact cG _ _ | with_reducible exact cI2 _ _ | with_reducible exact cR _ _ | with_reducible exact cF _ _) | quiet_step (first | with_reducible exact cG _ _ | with_reducible exact cI2 _ _ | with_reducible exact cR _ _ | with_reducible exact cF _ _)))
        all_goals (refine wpQuiet_nil ?_; intro _ hw'; obtain ⟨⟨dq, osq⟩, hw''⟩ := hw'; subst hw'')
        have hb3 := below_regrown w dq osq
        generalize grow (redrawn w dq) osq = w3 at hb3 ⊢
        clear cG cI2 cR cF
        go_wp2_with fail
        refine (HL.out w3 (HG.out.below hb3)).mono ?_
        rintro e w4 ⟨rfl, b4⟩
        go_wp2_with fail
        go_ret2
        exact ⟨ret_tsb (loopV_some HR.out).symm (loopB_some HR.out).symm, below_trans_self hb3 b4⟩
      · have q0 : decide (z < 0) = true := by
          have h : ¬ 0 ≤ z := fun h => hr (hzi.1 h)
          simp; omega
        have HR := Lib.hid (headOf_out hp hr)
        clear hv hg hp cI hnm hc hsc hrs hz hzi hr
        go_enter Tryz.func14, Tryz.ntmps14
        go_wp2_with fail
        refine wp_region_quiet_below (by kernel_rfl) (by kernel_rfl) ?_
        repeat (any_goals (first | go_big_quiet_step (first | with_reducible exact cG _ _ | with_reducible exact cI2 _ _ | with_reducible exact cR _ _ | with_reducible exact cF _ _) | quiet_step (first | with_reducible exact cG _ _ | with_reducible exact cI2 _ _ | with_reducible exact cR _ _ | with_reducible exact cF _ _)))
        all_goals (refine wpQuiet_nil ?_; intro _ hw'; obtain ⟨⟨dq, osq⟩, hw''⟩ := hw'; subst hw'')
        have hb3 := below_regrown w dq osq
        generalize grow (redrawn w dq) osq = w3 at hb3 ⊢
        clear cG cI2 cR cF
        go_wp2_with fail
        go_ret2
        exact ⟨ret_tsb (loopV_none HR.out).symm (loopB_none HR.out).symm, hb3⟩

set_option maxRecDepth 100000 in
set_option maxHeartbeats 2000000 in
theorem specDepth_any (A : Option Addr) (cap : Nat) (g : List Bl) (s : ByteArray) (w : World) (hg : Gr w A g) (hn : g.length + tot g ≤ 1048576) (hcap : g.length ≤ cap) :
    Calls Tryz.prog 18 #[.slice A g.length cap, .string s] w fun e w' => e = .returned (.int .i64 (depthV g s)) ∧ Below w.heap.size w w' := by
  have HC := Lib.hid (l3Live_any A cap g s w hg hn hcap)
  cases hl : liveOf g s with
  | none =>
    rw [hl] at HC
    have HC2 : Hid (Calls Tryz.prog 63 #[.slice A g.length cap, .string s] w fun e w' => e = .returned (.int .i64 (-1)) ∧ Below w.heap.size w w') := HC
    have HR := Lib.hid (depthV_none hl)
    clear hg hl HC
    go_enter Tryz.func18, Tryz.ntmps18
    go_wp2_with fail
    refine HC2.out.mono ?_
    rintro e w1 ⟨rfl, b1⟩
    have HB1 := Lib.hid b1
    clear b1
    go_wp2_with fail
    go_ret
    exact ⟨ret_int HR.out.symm, HB1.out⟩
  | some n =>
    rw [hl] at HC
    have HC2 : Hid (Calls Tryz.prog 63 #[.slice A g.length cap, .string s] w fun e w' => e = .returned (.int .i64 (n : Int)) ∧ Below w.heap.size w w') := HC
    have HR := Lib.hid (depthV_some hl)
    obtain ⟨hv, hp, _⟩ := liveOf_is hl
    obtain ⟨hi, hnm⟩ := posOf_is hp
    obtain ⟨c, hc, _⟩ := valid_one hv (List.getElem_mem hi)
    have hsc : s = ⟨#[c]⟩ := by rw [← hnm, hc]
    have hs1 : s.size = 1 := by rw [hsc]; rfl
    have l0 : 0 < s.size := by omega
    have l0' : (0 : Int) < s.size := by omega
    have l00 := one_get' hsc l0
    have q9 : decide ((n : Int) < 0) = false := decide_eq_false (by omega)
    have HH := Lib.hid (fun w' (h : Gr w' A g) => l4Headers_any A cap g w' h hn hv)
    obtain ⟨o, ho⟩ : ∃ o, o = namesAt g (headL g) := ⟨_, rfl⟩
    rw [← ho] at HH
    have hoz : o.size = (headL g).length := by rw [ho, namesAt_size hv _ head_lt]
    have hos : o.size ≤ 26 := by rw [hoz]; exact head_small hv
    have HOO := Lib.hid ho
    have HOZ := Lib.hid hoz
    have HG := Lib.hid hg
    have HV := Lib.hid hv
    have HCC := Lib.hid hc
    have L00 := Lib.hid l00
    clear hg hl HC hv hp hnm hc hsc ho hoz l00
    go_enter Tryz.func18, Tryz.ntmps18
    go_wp2_with fail
    refine HC2.out.mono ?_
    rintro e w1 ⟨rfl, b1⟩
    have HB1 := Lib.hid b1
    have HH1 := Lib.hid (HH.out w1 (HG.out.below b1))
    clear b1
    go_wp2_with fail
    refine HH1.out.mono ?_
    rintro e w2 ⟨rfl, b2⟩
    have HB2 := Lib.hid (below_trans_self HB1.out b2)
    clear b2
    go_wp2_with fail
    go_loopw [5, 16] (fun dv iv wr => ∃ (k d : Nat), k ≤ o.size ∧ iv = .int .i64 k ∧ dv = .int .i64 d ∧ d ≤ k ∧ Hid (d = ((headL g).take k).countP fun h => decide (n ∈ loopL g h)) ∧ Hid (Below w.heap.size w wr)) (fun _ iv _ => o.size - (intOf iv).toNat)
    case atStart => exact ⟨0, 0, Nat.zero_le _, rfl, rfl, Nat.le_refl _, (show 0 = ((headL g).take 0).countP fun h => decide (n ∈ loopL g h) by simp), HB2.out⟩
    case round =>
      obtain ⟨k, d, hk, rfl, rfl, hdk, HD, HB⟩ := hrel
      by_cases hlt : k < o.size
      · have hlt' : k < (headL g).length := by rw [← HOZ.out]; exact hlt
        obtain ⟨h, hh⟩ : ∃ h, h = (headL g)[k] := ⟨_, rfl⟩
        have hhm : h ∈ headL g := hh ▸ List.getElem_mem hlt'
        have hhl : h < g.length := head_lt h hhm
        obtain ⟨_, hcut⟩ := namesAt_cut HV.out head_lt hlt'
        have hex : o.extract k (k + 1) = nthName g h := by rw [HOO.out, hcut, nthName_at hhl]; congr 2; exact hh.symm
        have hk1 : k + 1 ≤ o.size := by omega
        have hga := HG.out.below HB.out
        obtain ⟨lp, hlp⟩ : ∃ lp, lp = namesAt g (loopL g h) := ⟨_, rfl⟩
        have hlz : lp.size ≤ 26 := by rw [hlp, namesAt_size HV.out _ (loopL_lt h)]; exact loop_small HV.out h
        have cL : ∀ d os, Calls Tryz.prog 55 #[.slice A g.length cap, .string (o.extract k (k + 1))] (grow (redrawn wr d) os) fun e w'' => e = .returned (.string lp) ∧ ∃ p : Regrown, w'' = grow (redrawn wr p.d) p.os := fun d os => by
          have := l4Loop_any A cap g (o.extract k (k + 1)) h (grow (redrawn wr d) os) (gr_grown hga d os) hn HV.out (head_live HV.out hhm) hex
          rw [← hlp] at this
          exact Calls.regrown_of this
        obtain ⟨z, hz⟩ : ∃ z, z = Lib.indexByte lp.data.toList c := ⟨_, rfl⟩
        have cF : ∀ d os, Calls Tryz.prog 53 #[.string lp, .int .u8 (s[0]'l0).toNat] (grow (redrawn wr d) os) fun e w'' => e = .returned (.int .i64 z) ∧ ∃ p : Regrown, w'' = grow (redrawn wr p.d) p.os := fun d os => by
          have := same_grown (find_any lp c (grow (redrawn wr d) os) (by omega))
          rw [← hz] at this
          rw [L00.out]
          exact this
        have hzi : 0 ≤ z ↔ n ∈ loopL g h := by rw [hz, hlp]; exact idx_namesAt HV.out (loopL_lt h) hi HCC.out
        have HFT := Lib.hid (countP_take (p := fun h => decide (n ∈ loopL g h)) hlt')
        rw [← hh] at HFT
        clear hh hcut hex hlp hz hga
        by_cases hin : n ∈ loopL g h
        · have q1 : decide (0 ≤ z) = true := by simpa using hzi.2 hin
          have HD2 := Lib.hid (show d + 1 = ((headL g).take (k + 1)).countP fun h => decide (n ∈ loopL g h) by rw [HFT.out, if_pos (by simpa using hin), ← HD.out])
          clear hzi hin
          go_wp2_with fail
          refine wp_region_quiet_below (by kernel_rfl) (by kernel_rfl) ?_
          repeat (any_goals (first | go_big_quiet_step (first | with_reducible exact cL _ _ | with_reducible exact cF _ _) | quiet_step (first | with_reducible exact cL _ _ | with_reducible exact cF _ _)))
          all_goals (refine wpQuiet_nil ?_; intro _ hw'; obtain ⟨⟨dq, osq⟩, hw''⟩ := hw'; subst hw'')
          have hb2 := below_regrown wr dq osq
          generalize grow (redrawn wr dq) osq = w2 at hb2 ⊢
          have HB2 := Lib.hid (below_trans_self HB.out hb2)
          clear cL cF hb2
          go_wp2_with fail
          go_roundw
          case rel => exact ⟨k + 1, d + 1, by omega, by go_num, by go_num, by omega, HD2.out, HB2.out⟩
          case measure => simp [intOf]; omega
        · have q1 : decide (0 ≤ z) = false := by
            have : ¬ 0 ≤ z := fun h => hin (hzi.1 h)
            simpa using this
          have HD2 := Lib.hid (show d = ((headL g).take (k + 1)).countP fun h => decide (n ∈ loopL g h) by rw [HFT.out, if_neg (by simpa using hin), ← HD.out]; rfl)
          clear hzi hin
          go_wp2_with fail
          refine wp_region_quiet_below (by kernel_rfl) (by kernel_rfl) ?_
          repeat (any_goals (first | go_big_quiet_step (first | with_reducible exact cL _ _ | with_reducible exact cF _ _) | quiet_step (first | with_reducible exact cL _ _ | with_reducible exact cF _ _)))
          all_goals (refine wpQuiet_nil ?_; intro _ hw'; obtain ⟨⟨dq, osq⟩, hw''⟩ := hw'; subst hw'')
          have hb2 := below_regrown wr dq osq
          generalize grow (redrawn wr dq) osq = w2 at hb2 ⊢
          have HB2 := Lib.hid (below_trans_self HB.out hb2)
          clear cL cF hb2
          go_wp2_with fail
          go_roundw
          case rel => exact ⟨k + 1, d, by omega, by go_num, rfl, by omega, HD2.out, HB2.out⟩
          case measure => simp [intOf]; omega
      · have HE := Lib.hid (show (d : Int) = depthV g s by
          rw [HR.out, HD.out, List.take_of_length_le (by rw [← HOZ.out]; omega)]; rfl)
        go_wp2_with fail
        go_ret
        exact ⟨ret_int HE.out, HB.out⟩
end Go.Proofs.YtdolbmonmkjajaaGreat
