/-
  Contract of the model's list of jumps back.
-/
import Derived.Test.YtdolbmonmkjajaaGreatJumpText
import Derived.Test.YtdolbmonmkjajaaGreatForward
import Derived.Test.YtdolbmonmkjajaaGreatSpecReached
namespace Go.Proofs.YtdolbmonmkjajaaGreat
open Go.RowKit Go.Sort Go.Deep

attribute [local go_sem] Oper.semAt_some

/-- Names cut behind the k-th. -/
theorem names_upto {g : List Bl} {l : List Nat} {k : Nat} (hv : validB g = true) (hl : ∀ i ∈ l, i < g.length) (hk : k ≤ l.length) : (namesAt g l).extract 0 k = namesAt g (l.take k) := by
  have e : namesAt g l = namesAt g (l.take k) ++ namesAt g (l.drop k) := by rw [← namesAt_append, List.take_append_drop]
  have hz : (namesAt g (l.take k)).size = k := by rw [namesAt_size hv _ fun i hi => hl i ((List.take_subset _ _) hi), List.length_take]; omega
  rw [e]
  apply ba_ext
  have hl2 : (namesAt g (l.take k)).data.toList.length = k := by rw [Array.length_toList]; exact hz
  rw [← Lib.toList_data, Lib.extract_toList]
  simp only [List.drop_zero, Nat.sub_zero, ByteArray.data_append, Array.toList_append]
  rw [List.take_append_of_le_length (by omega), List.take_of_length_le (by omega)]

theorem jt_names {g : List Bl} (hv : validB g = true) {x t : Nat} (hx : x < g.length) (ht : t < g.length) : nthName g x ++ nthName g t = jt g (x, t) := by
  rw [nthName_at hx, nthName_at ht, letC_name hv hx, letC_name hv ht]
  rfl

/-- Whether a jump goes back, by the letters. -/
theorem back_seen {g : List Bl} (hv : validB g = true) {x t : Nat} {c : UInt8} (ht : Rch g [] t) (hn : (g[t]'(ht.lt hv)).1 = ⟨#[c]⟩) {k : Nat} (hk : k < (wayOrd g).length) (hxk : x = (wayOrd g)[k]) :
    0 ≤ Lib.indexByte ((namesAt g (wayOrd g)).extract 0 (k + 1)).data.toList c ↔ backK (kindN g x t) = true := by
  rw [names_upto hv (wayOrd_lt hv) (by omega), idx_namesAt hv (fun i hi => wayOrd_lt hv i ((List.take_subset _ _) hi)) (ht.lt hv) hn, placeIn_take (wayOrd_nodup hv) ((mem_wayOrd hv).2 ht), backK_kind, decide_eq_true_iff]
  have : placeN g x = k := by rw [hxk]; exact placeIn_at (wayOrd_nodup hv) hk
  show placeN g t < k + 1 ↔ _
  rw [this]; omega

set_option maxRecDepth 100000 in
set_option maxHeartbeats 4000000 in
theorem l4Back_any (A : Option Addr) (cap : Nat) (g : List Bl) (w : World) (hg : Gr w A g) (hn : g.length ≤ 1048576) (hv : validB g = true) :
    Calls Tryz.prog 70 #[.slice A g.length cap] w fun e w' => ∃ v, e = .returned v ∧ OwnJ w' g w.heap.size v (jumpL g backK) ∧ Below w.heap.size w w' := by
  have h26 := (valid_iff.1 hv).2.1
  obtain ⟨i0, hi, hz0, hz1, hz2⟩ := info_parts info_str
  have b0 := (Below.refl w.heap.size w).alloc (Nat.le_refl _) (.cells #[] 9)
  have HO := Lib.hid (l4Order_any A cap g _ (hg.below b0) hn hv)
  have HOW := Lib.hid (World.ownsRow_made (base := w.heap.size) (e := 9) (size := 1) w #[] 0 (Nat.le_refl _) (Nat.zero_le _) rfl)
  obtain ⟨o, ho⟩ : ∃ o, o = namesAt g (wayOrd g) := ⟨_, rfl⟩
  have hos : o.size = (wayOrd g).length := by rw [ho]; exact namesAt_size hv _ (wayOrd_lt hv)
  have hol := wayOrd_len hv
  rw [← ho] at HO
  have hos2 : o.size ≤ 26 := by omega
  have HOO := Lib.hid ho
  have HOS := Lib.hid hos
  have HG := Lib.hid hg
  have HV := Lib.hid hv
  have HB0 := Lib.hid b0
  clear ho hg hv hos b0
  go_enter Tryz.func70, Tryz.ntmps70
  go_wp2_with fail
  refine HO.out.mono ?_
  rintro e w1 ⟨rfl, b1⟩
  have HO1 : Hid (OwnJ w1 g w.heap.size (.slice (some ⟨w.heap.size, 0, none⟩) 0 0) []) := ownRow_below HOW.out b1
  have HB1 := Lib.hid (below_trans_self HB0.out b1)
  clear b1
  go_wp2_with fail
  go_loopw [3, 13] (fun pv iv wr => ∃ (k : Nat) (P : List (Nat × Nat)), k ≤ o.size ∧ iv = .int .i64 k ∧ P.length ≤ 2 * k ∧ Hid (P = ((wayOrd g).take k).flatMap (jumpsOf1 g backK)) ∧ Hid (OwnJ wr g w.heap.size pv P) ∧ Hid (Below w.heap.size w wr)) (fun _ iv _ => o.size - (intOf iv).toNat)
  case atStart => exact ⟨0, [], Nat.zero_le _, rfl, by simp, (show ([] : List (Nat × Nat)) = ((wayOrd g).take 0).flatMap (jumpsOf1 g backK) by simp), HO1.out, HB1.out⟩
  case round =>
    obtain ⟨k, P, hk, rfl, hPl, HP, HOWN, HB⟩ := hrel
    by_cases hlt : k < o.size
    · have hlt' : k < (wayOrd g).length := by rw [← HOS.out]; exact hlt
      obtain ⟨x, hx⟩ : ∃ x, x = (wayOrd g)[k] := ⟨_, rfl⟩
      have hxr := (mem_wayOrd HV.out).1 (hx ▸ List.getElem_mem hlt' : x ∈ wayOrd g)
      have hxl : x < g.length := hxr.lt HV.out
      obtain ⟨_, hcut⟩ := namesAt_cut HV.out (wayOrd_lt HV.out) hlt'
      have hex : o.extract k (k + 1) = nthName g x := by rw [HOO.out, hcut, nthName_at hxl]; congr 2; exact hx.symm
      have hk1 : k + 1 ≤ o.size := by omega
      obtain ⟨nx, hnx⟩ : ∃ nx, nx = g[x].2 := ⟨_, rfl⟩
      have hnl : (nxt g x).length = nx.size := by rw [hnx]; exact nxt_length hxl
      have hnx2 : nx.size ≤ 2 := by rw [hnx]; exact nxt_two' HV.out hxl
      have HN := Lib.hid (l1Next_any A cap g (o.extract k (k + 1)) x wr (HG.out.below HB.out) hn (by rw [hex, nthName_at hxl]; exact posOf_name HV.out hxl) hxl)
      rw [← hnx] at HN
      have HEX := Lib.hid hex
      have HX := Lib.hid hx
      have HXR := Lib.hid hxr
      have HNX := Lib.hid hnx
      clear hx hcut hex hxr hnx
      have hez : (o.extract k (k + 1)).size = 1 := by rw [HEX.out]; exact one_size HV.out hxl
      go_wp2_with fail
      refine HN.out.mono ?_
      rintro e w3 ⟨rfl, b3⟩
      have HOWN3 := Lib.hid (own_below HOWN.out b3)
      have HB3 := Lib.hid (below_trans_self HB.out b3)
      clear b3
      go_wp2_with fail
      go_loopw [3, 25] (fun pv iv wr => ∃ (p : Nat) (P2 : List (Nat × Nat)), p ≤ nx.size ∧ iv = .int .i64 p ∧ P2.length ≤ 2 * k + p ∧ Hid (P2 = P ++ (((nxt g x).take p).filter fun t => backK (kindN g x t)).map fun t => (x, t)) ∧ Hid (OwnJ wr g w.heap.size pv P2) ∧ Hid (Below w.heap.size w wr)) (fun _ iv _ => nx.size - (intOf iv).toNat)
      case atStart => exact ⟨0, P, Nat.zero_le _, rfl, by omega, (show P = P ++ (((nxt g x).take 0).filter fun t => backK (kindN g x t)).map fun t => (x, t) by simp), HOWN3.out, HB3.out⟩
      case round =>
        obtain ⟨p, P2, hp, rfl, hP2l, HP2, HOWN4, HB4⟩ := hrel
        have hsz4 := HB4.out.size
        by_cases hpl : p < nx.size
        · have hpl' : p < (nxt g x).length := by omega
          obtain ⟨t, ht, hget, _, hnm⟩ := nxt_get HV.out hxl (k := p) (by rw [← HNX.out]; exact hpl)
          have hgx : ∀ h : p < g[x].2.size, g[x].2[p]'h = nx[p] := fun h => by
            have e := HNX.out
            subst e; rfl
          rw [hgx] at hnm
          have htm : t ∈ nxt g x := List.mem_of_getElem? hget
          have htr : Rch g [] t := .step HXR.out htm (by simp)
          have HKZ := Lib.hid (show (nxt g x).take (p + 1) = (nxt g x).take p ++ [t] by
            rw [List.take_succ_eq_append_getElem hpl']
            rw [List.getElem?_eq_getElem hpl'] at hget
            rw [Option.some.inj hget])
          have hp1 : p + 1 ≤ nx.size := by omega
          have hext : nx.extract p (p + 1) = nthName g t := by rw [ex_byte _ (a := p) (b := p + 1) (by omega) (by omega) (by omega), nthName_at ht, hnm]
          have hxz : (nx.extract p (p + 1)).size = 1 := by rw [hext]; exact one_size HV.out ht
          have HTX := Lib.hid (show o.extract k (k + 1) ++ nx.extract p (p + 1) = jt g (x, t) by rw [HEX.out, hext]; exact jt_names HV.out hxl ht)
          obtain ⟨q, hq⟩ : ∃ q, q = Lib.indexByte (o.extract 0 (k + 1)).data.toList nx[p] := ⟨_, rfl⟩
          have hqs := back_seen HV.out htr hnm hlt' HX.out
          rw [← HOO.out, ← hq] at hqs
          have tC := fun n => Calls.quiet_of_same ((find_any (o.extract 0 (k + 1)) nx[p] (wr.drewN n) (by rw [ByteArray.size_extract]; omega)).mono fun _ _ ⟨a, b⟩ => ⟨a, b.symm⟩)
          rw [← hq] at tC
          clear hget hnm hgx hext htm htr hq
          by_cases hb : backK (kindN g x t) = true
          · have q0 : (0 : Int) ≤ q := hqs.2 hb
            have q1 : decide (0 ≤ q) = true := by simpa using q0
            have HP3 := Lib.hid (show P2 ++ [(x, t)] = P ++ (((nxt g x).take (p + 1)).filter fun t => backK (kindN g x t)).map fun t => (x, t) by
              rw [HKZ.out, List.filter_append, List.map_append, ← List.append_assoc, ← HP2.out]
              congr 1
              rw [List.filter_cons, hb]; rfl)
            clear hqs hb
            go_wp2_with fail
            go_quiet (with_reducible exact tC _)
            have HO8 := Lib.hid (own_below HOWN4.out (below_drewN wr nq))
            have HB8 := Lib.hid (HB4.out.trans ((below_drewN wr nq).mono HB4.out.size))
            obtain ⟨w8, hw8⟩ : ∃ w8, w8 = wr.drewN nq := ⟨_, rfl⟩
            rw [← hw8] at HO8 HB8 ⊢
            have hszq := HB8.out.size
            have hlm : (P2.map (jt g)).length = P2.length := List.length_map _
            have s1 : IntKind.i64.wrap ((k : Int) + 1) = (k : Int) + 1 := IntWalk.i64_in _ (by omega)
            have s2 : IntKind.i64.wrap ((p : Int) + 1) = (p : Int) + 1 := IntWalk.i64_in _ (by omega)
            have s3 : ((k : Int) + 1).toNat = k + 1 := by omega
            have s4 : ((p : Int) + 1).toNat = p + 1 := by omega
            have s5 : (k : Int) + 1 ≤ o.size := by omega
            have s6 : (p : Int) + 1 ≤ nx.size := by omega
            have s7 : (0 : Int) ≤ (k : Int) + 1 := by omega
            have s8 : (0 : Int) ≤ (p : Int) + 1 := by omega
            have s9 : (k : Int) ≤ (k : Int) + 1 := by omega
            have s10 : (p : Int) ≤ (p : Int) + 1 := by omega
            clear hw8 tC
            go_wp2_with fail
            go_region_law ((refine step_append_lies _ (by rfl) _ _ _ (by rfl) w.heap.size 9 i0 _ 1 16 Tryz.underlying34 hi hz0 hz1 hz2 rfl (by omega) _ _ _ (by rfl) ((HO8.out.alloc _).drew) ⟨w8.heap.size, 0, none⟩ 1 1 [.string (o.extract k (k + 1) ++ nx.extract p (p + 1))] (by rfl) (by rfl) (World.news_of_block (cs := #[.string (o.extract k (k + 1) ++ nx.extract p (p + 1))]) (t := 9) (fr := (0, 0)) (heap_alloc_new w8 _)) (by simp [Value.oneCell']) (by omega) (by unfold maxLen; omega) (by omega) (by simp; omega) (w8.heap.size + 1) (by simp) ?_; intro gg capg w5 hown5 hgrow hat hltg))
            have hsz := ((HO8.out.alloc (.cells #[.string (o.extract k (k + 1) ++ nx.extract p (p + 1))] 9)).drew).lt
            have hB5 := ((HB8.out.alloc hszq (.cells #[.string (o.extract k (k + 1) ++ nx.extract p (p + 1))] 9)).drew).grown hgrow (by simp; omega) (fun j hj => (hsz j hj).1)
            have HB5 := Lib.hid hB5
            have HO5 : Hid (OwnJ w5 g w.heap.size (.slice (some ⟨gg, 0, none⟩) (P2.length + 1) capg) (P2 ++ [(x, t)])) := by
              show w5.ownsRow w.heap.size 9 1 _ ((P2 ++ [(x, t)]).map (jt g)).length (((P2 ++ [(x, t)]).map (jt g)).map Value.string)
              rw [List.map_append, List.length_append, List.map_append, List.map_singleton, ← HTX.out, hlm]
              rw [hlm] at hown5
              exact hown5
            clear hown5 hsz hgrow hat hB5
            go_wp2_with fail
            go_roundw
            case rel => exact ⟨p + 1, P2 ++ [(x, t)], by omega, by go_num, by simp; omega, HP3.out, HO5.out, HB5.out⟩
            case measure => simp [intOf]; omega
          · have q0 : ¬ (0 : Int) ≤ q := fun h => hb (hqs.1 h)
            have q1 : decide (0 ≤ q) = false := by simpa using q0
            have HP3 := Lib.hid (show P2 = P ++ (((nxt g x).take (p + 1)).filter fun t => backK (kindN g x t)).map fun t => (x, t) by
              rw [HKZ.out, List.filter_append, List.map_append, ← List.append_assoc, ← HP2.out, List.filter_cons, if_neg hb]
              simp)
            clear hqs hb
            go_wp2_with fail
            go_quiet (with_reducible exact tC _)
            have HO8 := Lib.hid (own_below HOWN4.out (below_drewN wr nq))
            have HB8 := Lib.hid (HB4.out.trans ((below_drewN wr nq).mono HB4.out.size))
            clear tC
            go_wp2_with fail
            go_roundw
            case rel => exact ⟨p + 1, P2, by omega, by go_num, by omega, HP3.out, HO8.out, HB8.out⟩
            case measure => simp [intOf]; omega
        · have HE := Lib.hid (show P2 = ((wayOrd g).take (k + 1)).flatMap (jumpsOf1 g backK) by
            rw [HP2.out, jumps_round hlt' HX.out, List.take_of_length_le (by omega), HP.out]; rfl)
          go_wp2_with fail
          go_roundw
          case rel => exact ⟨k + 1, P2, by omega, by go_num, by omega, HE.out, HOWN4.out, HB4.out⟩
          case measure => simp [intOf]; omega
    · have HE := Lib.hid (show P = jumpL g backK by rw [HP.out, List.take_of_length_le (by rw [← HOS.out]; omega)]; rfl)
      go_wp2_with fail
      go_ret
      exact ⟨_, rfl, by rw [← HE.out]; exact HOWN.out, HB.out⟩

theorem specBack_any (A : Option Addr) (cap : Nat) (g : List Bl) (w : World) (hg : Gr w A g) (hn : g.length + tot g ≤ 1048576) (hcap : g.length ≤ cap) :
    Calls Tryz.prog 24 #[.slice A g.length cap] w (JumpsPost backK w g) := by
  unfold JumpsPost
  have HC := Lib.hid (specValid_any A cap g w hg hn hcap)
  by_cases hv : validB g = true
  · rw [hv] at HC
    rw [if_pos hv, hv]
    have HB := Lib.hid (fun w' (h : Gr w' A g) => l4Back_any A cap g w' h (by omega) hv)
    have HG := Lib.hid hg
    clear hg hv
    go_enter Tryz.func24, Tryz.ntmps24
    go_wp2_with fail
    refine HC.out.mono ?_
    rintro e w1 ⟨rfl, b1⟩
    have HL := Lib.hid (HB.out w1 (HG.out.below b1))
    have HB1 := Lib.hid b1
    clear b1
    go_wp2_with fail
    refine HL.out.mono ?_
    rintro e w2 ⟨v, rfl, hown, b2⟩
    have HW := Lib.hid (own_lower hown HB1.out.size)
    have HB2 := Lib.hid (below_trans_self HB1.out b2)
    clear hown b2
    go_wp2_with fail
    go_ret2
    exact ⟨v, rfl, HW.out, HB2.out⟩
  · have hv : validB g = false := by simpa using hv
    rw [hv] at HC
    rw [if_neg (by rw [hv]; simp), hv]
    clear hg hv
    go_enter Tryz.func24, Tryz.ntmps24
    go_wp2_with fail
    refine HC.out.mono ?_
    rintro e w1 ⟨rfl, b1⟩
    have hs1 := b1.size
    have HB1 := Lib.hid (b1.alloc hs1 (.cells #[] 9))
    have HO := Lib.hid (World.ownsRow_made (base := w.heap.size) (e := 9) (size := 1) w1 #[] 0 hs1 (Nat.zero_le _) rfl)
    clear b1
    go_wp2_with fail
    go_ret2
    exact ⟨_, rfl, HO.out, HB1.out⟩
end Go.Proofs.YtdolbmonmkjajaaGreat
