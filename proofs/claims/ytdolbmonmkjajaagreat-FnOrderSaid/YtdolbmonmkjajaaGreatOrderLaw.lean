/-
  The law FnOrder, walked.
-/
import Derived.Test.YtdolbmonmkjajaaGreatSjTexts
import Derived.Test.YtdolbmonmkjajaaGreatDrawLoops
import Derived.Test.YtdolbmonmkjajaaGreatOrderCount
import Derived.Test.YtdolbmonmkjajaaGreatPrevN
import Derived.Test.YtdolbmonmkjajaaGreatPrevOf
import Derived.Test.YtdolbmonmkjajaaGreatPruneFacts
import Derived.Test.YtdolbmonmkjajaaGreatSpecMeets
import Derived.Test.YtdolbmonmkjajaaGreatSpecOrders
import Derived.Test.YtdolbmonmkjajaaGreatReachedOf
namespace Go.Proofs.YtdolbmonmkjajaaGreat
open Go.RowKit Go.Sort

theorem prevV_nm {g : List Bl} (hv : validB g = true) {x : Nat} (hx : x < g.length) : prevVal g (nthName g x) = namesAt g (prevN g x g.length) := by
  rw [prevVal_some hv (pos_name hv hx), nthName_at hx, prevs_all hv hx]
theorem prevN_len (g : List Bl) (x : Nat) : (prevN g x g.length).length ≤ g.length := by
  unfold prevN
  have := List.length_filter_le (fun j => decide (x ∈ nxt g j)) (List.range g.length)
  rw [List.length_range] at this
  exact this
theorem sumF_next {f : Nat → Nat} {l : List Nat} {k : Nat} (h : k < l.length) : sumF f (l.take (k + 1)) = sumF f (l.take k) + f l[k] := by
  rw [List.take_succ_eq_append_getElem h, sumF_append]; simp [sumF]
theorem sumF_most {f : Nat → Nat} {m : Nat} : ∀ {l : List Nat}, (∀ x, f x ≤ m) → sumF f l ≤ m * l.length
  | [], _ => by simp [sumF]
  | x :: l, h => by
    have := sumF_most (l := l) h
    have := h x
    rw [sumF_cons, List.length_cons, Nat.mul_succ]; omega
theorem place_one {g : List Bl} (hv : validB g = true) {i : Nat} (h : i < (wayOrd g).length) : placeN g (wayOrd g)[i] = i := placeIn_at (wayOrd_nodup hv) h
theorem reachS_below {g : List Bl} : ∀ i ∈ reachS g, i < g.length := fun i hi => srt_lt (g := g) (l := reach g) (Nat.le_refl _) i hi
theorem first_same {g : List Bl} (hv : validB g = true) : (namesAt g (wayOrd g)).extract 0 1 = (namesAt g (reachS g)).extract 0 1 := by
  obtain ⟨h1, e1⟩ := reachS_first hv
  obtain ⟨D, e2, _⟩ := wayOrd_went hv
  have h2 : 0 < (wayOrd g).length := by rw [e2]; simp
  have e3 : (wayOrd g)[0] = 0 := by simp [e2]
  have a := names_at hv (wayOrd_lt hv) h2
  have b := names_at hv reachS_below h1
  rw [e3] at a
  rw [e1] at b
  rw [a, b]

set_option maxRecDepth 100000 in
set_option maxHeartbeats 12800000 in
theorem order_walk (A : Option Addr) (la ca : Nat) (w : World) (hA : Bytes w A la) (h1 : la ≤ ca) (h3 : ca ≤ 9223372036854775807) :
    Calls Tryz.prog 5 #[.slice A la ca] w fun e w' => e = .returned (.bool true) ∧ Below w.heap.size w w' := by
  by_cases g1 : (1048576 : Int) < la
  · clear hA
    go_enter Tryz.func5, Tryz.ntmps5
    go_wp2_with fail
    go_ret
    exact ⟨rfl, Below.refl _ _⟩
  have HA := Lib.hid (drawOrderOf_any A la ca w hA h1 h3)
  clear hA
  go_enter Tryz.func5, Tryz.ntmps5
  go_wp2_with fail
  refine HA.out.mono ?_
  intro e w1 hd1
  obtain ⟨A1, c1, g, rfl, hc1, gg, hn1, b1⟩ := drawn_of hd1
  have HB1 := Lib.hid b1
  have HG1 := Lib.hid gg
  clear hd1 b1 gg
  obtain ⟨v, hvb⟩ : ∃ v, v = validB g := ⟨_, rfl⟩
  obtain ⟨o, ho⟩ : ∃ o, o = orderV g := ⟨_, rfl⟩
  obtain ⟨hs, hhs⟩ : ∃ hs, hs = headV g := ⟨_, rfl⟩
  obtain ⟨ms, hms⟩ : ∃ ms, ms = meetsV g := ⟨_, rfl⟩
  obtain ⟨L, hL⟩ : ∃ L, L = if validB g = true then jumpL g backK else [] := ⟨_, rfl⟩
  have hLl : L.length ≤ 52 := by
    rw [hL]
    by_cases hv : validB g = true
    · rw [if_pos hv]; exact jumpL_len hv backK
    · rw [if_neg hv]; simp
  have hll : (L.map (jt g)).length = L.length := List.length_map _
  have HOI := Lib.hid (fun W (h : Gr W A1 g) => (ho ▸ hvb ▸ implOrder_any A1 c1 g W h (by omega) : Calls Tryz.prog 21 #[.slice A1 g.length c1] W fun e w' => e = .returned (.tuple #[.string o, .bool v]) ∧ Below W.heap.size W w'))
  have HOS := Lib.hid (fun W (h : Gr W A1 g) => (ho ▸ hvb ▸ specOrder_any A1 c1 g W h (by omega) hc1 : Calls Tryz.prog 22 #[.slice A1 g.length c1] W fun e w' => e = .returned (.tuple #[.string o, .bool v]) ∧ Below W.heap.size W w'))
  have HBI := Lib.hid (fun W (h : Gr W A1 g) => ((implBack_any A1 c1 g W h (by omega)).mono fun e w' ⟨u, e1, e2, e3⟩ => by
    rw [← hL] at e2
    obtain ⟨A9, c9, e9, hst⟩ := own_strs e2
    subst e9
    rw [← hvb, hll] at e1
    exact ⟨A9, c9, e1, hst, e3⟩ : Calls Tryz.prog 23 #[.slice A1 g.length c1] W fun e w' => ∃ A9 c9, e = .returned (.tuple #[.slice A9 L.length c9, .bool v]) ∧ Strs w' A9 (L.map (jt g)) ∧ Below W.heap.size W w'))
  have HBS := Lib.hid (fun W (h : Gr W A1 g) => ((specBack_any A1 c1 g W h (by omega) hc1).mono fun e w' ⟨u, e1, e2, e3⟩ => by
    rw [← hL] at e2
    obtain ⟨A9, c9, e9, hst⟩ := own_strs e2
    subst e9
    rw [← hvb, hll] at e1
    exact ⟨A9, c9, e1, hst, e3⟩ : Calls Tryz.prog 24 #[.slice A1 g.length c1] W fun e w' => ∃ A9 c9, e = .returned (.tuple #[.slice A9 L.length c9, .bool v]) ∧ Strs w' A9 (L.map (jt g)) ∧ Below W.heap.size W w'))
  have HSJ := Lib.hid (fun X Y cx cy W (hx : Strs W X (L.map (jt g))) (hy : Strs W Y (L.map (jt g))) => (by
    have := sjTexts_any X Y cx cy (L.map (jt g)) W hx hy (by omega)
    rw [hll] at this
    exact this : Calls Tryz.prog 29 #[.slice X L.length cx, .slice Y L.length cy] W fun e w' => e = .returned (.bool true) ∧ Below W.heap.size W w'))
  have HHI := Lib.hid (fun W (h : Gr W A1 g) => (hhs ▸ hvb ▸ implHeaders_any A1 c1 g W h (by omega) : Calls Tryz.prog 25 #[.slice A1 g.length c1] W fun e w' => e = .returned (.tuple #[.string hs, .bool v]) ∧ Below W.heap.size W w'))
  have HHS := Lib.hid (fun W (h : Gr W A1 g) => (hhs ▸ hvb ▸ specHeaders_any A1 c1 g W h (by omega) hc1 : Calls Tryz.prog 26 #[.slice A1 g.length c1] W fun e w' => e = .returned (.tuple #[.string hs, .bool v]) ∧ Below W.heap.size W w'))
  have HMI := Lib.hid (fun W (h : Gr W A1 g) => (hms ▸ hvb ▸ implMeets_any A1 c1 g W h (by omega) : Calls Tryz.prog 27 #[.slice A1 g.length c1] W fun e w' => e = .returned (.tuple #[.string ms, .bool v]) ∧ Below W.heap.size W w'))
  have HMS := Lib.hid (fun W (h : Gr W A1 g) => (hms ▸ hvb ▸ specMeets_any A1 c1 g W h (by omega) hc1 : Calls Tryz.prog 28 #[.slice A1 g.length c1] W fun e w' => e = .returned (.tuple #[.string ms, .bool v]) ∧ Below W.heap.size W w'))
  have HV := Lib.hid hvb
  have HO := Lib.hid ho
  have HH := Lib.hid hhs
  have HM := Lib.hid hms
  have HL := Lib.hid hL
  clear hvb ho hhs hms hL
  have t1 : (o.toList == o.toList) = true := by simp
  have t2 : (hs.toList == hs.toList) = true := by simp
  have t3 : (ms.toList == ms.toList) = true := by simp
  go_wp2_with fail
  refine (HOI.out w1 HG1.out).mono ?_
  rintro e w2 ⟨rfl, b2⟩
  have HG2 := Lib.hid (HG1.out.below b2)
  have HB2 := Lib.hid (below_trans_self HB1.out b2)
  clear b2
  go_wp2_with fail
  refine (HOS.out w2 HG2.out).mono ?_
  rintro e w3 ⟨rfl, b3⟩
  have HG3 := Lib.hid (HG2.out.below b3)
  have HB3 := Lib.hid (below_trans_self HB2.out b3)
  clear b3
  go_wp2_with fail
  refine (HBI.out w3 HG3.out).mono ?_
  rintro e w4 ⟨A6, c6, rfl, st6, b4⟩
  have HG4 := Lib.hid (HG3.out.below b4)
  have HB4 := Lib.hid (below_trans_self HB3.out b4)
  have HX4 := Lib.hid st6
  clear b4 st6
  go_wp2_with fail
  refine (HBS.out w4 HG4.out).mono ?_
  rintro e w5 ⟨A7, c7, rfl, st7, b5⟩
  have HG5 := Lib.hid (HG4.out.below b5)
  have HB5 := Lib.hid (below_trans_self HB4.out b5)
  have HX5 := Lib.hid (HX4.out.below b5)
  have HY5 := Lib.hid st7
  clear b5 st7
  go_wp2_with fail
  refine (HHI.out w5 HG5.out).mono ?_
  rintro e w6 ⟨rfl, b6⟩
  have HG6 := Lib.hid (HG5.out.below b6)
  have HB6 := Lib.hid (below_trans_self HB5.out b6)
  have HX6 := Lib.hid (HX5.out.below b6)
  have HY6 := Lib.hid (HY5.out.below b6)
  clear b6
  go_wp2_with fail
  refine (HHS.out w6 HG6.out).mono ?_
  rintro e w7 ⟨rfl, b7⟩
  have HG7 := Lib.hid (HG6.out.below b7)
  have HB7 := Lib.hid (below_trans_self HB6.out b7)
  have HX7 := Lib.hid (HX6.out.below b7)
  have HY7 := Lib.hid (HY6.out.below b7)
  clear b7
  go_wp2_with fail
  refine (HMI.out w7 HG7.out).mono ?_
  rintro e w8 ⟨rfl, b8⟩
  have HG8 := Lib.hid (HG7.out.below b8)
  have HB8 := Lib.hid (below_trans_self HB7.out b8)
  have HX8 := Lib.hid (HX7.out.below b8)
  have HY8 := Lib.hid (HY7.out.below b8)
  clear b8
  go_wp2_with fail
  refine (HMS.out w8 HG8.out).mono ?_
  rintro e w9 ⟨rfl, b9⟩
  have HG9 := Lib.hid (HG8.out.below b9)
  have HB9 := Lib.hid (below_trans_self HB8.out b9)
  have HX9 := Lib.hid (HX8.out.below b9)
  have HY9 := Lib.hid (HY8.out.below b9)
  clear b9
  cases v with
  | false =>
    go_wp2_with fail
    refine (HSJ.out _ _ _ _ w9 HX9.out HY9.out).mono ?_
    rintro e w10 ⟨rfl, b10⟩
    have HB10 := Lib.hid (below_trans_self HB9.out b10)
    have HX10 := Lib.hid (HX9.out.below b10)
    have HY10 := Lib.hid (HY9.out.below b10)
    clear b10
    go_wp2_with fail
    refine (HSJ.out _ _ _ _ w10 HX10.out HY10.out).mono ?_
    rintro e w11 ⟨rfl, b11⟩
    have HB11 := Lib.hid (below_trans_self HB10.out b11)
    clear b11
    go_wp2_with fail
    go_ret
    exact ⟨rfl, HB11.out⟩
  | true =>
    have hv : validB g = true := HV.out.symm
    have h26 := (valid_iff.1 hv).2.1
    have hoe : o = namesAt g (wayOrd g) := by rw [HO.out]; unfold orderV; rw [if_pos hv]
    have hoz : o.size = (wayOrd g).length := by rw [hoe]; exact namesAt_size hv _ (wayOrd_lt hv)
    have hwl := wayOrd_len hv
    have hhe : hs = namesAt g (headL g) := by rw [HH.out]; exact headV_yes hv
    have hhz : hs.size ≤ 26 := by rw [HH.out]; exact (headV_small hv).2
    have hme : ms = namesAt g (meetsL g) := by rw [HM.out]; unfold meetsV; rw [if_pos hv]
    have hml : ∀ i ∈ meetsL g, i < g.length := goalL_lt 2 fwdK
    have hmz : ms.size ≤ 26 := by
      rw [hme, namesAt_size hv _ hml]
      exact Nat.le_trans (goalL_len 2 fwdK) (reachS_small hv)
    have hLe : L = jumpL g backK := by rw [HL.out, if_pos hv]
    obtain ⟨rs, hrs⟩ : ∃ rs, rs = reachV g := ⟨_, rfl⟩
    have HRI := Lib.hid (fun W (h : Gr W A1 g) => (by have := implReached_any A1 c1 g W h (by omega); rw [← hrs, hv] at this; exact this : Calls Tryz.prog 33 #[.slice A1 g.length c1] W fun e w' => e = .returned (.tuple #[.string rs, .bool true]) ∧ Below W.heap.size W w'))
    have hre : rs = namesAt g (reachS g) := by rw [hrs]; exact reachV_yes hv
    have hrz : o.size = rs.size := by
      rw [hoz, live_len hv, hre]
      exact (namesAt_size hv _ reachS_below).symm
    have h01 : 1 ≤ o.size := by rw [hrz, hre, namesAt_size hv _ reachS_below]; exact (reachS_first hv).1
    have HFI := Lib.hid (show o.extract 0 1 = rs.extract 0 1 by rw [hoe, hre]; exact first_same hv)
    obtain ⟨fb, hfb⟩ : ∃ fb : Nat → Nat, fb = fun t => (prevN g t g.length).countP (bckP g t) := ⟨_, rfl⟩
    have HFB := Lib.hid (fun t => show fb t = (prevN g t g.length).countP (bckP g t) from by rw [hfb])
    have hfm : ∀ t, fb t ≤ 26 := fun t => by
      rw [HFB.out]
      have := List.countP_le_length (p := bckP g t) (l := prevN g t g.length)
      have := prevN_len g t
      omega
    have HSUM := Lib.hid (show sumF fb (wayOrd g) = L.length by rw [hLe, hfb]; exact back_len hv)
    have HSM := Lib.hid (fun i => show sumF fb ((wayOrd g).take i) ≤ 676 from by
      have := sumF_most (l := (wayOrd g).take i) hfm
      have := List.length_take_le i (wayOrd g)
      have h2 : 26 * ((wayOrd g).take i).length ≤ 26 * 26 := Nat.mul_le_mul_left _ (by rw [List.length_take]; omega)
      omega)
    have HPI := Lib.hid (fun W (k : Gr W A1 g) s => implPrev_any A1 c1 g s W k (by omega))
    have HVV := Lib.hid hv
    have HOE := Lib.hid hoe
    have HHE := Lib.hid hhe
    have HME := Lib.hid hme
    have HOZ := Lib.hid hoz
    have HML := Lib.hid hml
    clear hv hoe hhe hme hoz hml hLe hrs hre hfb
    go_wp2_with fail
    refine (HSJ.out _ _ _ _ w9 HX9.out HY9.out).mono ?_
    rintro e w10 ⟨rfl, b10⟩
    have HG10 := Lib.hid (HG9.out.below b10)
    have HB10 := Lib.hid (below_trans_self HB9.out b10)
    clear b10
    go_wp2_with fail
    go_loopw [20, 157] (fun nv iv wr => ∃ (n i : Nat), i ≤ o.size ∧ iv = .int .i64 i ∧ nv = .int .i64 n ∧ Hid (n = sumF fb ((wayOrd g).take i)) ∧ Hid (Gr wr A1 g) ∧ Hid (Below w.heap.size w wr)) (fun _ iv _ => o.size - (intOf iv).toNat)
    case atStart => exact ⟨0, 0, Nat.zero_le _, rfl, rfl, (by simp [sumF] : 0 = sumF fb ((wayOrd g).take 0)), HG10.out, HB10.out⟩
    case round =>
      obtain ⟨n, i, hi, rfl, rfl, HN, HG, HB⟩ := hrel
      by_cases hlt : i < o.size
      · have hi' : i < (wayOrd g).length := by rw [← HOZ.out]; exact hlt
        obtain ⟨t, ht⟩ : ∃ t, t = (wayOrd g)[i] := ⟨_, rfl⟩
        have htm : t ∈ wayOrd g := ht ▸ List.getElem_mem hi'
        have htr : Rch g [] t := (mem_wayOrd HVV.out).1 htm
        have htl : t < g.length := htr.lt HVV.out
        have hpt : placeN g t = i := by rw [ht]; exact place_one HVV.out hi'
        have hot : o.extract i (i + 1) = nthName g t := by rw [HOE.out, ht]; exact names_at HVV.out (wayOrd_lt HVV.out) hi'
        have hi1 : i + 1 ≤ o.size := by omega
        have hn676 : n ≤ 676 := by rw [HN.out]; exact HSM.out i
        have HNX := Lib.hid (show sumF fb ((wayOrd g).take (i + 1)) = n + fb t by rw [sumF_next hi', ← ht, HN.out])
        obtain ⟨ps, hps⟩ : ∃ ps, ps = prevVal g (o.extract i (i + 1)) := ⟨_, rfl⟩
        have HPQ := Lib.hid (HPI.out wr HG.out (o.extract i (i + 1)))
        rw [← hps] at HPQ
        obtain ⟨Q, hQ⟩ : ∃ Q, Q = prevN g t g.length := ⟨_, rfl⟩
        have hQl : ∀ p ∈ Q, p < g.length := by rw [hQ]; exact prevN_lt (Nat.le_refl _)
        have hpe : ps = namesAt g Q := by rw [hps, hot, hQ]; exact prevV_nm HVV.out htl
        have hpz : ps.size = Q.length := by rw [hpe]; exact namesAt_size HVV.out _ hQl
        have hp26 : ps.size ≤ 26 := by rw [hpz, hQ]; have := prevN_len g t; omega
        have HQX := Lib.hid (fun m (hm : m < ps.size) => show ∃ p, p < g.length ∧ t ∈ nxt g p ∧ ps.extract m (m + 1) = nthName g p ∧ ∀ q : Nat → Bool, (Q.take (m + 1)).countP q = (Q.take m).countP q + (if q p = true then 1 else 0) from by
          have hm' : m < Q.length := by omega
          have h9 : Q[m] ∈ prevN g t g.length := by rw [← hQ]; exact List.getElem_mem hm'
          have := mem_prevN.1 h9
          exact ⟨Q[m], this.1, this.2, by rw [hpe]; exact names_at HVV.out hQl hm', fun q => countP_take hm'⟩)
        have HHD := Lib.hid (fun p (hp : Rch g [] p) (hn : t ∈ nxt g p) (hle : i ≤ placeN g p) => show hasB hs (o.extract i (i + 1)) = true from by
          rw [hot, HHE.out, hasN HVV.out head_lt htl]
          exact decide_eq_true ((mem_headL HVV.out).2 ⟨htr, p, hp, hn, by rw [backK_kind, decide_eq_true_iff, hpt]; exact hle⟩))
        obtain ⟨F, hF⟩ : ∃ F, F = (srcL g fwdK t).length := ⟨_, rfl⟩
        have HFE := Lib.hid (show Q.countP (fwdP g t) = F by rw [hQ, hF]; exact fwd_len HVV.out t)
        have HBE := Lib.hid (show Q.countP (bckP g t) = fb t by rw [hQ, HFB.out])
        have HF0 := Lib.hid (fun (h0 : 0 < i) => show 0 < F from by
          obtain ⟨p, hp, hnp, hlp⟩ := fwd_pred HVV.out htr (by
            intro e
            rw [e, place_entry HVV.out] at hpt
            omega)
          rw [hF]
          refine List.length_pos_of_mem ((mem_srcL HVV.out).2 ⟨hp, hnp, by rw [kind_fwd hlp]; rfl⟩ : p ∈ srcL g fwdK t))
        have HMT := Lib.hid (show hasB ms (o.extract i (i + 1)) = decide (1 < F) by
          rw [hot, HME.out, hasN HVV.out HML.out htl, decide_eq_decide, hF]
          unfold meetsL goalL
          rw [List.mem_filter, mem_reachS' HVV.out, decide_eq_true_iff]
          exact ⟨fun h => h.2, fun h => ⟨htr, h⟩⟩)
        have HPT := Lib.hid hpt
        clear hps hpe hQ hF hpt hot ht htm htr htl
        go_wp2_with fail
        refine HPQ.out.mono ?_
        rintro e v1 ⟨rfl, d1⟩
        have HGa := Lib.hid (HG.out.below d1)
        have HBa := Lib.hid (below_trans_self HB.out d1)
        clear d1 HPQ
        go_wp2_with fail
        go_loop [20, 24, 172] (fun nv fv mv => ∃ (m f b : Nat), m ≤ ps.size ∧ f ≤ m ∧ b ≤ m ∧ mv = .int .i64 m ∧ fv = .int .i64 f ∧ nv = .int .i64 ((n : Int) + (b : Int)) ∧ Hid (f = (Q.take m).countP (fwdP g t)) ∧ Hid (b = (Q.take m).countP (bckP g t))) (fun _ _ mv => ps.size - (intOf mv).toNat)
        case atStart => exact ⟨0, 0, 0, Nat.zero_le _, Nat.le_refl _, Nat.le_refl _, rfl, rfl, by go_num, (by simp : 0 = (Q.take 0).countP (fwdP g t)), (by simp : 0 = (Q.take 0).countP (bckP g t))⟩
        case round =>
          obtain ⟨m, f, b, hm, hfm', hbm, rfl, rfl, rfl, HF, HBK⟩ := hrel
          by_cases hmlt : m < ps.size
          · obtain ⟨p, hpl, hpn, ep, hcount⟩ := HQX.out m hmlt
            have hm1 : m + 1 ≤ ps.size := by omega
            have tA := (by have := sjIndex_any g (wayOrd g) p v1 HVV.out (wayOrd_lt HVV.out) hpl (by omega); rw [← HOE.out, ← ep] at this; exact this : Calls Tryz.prog 31 #[.string o, .string (ps.extract m (m + 1))] v1 fun e w' => e = .returned (.int .i64 (idxN (wayOrd g) p)) ∧ v1 = w')
            by_cases hpr : p ∈ wayOrd g
            · have hpr' : Rch g [] p := (mem_wayOrd HVV.out).1 hpr
              rw [idxN_way HVV.out hpr'] at tA
              obtain ⟨P, hP⟩ : ∃ P, P = placeN g p := ⟨_, rfl⟩
              rw [← hP] at tA
              have z0 : (0 : Int) ≤ (P : Int) := by omega
              have z1 : decide ((0 : Int) ≤ (P : Int)) = true := decide_eq_true z0
              have TA := Lib.hid tA
              by_cases hPi : P < i
              · have HF2 := Lib.hid (show f + 1 = (Q.take (m + 1)).countP (fwdP g t) by
                  rw [hcount, ← HF.out, if_pos (by unfold fwdP; rw [decide_eq_true hpr, HPT.out, ← hP, decide_eq_true hPi]; rfl)])
                have HB2' := Lib.hid (show b = (Q.take (m + 1)).countP (bckP g t) by
                  rw [hcount, ← HBK.out, if_neg (by unfold bckP; rw [decide_eq_true hpr, HPT.out, ← hP, decide_eq_false (by omega : ¬ i ≤ P)]; simp)]; rfl)
                have q1 : decide ((P : Int) < (i : Int)) = true := decide_eq_true (by omega)
                have q2 : decide ((i : Int) ≤ (P : Int)) = false := decide_eq_false (by omega)
                clear tA hcount hP hpr hpr' ep
                go_wp2_with fail
                refine TA.out.mono ?_
                rintro e w' ⟨rfl, rfl⟩
                go_wp2_with fail
                go_round
                case rel => exact ⟨m + 1, f + 1, b, by omega, by omega, by omega, by go_num, by go_num, by go_num, HF2.out, HB2'.out⟩
                case measure => simp [intOf]; omega
              · have HF2 := Lib.hid (show f = (Q.take (m + 1)).countP (fwdP g t) by
                  rw [hcount, ← HF.out, if_neg (by unfold fwdP; rw [decide_eq_true hpr, HPT.out, ← hP, decide_eq_false hPi]; simp)]; rfl)
                have HB2' := Lib.hid (show b + 1 = (Q.take (m + 1)).countP (bckP g t) by
                  rw [hcount, ← HBK.out, if_pos (by unfold bckP; rw [decide_eq_true hpr, HPT.out, ← hP, decide_eq_true (by omega : i ≤ P)]; rfl)])
                have q1 : decide ((P : Int) < (i : Int)) = false := decide_eq_false (by omega)
                have q2 : decide ((i : Int) ≤ (P : Int)) = true := decide_eq_true (by omega)
                have hhas := HHD.out p hpr' hpn (by omega)
                have tB := Lib.hid (by have := sjHas_any hs (o.extract i (i + 1)) v1 (by omega); rw [hhas] at this; exact this : Calls Tryz.prog 32 #[.string hs, .string (o.extract i (i + 1))] v1 fun e w' => e = .returned (.bool true) ∧ v1 = w')
                clear tA hcount hP hpr hpr' ep hhas
                go_wp2_with fail
                refine TA.out.mono ?_
                rintro e w' ⟨rfl, rfl⟩
                go_wp2_with fail
                refine tB.out.mono ?_
                rintro e w' ⟨rfl, rfl⟩
                go_wp2_with fail
                go_round
                case rel => exact ⟨m + 1, f, b + 1, by omega, by omega, by omega, by go_num, by go_num, by go_num, HF2.out, HB2'.out⟩
                case measure => simp [intOf]; omega
            · rw [idxN_no hpr] at tA
              have HF2 := Lib.hid (show f = (Q.take (m + 1)).countP (fwdP g t) by
                rw [hcount, ← HF.out, if_neg (by unfold fwdP; rw [decide_eq_false hpr]; simp)]; rfl)
              have HB2' := Lib.hid (show b = (Q.take (m + 1)).countP (bckP g t) by
                rw [hcount, ← HBK.out, if_neg (by unfold bckP; rw [decide_eq_false hpr]; simp)]; rfl)
              have TA := Lib.hid tA
              have q2 : decide ((i : Int) ≤ -1) = false := decide_eq_false (by omega)
              have q3 : ¬ ((i : Int) ≤ -1) := by omega
              clear tA hcount hpr ep
              go_wp2_with fail
              refine TA.out.mono ?_
              rintro e w' ⟨rfl, rfl⟩
              go_wp2_with fail
              go_round
              case rel => exact ⟨m + 1, f, b, by omega, by omega, by omega, by go_num, by go_num, by go_num, HF2.out, HB2'.out⟩
              case measure => simp [intOf]; omega
          · have hfF : f = F := by rw [HF.out, List.take_of_length_le (by omega), HFE.out]
            have hbE : b = fb t := by rw [HBK.out, List.take_of_length_le (by omega), HBE.out]
            have HN2 := Lib.hid (show n + b = sumF fb ((wayOrd g).take (i + 1)) by rw [HNX.out, hbE])
            have tM := Lib.hid (by have := sjHas_any ms (o.extract i (i + 1)) v1 (by omega); rw [HMT.out, ← hfF] at this; exact this : Calls Tryz.prog 32 #[.string ms, .string (o.extract i (i + 1))] v1 fun e w' => e = .returned (.bool (decide (1 < f))) ∧ v1 = w')
            have hf0 : 0 < i → 0 < f := fun h => by rw [hfF]; exact HF0.out h
            clear hfF hbE
            by_cases h0 : 0 < i
            · have hf1 := hf0 h0
              have u1 : decide ((0 : Int) < (i : Int)) = true := decide_eq_true (by omega)
              have u2 : ((f : Int) == 0) = false := by simp; omega
              have u3 : decide ((f : Int) = 0) = false := decide_eq_false (by omega)
              have u4 : ¬ f = 0 := by omega
              by_cases hf : 1 < f
              · have u5 : decide ((1 : Int) < (f : Int)) = true := decide_eq_true (by omega)
                rw [decide_eq_true hf] at tM
                clear hf0
                go_wp2_with fail
                refine tM.out.mono ?_
                rintro e w' ⟨rfl, rfl⟩
                go_wp2_with fail
                go_roundw
                case rel => exact ⟨n + b, i + 1, by omega, by go_num, by go_num, HN2.out, HGa.out, HBa.out⟩
                case measure => simp [intOf]; omega
              · have u5 : decide ((1 : Int) < (f : Int)) = false := decide_eq_false (by omega)
                rw [decide_eq_false hf] at tM
                clear hf0
                go_wp2_with fail
                refine tM.out.mono ?_
                rintro e w' ⟨rfl, rfl⟩
                go_wp2_with fail
                go_roundw
                case rel => exact ⟨n + b, i + 1, by omega, by go_num, by go_num, HN2.out, HGa.out, HBa.out⟩
                case measure => simp [intOf]; omega
            · obtain rfl : i = 0 := by omega
              by_cases hf : 1 < f
              · have u5 : decide ((1 : Int) < (f : Int)) = true := decide_eq_true (by omega)
                rw [decide_eq_true hf] at tM
                clear hf0
                go_wp2_with fail
                refine tM.out.mono ?_
                rintro e w' ⟨rfl, rfl⟩
                go_wp2_with fail
                go_roundw
                case rel => exact ⟨n + b, 0 + 1, by omega, by go_num, by go_num, HN2.out, HGa.out, HBa.out⟩
                case measure => simp [intOf]; omega
              · have u5 : decide ((1 : Int) < (f : Int)) = false := decide_eq_false (by omega)
                rw [decide_eq_false hf] at tM
                clear hf0
                go_wp2_with fail
                refine tM.out.mono ?_
                rintro e w' ⟨rfl, rfl⟩
                go_wp2_with fail
                go_roundw
                case rel => exact ⟨n + b, 0 + 1, by omega, by go_num, by go_num, HN2.out, HGa.out, HBa.out⟩
                case measure => simp [intOf]; omega
      · have hnL : n = L.length := by rw [HN.out, List.take_of_length_le (by rw [← HOZ.out]; omega), HSUM.out]
        subst hnL
        have k1 : 1 ≤ rs.size := by omega
        have k2 : (1 : Int) ≤ (o.size : Int) := by omega
        have k3 : (1 : Int) ≤ (rs.size : Int) := by omega
        have q1 : ((o.extract 0 1).toList == (rs.extract 0 1).toList) = true := by rw [HFI.out]; simp
        have q2 : decide ((o.size : Int) = (rs.size : Int)) = true := decide_eq_true (by omega)
        have q3 : ((o.size : Int) == (rs.size : Int)) = true := by simp; omega
        go_wp2_with fail
        refine (HRI.out wr HG.out).mono ?_
        rintro e v8 ⟨rfl, d8⟩
        have HB8 := Lib.hid (below_trans_self HB.out d8)
        clear d8
        go_wp2_with fail
        go_quiet (fail)
        have HB9 := Lib.hid (below_trans_self HB8.out (below_drewN v8 nq))
        go_wp2_with fail
        go_ret
        exact ⟨rfl, HB9.out⟩
end Go.Proofs.YtdolbmonmkjajaaGreat
