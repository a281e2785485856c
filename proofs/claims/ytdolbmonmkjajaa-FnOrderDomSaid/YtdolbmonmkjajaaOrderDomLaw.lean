/-
  The law FnOrderDom, walked.
-/
import Derived.Test.YtdolbmonmkjajaaDraws
import Derived.Test.YtdolbmonmkjajaaLaw
import Derived.Test.YtdolbmonmkjajaaLoopMath
import Derived.Test.YtdolbmonmkjajaaSpecOrders
import Derived.Test.YtdolbmonmkjajaaOrders
import Derived.Test.YtdolbmonmkjajaaDominatorsOf
import Derived.IntWalk
namespace Go.Proofs.Ytdolbmonmkjajaa
open Go.RowKit Go.Sort

set_option maxRecDepth 100000 in
theorem drawOrderW_any (A : Option Addr) (len cap : Nat) (w : World) (hb : Bytes w A len) (hlc : len ≤ cap) (hl : cap ≤ 9223372036854775807) :
    Calls Try.prog 23 #[.slice A len cap] w (DrawPost 40 w) := by
  have HC := Lib.hid (open_any A len cap w hb hlc hl)
  clear hb
  go_enter Try.func23, Try.ntmps23
  go_wp2_with fail
  refine HC.out.mono ?_
  rintro e w1 ⟨A', len', cap', rfl, hrd, b1⟩
  have HR1 := Lib.hid hrd
  have HB := Lib.hid b1
  have hs1 := b1.size
  clear hrd b1
  go_wp2_with fail
  refine (some_any w.heap.size A' len' cap' 0 w1 HR1.out (by omega)).mono ?_
  rintro e w2 ⟨v, g, q, rfl, hown, hg, ho, _, _⟩
  have HOWN := Lib.hid (ownRow_base hown hs1)
  have HB2 := Lib.hid (Only.below HB.out ho)
  clear hown ho
  go_wp2_with fail
  exact bodyPost_ret (v := v) (by simp [results, Try.results23, go_sem]) rfl ⟨v, g, rfl, HOWN.out, hg, HB2.out⟩

/-- Where a letter stands among some names. -/
def idxW (L : List Nat) (i : Nat) : Int := if i ∈ L then (placeIn L i : Int) else -1
theorem idxW_at {L : List Nat} {k : Nat} (hk : k < L.length) (hb : ∀ j (h : j < L.length), j < k → L[j] ≠ L[k]) : idxW L L[k] = k := by
  have hm : L[k] ∈ L := List.getElem_mem hk
  unfold idxW
  rw [if_pos hm]
  have h1 := placeIn_lt hm
  have h2 := placeIn_get hm
  rcases Nat.lt_trichotomy (placeIn L L[k]) k with q | q | q
  · exact absurd h2 (hb _ h1 q)
  · rw [q]
  · have := List.not_of_lt_findIdx (xs := L) (p := fun y => decide (y = L[k])) q
    simp at this
theorem idxW_no {L : List Nat} {i : Nat} (h : i ∉ L) : idxW L i = -1 := by unfold idxW; rw [if_neg h]

theorem sjIndexW_any (g : List Bl) (l : List Nat) (x : Nat) (w : World) (hv : validB g = true) (hl : ∀ i ∈ l, i < g.length) (hx : x < g.length) (hn : l.length ≤ 1048576) :
    Calls Try.prog 28 #[.string (namesAt g l), .string (nthName g x)] w fun e w' => e = .returned (.int .i64 (idxW l x)) ∧ w = w' := by
  have hz := namesAt_size hv l hl
  have HCUT := Lib.hid (fun k (hk : k < l.length) => show (namesAt g l).extract k (k + 1) = nthName g l[k] from names_at hv hl hk)
  have HINJ := Lib.hid (fun k (hk : k < l.length) (e : nthName g l[k] = nthName g x) => show l[k] = x from by
    have hkl := hl _ (List.getElem_mem hk)
    rw [nthName_at hkl, nthName_at hx] at e
    exact name_inj hv hkl hx e)
  obtain ⟨s, hs⟩ : ∃ s, s = namesAt g l := ⟨_, rfl⟩
  obtain ⟨c, hc⟩ : ∃ c, c = nthName g x := ⟨_, rfl⟩
  rw [← hs] at hz HCUT ⊢
  rw [← hc] at HINJ ⊢
  have HC := Lib.hid hc
  clear hs hv hl hx hc
  go_enter Try.func28, Try.ntmps28
  go_wp2_with fail
  go_loop [8] (fun iv => ∃ k : Nat, k ≤ s.size ∧ iv = .int .i64 k ∧ Hid (∀ j (h : j < l.length), j < k → l[j] ≠ x)) (fun iv => s.size - (intOf iv).toNat)
  case atStart => exact ⟨0, Nat.zero_le _, rfl, fun j _ h => absurd h (by omega)⟩
  case round =>
    obtain ⟨k, hk, rfl, HK⟩ := hrel
    by_cases hlt : k < s.size
    · have hk' : k < l.length := by omega
      have hk1 : k + 1 ≤ s.size := by omega
      by_cases he : l[k] = x
      · have t1 : ((s.extract k (k + 1)).toList == c.toList) = true := by rw [HCUT.out k hk', he, HC.out]; simp
        have HR := Lib.hid (show (k : Int) = idxW l x by
          rw [← he]
          exact (idxW_at hk' fun j h hj => by rw [he]; exact HK.out j h hj).symm)
        clear he
        go_wp2_with fail
        go_ret
        exact ⟨ret_int HR.out, rfl⟩
      · have t1 : ((s.extract k (k + 1)).toList == c.toList) = false := by
          rw [Bool.eq_false_iff]
          intro e
          have := beq_toList.1 e
          rw [HCUT.out k hk'] at this
          exact he (HINJ.out k hk' this)
        have HE := Lib.hid he
        clear he
        go_wp2_with fail
        go_round
        case rel =>
          refine ⟨k + 1, by omega, by go_num, fun j h hj => ?_⟩
          rcases Nat.lt_succ_iff_lt_or_eq.1 hj with hj | rfl
          · exact HK.out j h hj
          · exact HE.out
        case measure => simp [intOf]; omega
    · have HR := Lib.hid (show (-1 : Int) = idxW l x from (idxW_no fun hm => by
        obtain ⟨j, hj, e⟩ := List.getElem_of_mem hm
        exact HK.out j hj (by omega) e).symm)
      go_wp2_with fail
      go_ret
      exact ⟨ret_int HR.out, rfl⟩

theorem idxW_way {g : List Bl} (hv : validB g = true) {x : Nat} (hr : Rch g [] x) : idxW (wayOrd g) x = (placeN g x : Int) := by
  unfold idxW; rw [if_pos ((mem_wayOrd hv).2 hr)]; rfl

set_option maxRecDepth 100000 in
set_option maxHeartbeats 6400000 in
theorem orderDom_walk (A : Option Addr) (la ca : Nat) (w : World) (hA : Bytes w A la) (h1 : la ≤ ca) (h3 : ca ≤ 9223372036854775807) :
    Calls Try.prog 7 #[.slice A la ca] w fun e w' => e = .returned (.bool true) ∧ Below w.heap.size w w' := by
  by_cases g1 : (1048576 : Int) < la
  · clear hA
    go_enter Try.func7, Try.ntmps7
    go_wp2_with fail
    go_ret
    exact ⟨rfl, Below.refl _ _⟩
  have HA := Lib.hid (drawOrderW_any A la ca w hA h1 h3)
  clear hA
  go_enter Try.func7, Try.ntmps7
  go_wp2_with fail
  refine HA.out.mono ?_
  intro e w1 hd1
  obtain ⟨A1, c1, g, rfl, hc1, gg, hn1, b1⟩ := drawn_of hd1
  have HB1 := Lib.hid b1
  have HG1 := Lib.hid gg
  clear hd1 b1 gg
  obtain ⟨v, hvb⟩ : ∃ v, v = validB g := ⟨_, rfl⟩
  obtain ⟨o, ho⟩ : ∃ o, o = orderV g := ⟨_, rfl⟩
  have HOI := Lib.hid (fun W (h : Gr W A1 g) => (ho ▸ hvb ▸ implOrder_any A1 c1 g W h (by omega) : Calls Try.prog 24 #[.slice A1 g.length c1] W fun e w' => e = .returned (.tuple #[.string o, .bool v]) ∧ Below W.heap.size W w'))
  have HOS := Lib.hid (fun W (h : Gr W A1 g) => (ho ▸ hvb ▸ specOrder_any A1 c1 g W h (by omega) hc1 : Calls Try.prog 25 #[.slice A1 g.length c1] W fun e w' => e = .returned (.tuple #[.string o, .bool v]) ∧ Below W.heap.size W w'))
  have HV := Lib.hid hvb
  have HO := Lib.hid ho
  clear hvb ho
  have t1 : (v != v) = false := by simp
  go_wp2_with fail
  refine (HOI.out w1 HG1.out).mono ?_
  rintro e w2 ⟨rfl, b2⟩
  have HG2 := Lib.hid (HG1.out.below b2)
  have HB2 := Lib.hid (below_trans_self HB1.out b2)
  clear b2
  go_wp2_with fail
  refine (HOS.out w2 HG2.out).mono ?_
  rintro e w3 ⟨rfl, b3⟩
  have HG3 := Lib.hid (HG2.out.below b3)
  have HB3 := Lib.hid (below_trans_self HB2.out b3)
  clear b3
  cases v with
  | false =>
    have t5 : o.toList = [] := by rw [HO.out]; unfold orderV; rw [← HV.out, if_neg (by decide), Lib.toList_data]
    go_wp2_with fail
    go_ret
    exact ⟨rfl, HB3.out⟩
  | true =>
    have hv : validB g = true := HV.out.symm
    have h26 := (valid_iff.1 hv).2.1
    have hoe : o = namesAt g (wayOrd g) := by rw [HO.out]; unfold orderV; rw [if_pos hv]
    have hoz : o.size = (wayOrd g).length := by rw [hoe]; exact namesAt_size hv _ (wayOrd_lt hv)
    have hwl := wayOrd_len hv
    have HAT := Lib.hid (fun i (hi : i < o.size) => show ∃ t, Rch g [] t ∧ placeN g t = i ∧ o.extract i (i + 1) = nthName g t from by
      have hi' : i < (wayOrd g).length := by omega
      exact ⟨(wayOrd g)[i], (mem_wayOrd hv).1 (List.getElem_mem hi'), placeIn_at (wayOrd_nodup hv) hi', by rw [hoe]; exact names_at hv (wayOrd_lt hv) hi'⟩)
    have HDI := Lib.hid (fun s t W (h : Gr W A1 g) => implDominates_any A1 c1 g s t W h (by omega))
    have HDX := Lib.hid (fun s W (h : Gr W A1 g) => implDominators_any A1 c1 g s W h (by omega))
    have HSI := Lib.hid (fun x (hr : Rch g [] x) W => (by
      have := sjIndexW_any g (wayOrd g) x W hv (wayOrd_lt hv) (hr.lt hv) (by omega)
      rw [← hoe, idxW_way hv hr] at this
      exact this : Calls Try.prog 28 #[.string o, .string (nthName g x)] W fun e w' => e = .returned (.int .i64 (placeN g x : Int)) ∧ W = w'))
    have ho26 : o.size ≤ 26 := by omega
    have HVV := Lib.hid hv
    clear hv hoe hoz
    go_wp2_with fail
    go_loopw [37] (fun iv wr => ∃ i : Nat, i ≤ o.size ∧ iv = .int .i64 i ∧ Hid (Gr wr A1 g) ∧ Hid (Below w.heap.size w wr)) (fun iv _ => o.size - (intOf iv).toNat)
    case atStart => exact ⟨0, Nat.zero_le _, rfl, HG3.out, HB3.out⟩
    case round =>
      obtain ⟨i, hi, rfl, HG, HB⟩ := hrel
      by_cases hlt : i < o.size
      · have hi1 : i + 1 ≤ o.size := by omega
        obtain ⟨t, htr, hpt, ht⟩ := HAT.out i hlt
        have HT := Lib.hid ht
        have HPT := Lib.hid hpt
        have HTR := Lib.hid htr
        clear ht hpt htr
        go_wp2_with fail
        go_loopw [41] (fun kv wr => ∃ k : Nat, k ≤ i ∧ kv = .int .i64 k ∧ Hid (Gr wr A1 g) ∧ Hid (Below w.heap.size w wr)) (fun kv _ => i - (intOf kv).toNat)
        case atStart => exact ⟨0, Nat.zero_le _, rfl, HG.out, HB.out⟩
        case round =>
          obtain ⟨k, hk, rfl, HGk, HBk⟩ := hrel
          by_cases hki : k < i
          · obtain ⟨u, hur, hpu, hu⟩ := HAT.out k (by omega)
            have hk1 : k + 1 ≤ o.size := by omega
            have i1 : IntKind.i64.wrap ((i : Int) + 1) = (i : Int) + 1 := IntWalk.i64_in _ (by omega)
            have i2 : ((i : Int) + 1).toNat = i + 1 := by omega
            have i3 : (i : Int) + 1 ≤ o.size := by omega
            have i4 : (0 : Int) ≤ (i : Int) + 1 := by omega
            have i5 : (i : Int) ≤ (i : Int) + 1 := by omega
            have m1 : IntKind.i64.wrap ((k : Int) + 1) = (k : Int) + 1 := IntWalk.i64_in _ (by omega)
            have m2 : ((k : Int) + 1).toNat = k + 1 := by omega
            have m3 : (k : Int) + 1 ≤ o.size := by omega
            have m4 : (0 : Int) ≤ (k : Int) + 1 := by omega
            have m5 : (k : Int) ≤ (k : Int) + 1 := by omega
            have cD : ∀ d os, Calls Try.prog 26 #[.slice A1 g.length c1, .string (o.extract i (i + 1)), .string (o.extract k (k + 1))] (grow (redrawn wr d) os) fun e w'' => e = .returned (.bool false) ∧ ∃ p : Regrown, w'' = grow (redrawn wr p.d) p.os := fun d os => by
              have := HDI.out (o.extract i (i + 1)) (o.extract k (k + 1)) (grow (redrawn wr d) os) (gr_grown HGk.out d os)
              rw [show domB g (o.extract i (i + 1)) (o.extract k (k + 1)) = false by
                rw [HT.out, hu, domB_some (live_of HVV.out HTR.out) (live_of HVV.out hur), Bool.eq_false_iff]
                intro e
                have hd := (dmB_iff HVV.out).1 e
                have hne : t ≠ u := fun e => by rw [e, hpu] at HPT; exact absurd HPT.out (by omega)
                have := dom_place HVV.out hur hd hne
                rw [HPT.out, hpu] at this
                omega] at this
              exact Calls.regrown_of this
            clear hu hpu hur
            go_wp2_with fail
            refine wp_region_quiet_below (by kernel_rfl) (by kernel_rfl) ?_
            repeat (any_goals (first | go_big_quiet_step (with_reducible exact cD _ _) | quiet_step (with_reducible exact cD _ _)))
            all_goals (refine wpQuiet_nil ?_; intro _ hw'; obtain ⟨⟨dq, osq⟩, hw''⟩ := hw'; subst hw'')
            have hb2 := below_regrown wr dq osq
            generalize grow (redrawn wr dq) osq = w5 at hb2 ⊢
            have HB5 := Lib.hid (below_trans_self HBk.out hb2)
            have HG5 := Lib.hid (HGk.out.below hb2)
            clear cD hb2
            go_wp2_with fail
            go_roundw
            case rel => exact ⟨k + 1, by omega, by go_num, HG5.out, HB5.out⟩
            case measure => simp [intOf]; omega
          · obtain ⟨ls, hls⟩ : ∃ ls, ls = domV g (o.extract i (i + 1)) := ⟨_, rfl⟩
            have hle : ls = namesAt g (domL g t) := by rw [hls, HT.out]; exact domV_some (live_of HVV.out HTR.out)
            have hll : ∀ x ∈ domL g t, x < g.length := fun x hx => (((mem_domL HVV.out HTR.out).1 hx).live HTR.out).lt HVV.out
            have hlz : ls.size = (domL g t).length := by rw [hle]; exact namesAt_size HVV.out _ hll
            have hl26 : ls.size ≤ 26 := by have := domL_len HVV.out t; omega
            have HLQ := Lib.hid (HDX.out (o.extract i (i + 1)) wr HGk.out)
            rw [← hls] at HLQ
            have HLX := Lib.hid (fun m (hm : m < ls.size) => show ∃ x, Rch g [] x ∧ placeN g x ≤ i ∧ ls.extract m (m + 1) = nthName g x from by
              have hm' : m < (domL g t).length := by omega
              have hd := (mem_domL HVV.out HTR.out).1 (List.getElem_mem hm')
              refine ⟨(domL g t)[m], hd.live HTR.out, ?_, by rw [hle]; exact names_at HVV.out hll hm'⟩
              by_cases e : (domL g t)[m] = t
              · rw [e, HPT.out]; exact Nat.le_refl _
              · have := dom_place HVV.out HTR.out hd e
                rw [HPT.out] at this
                omega)
            clear hls hle hll hlz
            go_wp2_with fail
            refine HLQ.out.mono ?_
            rintro e v1 ⟨rfl, d1⟩
            have HGa := Lib.hid (HGk.out.below d1)
            have HBa := Lib.hid (below_trans_self HBk.out d1)
            clear d1 HLQ
            go_wp2_with fail
            go_loop [69] (fun mv => ∃ m : Nat, m ≤ ls.size ∧ mv = .int .i64 m) (fun mv => ls.size - (intOf mv).toNat)
            case atStart => exact ⟨0, Nat.zero_le _, rfl⟩
            case round =>
              obtain ⟨m, hm, rfl⟩ := hrel
              by_cases hml : m < ls.size
              · obtain ⟨x, hxr, hxp, hx⟩ := HLX.out m hml
                have hm1 : m + 1 ≤ ls.size := by omega
                have tA := HSI.out x hxr v1
                rw [← hx] at tA
                obtain ⟨P, hP⟩ : ∃ P, P = placeN g x := ⟨_, rfl⟩
                rw [← hP] at tA hxp
                have TA := Lib.hid tA
                have q1 : decide ((i : Int) < (P : Int)) = false := decide_eq_false (by omega)
                clear tA hP hx hxr
                go_wp2_with fail
                refine TA.out.mono ?_
                rintro e w' ⟨rfl, rfl⟩
                go_wp2_with fail
                go_round
                case rel => exact ⟨m + 1, by omega, by go_num⟩
                case measure => simp [intOf]; omega
              · go_wp2_with fail
                go_roundw
                case rel => exact ⟨i + 1, by omega, by go_num, HGa.out, HBa.out⟩
                case measure => simp [intOf]; omega
      · go_wp2_with fail
        go_ret
        exact ⟨rfl, HB.out⟩
end Go.Proofs.Ytdolbmonmkjajaa
