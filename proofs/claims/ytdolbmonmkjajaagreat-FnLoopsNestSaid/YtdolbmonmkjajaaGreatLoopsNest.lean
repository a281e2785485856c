/-
  The law FnLoopsNest, walked.
-/
import Derived.Test.YtdolbmonmkjajaaGreatDrawLoops
import Derived.Test.YtdolbmonmkjajaaGreatLoopsOf
import Derived.Test.YtdolbmonmkjajaaGreatSpecBack
import Derived.Test.YtdolbmonmkjajaaGreatOrderCount

namespace Go.Proofs.YtdolbmonmkjajaaGreat
open Go.RowKit Go.Sort

/-- How many blocks two loops share: none, or all of the smaller one. -/
theorem nest_count {g : List Bl} (hv : validB g = true) {h k : Nat} (hr : Rch g [] h) (kr : Rch g [] k) (hne : h ≠ k) :
    (loopL g h).countP (fun x => decide (x ∈ loopL g k)) = 0 ∨
    ((loopL g h).countP (fun x => decide (x ∈ loopL g k)) = (loopL g h).length ∧ (loopL g h).length < (loopL g k).length) ∨
    ((loopL g h).countP (fun x => decide (x ∈ loopL g k)) = (loopL g k).length ∧ (loopL g k).length < (loopL g h).length) := by
  rcases Nat.eq_zero_or_pos ((loopL g h).countP fun x => decide (x ∈ loopL g k)) with e | e
  · exact .inl e
  · right
    obtain ⟨x, hx, hk⟩ := List.countP_pos_iff.1 e
    have hk : x ∈ loopL g k := of_decide_eq_true hk
    rcases loops_nest hv hr kr hne hx hk with ⟨h1, h2⟩ | ⟨h1, h2⟩
    · right
      refine ⟨?_, within_len (loop_nodup g k) h2 (loop_self (hr.lt hv)) h1⟩
      have : (loopL g k).length = (loopL g k).countP fun _ => true := by simp
      rw [this]
      exact filter_len_countP (loop_nodup g h) (loop_nodup g k) fun y => ⟨fun q => ⟨of_decide_eq_true q.2, rfl⟩, fun q => ⟨h2 y q.1, decide_eq_true q.1⟩⟩
    · left
      refine ⟨?_, within_len (loop_nodup g h) h2 (loop_self (kr.lt hv)) h1⟩
      rw [List.countP_eq_length]
      exact fun y hy => decide_eq_true (h2 y hy)

set_option maxRecDepth 100000 in
set_option maxHeartbeats 6400000 in
theorem loopsNest_walk (A : Option Addr) (la ca : Nat) (w : World) (hA : Bytes w A la) (h1 : la ≤ ca) (h3 : ca ≤ 9223372036854775807) :
    Calls Tryz.prog 10 #[.slice A la ca] w fun e w' => e = .returned (.bool true) ∧ Below w.heap.size w w' := by
  by_cases g1 : (1048576 : Int) < la
  · clear hA
    go_enter Tryz.func10, Tryz.ntmps10
    go_wp2_with fail
    go_ret
    exact ⟨rfl, Below.refl _ _⟩
  have HA := Lib.hid (drawHeadersOf_any A la ca w hA h1 h3)
  clear hA
  go_enter Tryz.func10, Tryz.ntmps10
  go_wp2_with fail
  refine HA.out.mono ?_
  intro e w1 hd1
  obtain ⟨A1, c1, g, rfl, hc1, gg, hn1, b1⟩ := drawn_of hd1
  have HB1 := Lib.hid b1
  have HG1 := Lib.hid gg
  clear hd1 b1 gg
  obtain ⟨hs, hhs⟩ : ∃ hs, hs = headV g := ⟨_, rfl⟩
  obtain ⟨v, hvb⟩ : ∃ v, v = validB g := ⟨_, rfl⟩
  have HHI := Lib.hid (fun W (h : Gr W A1 g) => (hhs ▸ hvb ▸ implHeaders_any A1 c1 g W h (by omega) : Calls Tryz.prog 25 #[.slice A1 g.length c1] W fun e w' => e = .returned (.tuple #[.string hs, .bool v]) ∧ Below W.heap.size W w'))
  have HHS := Lib.hid (fun W (h : Gr W A1 g) => (hhs ▸ hvb ▸ specHeaders_any A1 c1 g W h (by omega) hc1 : Calls Tryz.prog 26 #[.slice A1 g.length c1] W fun e w' => e = .returned (.tuple #[.string hs, .bool v]) ∧ Below W.heap.size W w'))
  have HHV := Lib.hid hhs
  have HV := Lib.hid hvb
  clear hhs hvb
  go_wp2_with fail
  refine (HHI.out w1 HG1.out).mono ?_
  rintro e w2 ⟨rfl, b2⟩
  have HG2 := Lib.hid (HG1.out.below b2)
  have HB2 := Lib.hid (below_trans_self HB1.out b2)
  clear b2
  go_wp2_with fail
  refine (HHS.out w2 HG2.out).mono ?_
  rintro e w3 ⟨rfl, b3⟩
  have HG3 := Lib.hid (HG2.out.below b3)
  have HB3 := Lib.hid (below_trans_self HB2.out b3)
  clear b3
  have t1 : (hs.toList == hs.toList) = true := by simp
  have t2 : (hs.toList != hs.toList) = false := by simp
  have t3 : (v != v) = false := by simp
  have t4 : (v == v) = true := by simp
  obtain ⟨tm, htm⟩ : ∃ tm, tm = tameB g := ⟨_, rfl⟩
  have HTM := Lib.hid (fun W (h : Gr W A1 g) => (htm ▸ implIsTame_any A1 c1 g W h (by omega) : Calls Tryz.prog 35 #[.slice A1 g.length c1] W fun e w' => e = .returned (.bool tm) ∧ Below W.heap.size W w'))
  clear htm
  cases v with
  | false =>
    go_wp2_with fail
    go_ret
    exact ⟨rfl, HB3.out⟩
  | true =>
    have hv : validB g = true := HV.out.symm
    cases tm with
    | false =>
      clear hv
      go_wp2_with fail
      refine (HTM.out w3 HG3.out).mono ?_
      rintro e w4 ⟨rfl, b4⟩
      have HB4 := Lib.hid (below_trans_self HB3.out b4)
      clear b4
      go_wp2_with fail
      go_ret
      exact ⟨rfl, HB4.out⟩
    | true =>
      obtain ⟨hsz, hs26⟩ := headV_small hv
      rw [← HHV.out] at hsz hs26
      have hsn : hs = namesAt g (headL g) := by rw [HHV.out, headV_yes hv]
      have HLP := Lib.hid (fun W (k : Gr W A1 g) s => implLoopOf_any A1 c1 g s W k (by omega))
      have HLV := Lib.hid (fun k (hk : k < hs.size) => (by
        have hk' : k < (headL g).length := by omega
        have hm : (headL g)[k] ∈ headL g := List.getElem_mem hk'
        have he : hs.extract k (k + 1) = nthName g (headL g)[k] := by rw [hsn]; exact names_at hv head_lt hk'
        rw [he]
        exact loopV_some (headOf_name hv hm) : loopV g (hs.extract k (k + 1)) = namesAt g (loopL g ((headL g)[k]'(by omega)))))
      have HNC := Lib.hid (fun i k (hi : i < hs.size) (hk : k < hs.size) (hne : k < i) => nest_count hv (h := (headL g)[i]'(by omega)) (k := (headL g)[k]'(by omega)) (head_live hv (List.getElem_mem _)) (head_live hv (List.getElem_mem _)) (fun e => by
        have := (List.getElem_inj (head_nodup g)).1 e
        omega))
      have HVV := Lib.hid hv
      clear hv hsn
      go_wp2_with fail
      refine (HTM.out w3 HG3.out).mono ?_
      rintro e w4 ⟨rfl, b4⟩
      have HG4 := Lib.hid (HG3.out.below b4)
      have HB4 := Lib.hid (below_trans_self HB3.out b4)
      clear b4
      go_wp2_with fail
      go_loopw [58] (fun iv wr => ∃ i : Nat, i ≤ hs.size ∧ iv = .int .i64 i ∧ Hid (Gr wr A1 g) ∧ Hid (Below w.heap.size w wr)) (fun iv _ => hs.size - (intOf iv).toNat)
      case atStart => exact ⟨0, Nat.zero_le _, rfl, HG4.out, HB4.out⟩
      case round =>
        obtain ⟨i, hi, rfl, HG, HB⟩ := hrel
        by_cases hlt : i < hs.size
        · have hi1 : i + 1 ≤ hs.size := by omega
          obtain ⟨a, ha⟩ : ∃ a, a = loopV g (hs.extract i (i + 1)) := ⟨_, rfl⟩
          have hae := HLV.out i hlt
          rw [← ha] at hae
          have haz : a.size = (loopL g ((headL g)[i]'(by omega))).length := by rw [hae]; exact namesAt_size HVV.out _ (loopL_lt _)
          have ha26 : a.size ≤ 26 := by rw [ha]; exact loopV_small g _
          have ha0 : 0 < a.size := by rw [haz]; exact List.length_pos_of_mem (loop_self (head_lt _ (List.getElem_mem _)))
          have HLA := Lib.hid (HLP.out wr HG.out (hs.extract i (i + 1)))
          rw [← ha] at HLA
          have HAE := Lib.hid hae
          have HAZ := Lib.hid haz
          clear ha hae haz
          go_wp2_with fail
          refine HLA.out.mono ?_
          rintro e w5 ⟨rfl, b5⟩
          have HG5 := Lib.hid (HG.out.below b5)
          have HB5 := Lib.hid (below_trans_self HB.out b5)
          clear b5
          go_wp2_with fail
          go_loopw [72] (fun iv wr => ∃ k : Nat, k ≤ i ∧ iv = .int .i64 k ∧ Hid (Gr wr A1 g) ∧ Hid (Below w.heap.size w wr)) (fun iv _ => i - (intOf iv).toNat)
          case atStart => exact ⟨0, Nat.zero_le _, rfl, HG5.out, HB5.out⟩
          case round =>
            obtain ⟨k, hk, rfl, HGk, HBk⟩ := hrel
            by_cases hki : k < i
            · have hkh : k < hs.size := by omega
              have hk1 : k + 1 ≤ hs.size := by omega
              obtain ⟨b, hb⟩ : ∃ b, b = loopV g (hs.extract k (k + 1)) := ⟨_, rfl⟩
              have hbe := HLV.out k hkh
              rw [← hb] at hbe
              have hbz : b.size = (loopL g ((headL g)[k]'(by omega))).length := by rw [hbe]; exact namesAt_size HVV.out _ (loopL_lt _)
              have hb26 : b.size ≤ 26 := by rw [hb]; exact loopV_small g _
              have hb0 : 0 < b.size := by rw [hbz]; exact List.length_pos_of_mem (loop_self (head_lt _ (List.getElem_mem _)))
              have HLB := Lib.hid (HLP.out wr HGk.out (hs.extract k (k + 1)))
              rw [← hb] at HLB
              have hnc := HNC.out i k hlt hkh hki
              obtain ⟨La, hLa⟩ : ∃ La, La = loopL g ((headL g)[i]'(by omega)) := ⟨_, rfl⟩
              obtain ⟨Lb, hLb⟩ : ∃ Lb, Lb = loopL g ((headL g)[k]'(by omega)) := ⟨_, rfl⟩
              rw [← hLa, ← hLb] at hnc
              have haz := HAZ.out
              rw [← hLa] at haz
              rw [← hLb] at hbz
              have HHAS := Lib.hid (fun n (hn : n < a.size) => (by
                have hn' : n < La.length := by omega
                have hlt2 : ∀ y ∈ La, y < g.length := by rw [hLa]; exact loopL_lt _
                have he : a.extract n (n + 1) = nthName g (La[n]'hn') := by
                  have e0 : a = namesAt g La := by rw [HAE.out, hLa]
                  rw [e0]; exact names_at HVV.out hlt2 hn'
                refine ⟨?_, countP_take hn'⟩
                rw [he, hbe, hasN HVV.out (loopL_lt _) (hlt2 _ (List.getElem_mem hn')), ← hLb] : hasB b (a.extract n (n + 1)) = decide ((La[n]'(by omega)) ∈ Lb) ∧ (La.take (n + 1)).countP (fun x => decide (x ∈ Lb)) = (La.take n).countP (fun x => decide (x ∈ Lb)) + (if decide ((La[n]'(by omega)) ∈ Lb) = true then 1 else 0)))
              have HNCC := Lib.hid hnc
              clear hb hbe hnc hLa hLb
              go_wp2_with fail
              refine HLB.out.mono ?_
              rintro e w6 ⟨rfl, b6⟩
              have HG6 := Lib.hid (HGk.out.below b6)
              have HB6 := Lib.hid (below_trans_self HBk.out b6)
              clear b6
              go_wp2_with fail
              go_loop [14, 87] (fun cv nv => ∃ (n c : Nat), n ≤ a.size ∧ nv = .int .i64 n ∧ cv = .int .i64 c ∧ c ≤ n ∧ Hid (c = (La.take n).countP fun x => decide (x ∈ Lb))) (fun _ nv => a.size - (intOf nv).toNat)
              case atStart => exact ⟨0, 0, Nat.zero_le _, rfl, rfl, Nat.le_refl _, (show 0 = (La.take 0).countP fun x => decide (x ∈ Lb) by simp)⟩
              case round =>
                obtain ⟨n, c, hn, rfl, rfl, hcn, HC⟩ := hrel
                by_cases hna : n < a.size
                · have hn1 : n + 1 ≤ a.size := by omega
                  obtain ⟨hhas, hcnt⟩ := HHAS.out n hna
                  obtain ⟨bb, hbb⟩ : ∃ bb, bb = decide ((La[n]'(by omega)) ∈ Lb) := ⟨_, rfl⟩
                  rw [← hbb] at hhas hcnt
                  have HJ := Lib.hid (fun W => (by have := sjHas_any b (a.extract n (n + 1)) W (by omega); rw [hhas] at this; exact this : Calls Tryz.prog 32 #[.string b, .string (a.extract n (n + 1))] W fun e w' => e = .returned (.bool bb) ∧ W = w'))
                  have HCN := Lib.hid hcnt
                  clear hhas hcnt hbb
                  go_wp2_with fail
                  refine (HJ.out _).mono ?_
                  rintro e w9 ⟨rfl, rfl⟩
                  cases bb with
                  | true =>
                    have HC2 := Lib.hid (show c + 1 = (La.take (n + 1)).countP fun x => decide (x ∈ Lb) by rw [HCN.out, ← HC.out]; rfl)
                    go_wp2_with fail
                    go_round
                    case rel => exact ⟨n + 1, c + 1, by omega, by go_num, by go_num, by omega, HC2.out⟩
                    case measure => simp [intOf]; omega
                  | false =>
                    have HC2 := Lib.hid (show c = (La.take (n + 1)).countP fun x => decide (x ∈ Lb) by rw [HCN.out, ← HC.out]; rfl)
                    go_wp2_with fail
                    go_round
                    case rel => exact ⟨n + 1, c, by omega, by go_num, rfl, by omega, HC2.out⟩
                    case measure => simp [intOf]; omega
                · have hce : c = La.countP fun x => decide (x ∈ Lb) := by rw [HC.out, List.take_of_length_le (by omega)]
                  have hcase := HNCC.out
                  rw [← hce] at hcase
                  clear hce
                  rcases hcase with h0 | ⟨h0, hl0⟩ | ⟨h0, hl0⟩
                  · subst h0
                    have r1 : (((0 : Nat) : Int) != 0) = false := by simp
                    go_wp2_with fail
                    go_roundw
                    case rel => exact ⟨k + 1, by omega, by go_num, HG6.out, HB6.out⟩
                    case measure => simp [intOf]; omega
                  · obtain rfl : c = a.size := by omega
                    have hab : a.size < b.size := by omega
                    have z0 : ¬ a.size = 0 := by omega
                    have z1 : ¬ a.size = b.size := by omega
                    have z2 : 0 < a.size := by omega
                    have r1 : ((a.size : Int) != 0) = true := bne_iff_ne.2 fun e => by omega
                    have r3 : decide ((0 : Int) < (a.size : Int)) = true := decide_eq_true (by omega)
                    have r4 : ((a.size : Int) == (b.size : Int)) = false := beq_eq_false_iff_ne.2 fun e => by omega
                    clear h0
                    go_wp2_with fail
                    all_goals
                      go_roundw
                      case rel => exact ⟨k + 1, by omega, by go_num, HG6.out, HB6.out⟩
                      case measure => simp [intOf]; omega
                  · obtain rfl : c = b.size := by omega
                    have hab : b.size < a.size := by omega
                    have z0 : ¬ b.size = 0 := by omega
                    have z1 : ¬ b.size = a.size := by omega
                    have z3 : ¬ a.size = b.size := by omega
                    have z2 : 0 < b.size := by omega
                    have r1 : ((b.size : Int) != 0) = true := bne_iff_ne.2 fun e => by omega
                    have r2 : ((b.size : Int) != (a.size : Int)) = true := bne_iff_ne.2 fun e => by omega
                    have r3 : decide ((0 : Int) < (b.size : Int)) = true := decide_eq_true (by omega)
                    have r4 : ((a.size : Int) == (b.size : Int)) = false := beq_eq_false_iff_ne.2 fun e => by omega
                    clear h0
                    go_wp2_with fail
                    all_goals
                      go_roundw
                      case rel => exact ⟨k + 1, by omega, by go_num, HG6.out, HB6.out⟩
                      case measure => simp [intOf]; omega
            · go_wp2_with fail
              go_roundw
              case rel => exact ⟨i + 1, by omega, by go_num, HGk.out, HBk.out⟩
              case measure => simp [intOf]; omega
        · go_wp2_with fail
          go_ret
          exact ⟨rfl, HB.out⟩
end Go.Proofs.YtdolbmonmkjajaaGreat
