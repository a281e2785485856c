/-
  Contracts of FrontierOf, the model's and the program's.
-/
import Derived.Test.YtklnhbfpmmdhjabGreatKids
import Derived.Test.YtklnhbfpmmdhjabGreatSpecDom
namespace Go.Proofs.YtklnhbfpmmdhjabGreat
open Go.RowKit Go.Sort Go.Shelf

def frontV (g : List Bl) (s : ByteArray) : ByteArray := match liveOf g s with | some n => namesAt g (frontL g n) | none => ⟨#[]⟩

/-- Of what one block goes on to: what counts for a frontier. -/
def frC (g : List Bl) (n i t : Nat) : Bool := (decide (i ∈ reach g) && dmB g n i) && (decide (t = n) || !dmB g n t)
def frAll (g : List Bl) (n k : Nat) : List Nat := (List.range k).flatMap fun i => (nxt g i).filter fun t => frC g n i t
theorem frAll_next (g : List Bl) (n k : Nat) : frAll g n (k + 1) = frAll g n k ++ (nxt g k).filter fun t => frC g n k t := by
  unfold frAll
  rw [List.range_succ, List.flatMap_append]
  simp
theorem frAll_lt {g : List Bl} (hv : validB g = true) {n k : Nat} (hk : k ≤ g.length) : ∀ t ∈ frAll g n k, t < g.length := by
  intro t ht
  unfold frAll at ht
  obtain ⟨i, hi, ht⟩ := List.mem_flatMap.1 ht
  have hil := List.mem_range.1 hi
  exact nxt_lt hv (by omega) (List.mem_filter.1 ht).1
theorem frAll_len {g : List Bl} (hv : validB g = true) (n : Nat) : ∀ k, k ≤ g.length → (frAll g n k).length ≤ 2 * k
  | 0, _ => by simp [frAll]
  | k + 1, h => by
    have ih := frAll_len hv n k (by omega)
    rw [frAll_next, List.length_append]
    have h1 := List.length_filter_le (fun t => frC g n k t) (nxt g k)
    have h2 := nxt_two hv (i := k) (by omega)
    omega
theorem frAll_front {g : List Bl} (hv : validB g = true) (n : Nat) : srt g (frAll g n g.length) g.length = frontL g n := by
  refine front_srt hv fun t => ?_
  unfold frAll
  rw [List.mem_flatMap]
  have key : ∀ i, frC g n i t = true ↔ Rch g [] i ∧ Dm g n i ∧ (t = n ∨ ¬ Dm g n t) := fun i => by
    unfold frC
    rw [Bool.and_eq_true_iff, Bool.and_eq_true_iff, decide_eq_true_iff, dmB_iff hv, mem_reach hv, Bool.or_eq_true_iff, decide_eq_true_iff, Bool.not_eq_true', and_assoc]
    have : dmB g n t = false ↔ ¬ Dm g n t := by rw [← dmB_iff hv]; simp
    rw [this]
  constructor
  · rintro ⟨i, _, h⟩
    obtain ⟨h1, h2⟩ := List.mem_filter.1 h
    obtain ⟨a, b, c⟩ := (key i).1 h2
    exact ⟨i, a, b, h1, c⟩
  · rintro ⟨i, a, b, h1, c⟩
    exact ⟨i, List.mem_range.2 (a.lt hv), List.mem_filter.2 ⟨h1, (key i).2 ⟨a, b, c⟩⟩⟩

theorem liveOf_at {g : List Bl} (hv : validB g = true) {i : Nat} (hi : i < g.length) : liveOf g g[i].1 = if i ∈ reach g then some i else none := by
  by_cases h : i ∈ reach g
  · rw [if_pos h, liveOf_some hv (posOf_name hv hi) h]
  · rw [if_neg h, liveOf_out (posOf_name hv hi) h]

set_option maxRecDepth 100000 in
set_option maxHeartbeats 3200000 in
theorem specFrontier_any (A : Option Addr) (cap : Nat) (g : List Bl) (s : ByteArray) (w : World) (hg : Gr w A g) (hn : g.length + tot g ≤ 1048576) (hcap : g.length ≤ cap) :
    Calls Tryz.prog 16 #[.slice A g.length cap, .string s] w fun e w' => e = .returned (.tuple #[.string (frontV g s), .bool (liveB g s)]) ∧ Below w.heap.size w w' := by
  have hL := l3Live_any A cap g s w hg hn hcap
  have HG := Lib.hid hg
  cases hl : liveOf g s with
  | none =>
    rw [hl] at hL
    have HL : Hid (Calls Tryz.prog 72 #[.slice A g.length cap, .string s] w fun e w' => e = .returned (.int .i64 (-1)) ∧ Below w.heap.size w w') := hL
    have H1 := Lib.hid (show (⟨#[]⟩ : ByteArray) = frontV g s by unfold frontV; rw [hl])
    have H2 := Lib.hid (liveB_none hl)
    clear hL hl hg
    go_enter Tryz.func16, Tryz.ntmps16
    go_wp2_with fail
    refine HL.out.mono ?_
    rintro e w1 ⟨rfl, b1⟩
    go_wp2_with fail
    go_ret2
    exact ⟨ret_sb H1.out H2.out.symm, b1⟩
  | some n =>
    rw [hl] at hL
    have HL : Hid (Calls Tryz.prog 72 #[.slice A g.length cap, .string s] w fun e w' => e = .returned (.int .i64 (n : Int)) ∧ Below w.heap.size w w') := hL
    obtain ⟨hv, hnl, hs, hr⟩ := live_name hl
    have h26 := (valid_iff.1 hv).2.1
    have H1 := Lib.hid (show namesAt g (frontL g n) = frontV g s by unfold frontV; rw [hl])
    have H2 := Lib.hid (liveB_some hl)
    have q0 : ¬ ((n : Int) < 0) := by omega
    have HV := Lib.hid hv
    have HS := Lib.hid hs
    have HLV := Lib.hid (fun W (h : Gr W A g) nm => l3Live_any A cap g nm W h hn hcap)
    clear hL hl hg hv hs hr
    go_enter Tryz.func16, Tryz.ntmps16
    go_wp2_with fail
    refine HL.out.mono ?_
    rintro e w1 ⟨rfl, b1⟩
    have HB1 := Lib.hid b1
    clear b1
    go_wp2_with fail
    go_loopw [6, 17] (fun ov iv wr => ∃ (k : Nat) (out : ByteArray), k ≤ g.length ∧ iv = .int .i64 k ∧ ov = .string out ∧ Hid (out = namesAt g (frAll g n k)) ∧ Below w.heap.size w wr) (fun _ iv _ => g.length - (intOf iv).toNat)
    case atStart => exact ⟨0, ⟨#[]⟩, Nat.zero_le _, rfl, rfl, rfl, HB1.out⟩
    case round =>
      obtain ⟨k, out, hk, rfl, rfl, HOUT, hB⟩ := hrel
      have HB := Lib.hid hB
      have hoz : out.size ≤ 2 * k := by
        rw [HOUT.out, namesAt_size HV.out _ (frAll_lt HV.out hk)]
        exact frAll_len HV.out n k hk
      by_cases hlt : k < g.length
      · obtain ⟨b, off, nm, nx, rfl, hb, hc0, hc1, he, he2⟩ := gr_at (HG.out.below hB) hlt
        have hnz : nx.size ≤ 2 := he2 ▸ nxt_two' HV.out hlt
        have hnn : (nxt g k).length = nx.size := by rw [nxt_length hlt, he2]
        have hnm : nm = nthName g k := by rw [nthName_at hlt, he]
        obtain ⟨wa, hwa⟩ : ∃ wa, wa = wr.alloc (.cells #[.string nm, .string nx] 56) := ⟨_, rfl⟩
        have ca : Blk wa wr.heap.size 56 #[.string nm, .string nx] := by rw [hwa]; exact Blk.new _ _ _
        have hBa : Below w.heap.size w wa := by rw [hwa]; exact hB.alloc hB.size _
        have HE := Lib.hid he
        have HE2 := Lib.hid he2
        have HNM := Lib.hid hnm
        have HNN := Lib.hid hnn
        have HCA := Lib.hid ca
        have HBA := Lib.hid hBa
        have HWA := Lib.hid hwa
        have hlb : liveOf g nm = if k ∈ reach g then some k else none := by rw [← he]; exact liveOf_at HV.out hlt
        have HLB := Lib.hid hlb
        have hwb := hB.size
        clear he he2 hnm hnn ca hBa hwa hB hlb
        go_wp2_with fail
        rw [← HWA.out]
        go_loopw [6, 24] (fun ov iv wr => ∃ (j : Nat) (out2 : ByteArray), j ≤ nx.size ∧ iv = .int .i64 j ∧ ov = .string out2 ∧ Hid (out2 = namesAt g (frAll g n k ++ ((nxt g k).take j).filter fun t => frC g n k t)) ∧ Below wa.heap.size wa wr) (fun _ iv _ => nx.size - (intOf iv).toNat)
        case atStart => exact ⟨0, out, Nat.zero_le _, rfl, rfl, (show out = namesAt g (frAll g n k ++ ((nxt g k).take 0).filter fun t => frC g n k t) by rw [HOUT.out]; try simp), Below.refl _ _⟩
        case round =>
          obtain ⟨j, out2, hj, rfl, rfl, HO2, hB2⟩ := hrel
          have HB2 := Lib.hid hB2
          have hc := HCA.out.below hB2 HCA.out.lt
          have x0 := hc.cell 0
          have x1 := hc.cell 1
          have HG2 := Lib.hid ((HG.out.below HBA.out).below hB2)
          have hoz2 : out2.size ≤ 2 * k + j := by
            rw [HO2.out, namesAt_size HV.out _ (fun t ht => (List.mem_append.1 ht).elim (frAll_lt HV.out hk t) fun h => nxt_lt HV.out hlt ((List.take_subset _ _) (List.mem_filter.1 h).1)), List.length_append]
            have := frAll_len HV.out n k hk
            have := List.length_filter_le (fun t => frC g n k t) ((nxt g k).take j)
            have := List.length_take_le j (nxt g k)
            omega
          clear hB2
          by_cases hjd : j < nx.size
          · obtain ⟨t, htl, hget, _, hnt⟩ := nxt_get HV.out hlt (k := j) (by rw [HE2.out]; exact hjd)
            have hbyte : g[k].2[j]'(by rw [HE2.out]; exact hjd) = nx[j] := by congr 1; try exact HE2.out
            rw [hbyte] at hnt
            have hjl : j < (nxt g k).length := by rw [HNN.out]; exact hjd
            have hte : (nxt g k)[j] = t := (List.getElem?_eq_some_iff.1 hget).2
            have HEX := Lib.hid (show nx.extract j (j + 1) = nthName g t by rw [ex_byte nx (a := j) (b := j + 1) (by omega) (by omega) (by omega), nthName_at htl, hnt])
            have HFT := Lib.hid (filter_take (p := fun t => frC g n k t) hjl)
            rw [hte] at HFT
            have hj1 : j + 1 ≤ nx.size := by omega
            have HTT := Lib.hid htl
            clear hget hbyte hnt hte hjl
            have HNO : Hid (frC g n k t = false → out2 = namesAt g (frAll g n k ++ ((nxt g k).take (j + 1)).filter fun t => frC g n k t)) := fun e => by
              rw [HFT.out, e, if_neg (by simp), List.append_nil, HO2.out]
            have HYES : Hid (frC g n k t = true → out2 ++ nx.extract j (j + 1) = namesAt g (frAll g n k ++ ((nxt g k).take (j + 1)).filter fun t => frC g n k t)) := fun e => by
              rw [HFT.out, e, if_pos rfl, ← List.append_assoc, namesAt_append, namesAt_one, HO2.out, HEX.out]
            have hxz : (nx.extract j (j + 1)).size = 1 := by rw [HEX.out]; exact one_size HV.out htl
            have hz : out2.size + (nx.extract j (j + 1)).size ≤ 1048576 := by omega
            have hlv := HLV.out wr HG2.out nm
            rw [HLB.out] at hlv
            by_cases hkr : k ∈ reach g
            · rw [if_pos hkr] at hlv
              have HLK : Hid (Calls Tryz.prog 72 #[.slice (some ⟨b, off, none⟩) g.length cap, .string nm] wr fun e w' => e = .returned (.int .i64 (k : Int)) ∧ Below wr.heap.size wr w') := hlv
              have k0 : (0 : Int) ≤ (k : Int) := by omega
              have HD1 := Lib.hid (fun W (h : Gr W (some ⟨b, off, none⟩) g) => l3Dominates_any (some ⟨b, off, none⟩) cap g s nm n k W h (by omega) HV.out hnl hlt HS.out HNM.out)
              clear hlv hxz
              cases hd : dmB g n k with
              | false =>
                rw [hd] at HD1
                have HNX := Lib.hid (HNO.out (by unfold frC; rw [hd]; simp))
                clear hkr hd
                go_wp2_with fail
                refine HLK.out.mono ?_
                rintro e w3 ⟨rfl, b3⟩
                have y0 := (hc.below b3 hc.lt).cell 0
                have HB3 := Lib.hid (HB2.out.trans (b3.mono HB2.out.size))
                have HG3 := Lib.hid (HG2.out.below b3)
                clear b3
                go_wp2_with fail
                refine (HD1.out w3 HG3.out).mono ?_
                rintro e w4 ⟨rfl, b4⟩
                have HB4 := Lib.hid (HB3.out.trans (b4.mono HB3.out.size))
                clear b4
                go_wp2_with fail
                go_roundw
                case rel => exact ⟨j + 1, _, by omega, by go_num, rfl, HNX.out, HB4.out⟩
                case measure => simp [intOf]; omega
              | true =>
                rw [hd] at HD1
                by_cases htn : t = n
                · have q1 : ((nx.extract j (j + 1)).toList == s.toList) = true := beq_toList.2 (by rw [HEX.out, HS.out, htn])
                  have HNX := Lib.hid (HYES.out (by unfold frC; rw [hd, decide_eq_true hkr, decide_eq_true htn]; rfl))
                  clear hkr hd htn
                  go_wp2_with fail
                  refine HLK.out.mono ?_
                  rintro e w3 ⟨rfl, b3⟩
                  have y0 := (hc.below b3 hc.lt).cell 0
                  have HB3 := Lib.hid (HB2.out.trans (b3.mono HB2.out.size))
                  have HG3 := Lib.hid (HG2.out.below b3)
                  clear b3
                  go_wp2_with fail
                  refine (HD1.out w3 HG3.out).mono ?_
                  rintro e w4 ⟨rfl, b4⟩
                  have HB4 := Lib.hid (HB3.out.trans (b4.mono HB3.out.size))
                  clear b4
                  go_wp2_with fail
                  go_roundw
                  case rel => exact ⟨j + 1, _, by omega, by go_num, rfl, HNX.out, HB4.out⟩
                  case measure => simp [intOf]; omega
                · have q1 : ((nx.extract j (j + 1)).toList == s.toList) = false := by
                    cases hq : ((nx.extract j (j + 1)).toList == s.toList) with
                    | false => rfl
                    | true =>
                      have := beq_toList.1 hq
                      rw [HEX.out, HS.out, nthName_at htl, nthName_at hnl] at this
                      exact absurd (name_inj HV.out htl hnl this) htn
                  have HD2 := Lib.hid (fun W (h : Gr W (some ⟨b, off, none⟩) g) => l3Dominates_any (some ⟨b, off, none⟩) cap g s (nx.extract j (j + 1)) n t W h (by omega) HV.out hnl htl HS.out HEX.out)
                  cases hd2 : dmB g n t with
                  | true =>
                    rw [hd2] at HD2
                    have HNX := Lib.hid (HNO.out (by unfold frC; rw [hd2, decide_eq_false htn]; simp))
                    clear hkr hd htn hd2
                    go_wp2_with fail
                    refine HLK.out.mono ?_
                    rintro e w3 ⟨rfl, b3⟩
                    have y0 := (hc.below b3 hc.lt).cell 0
                    have HB3 := Lib.hid (HB2.out.trans (b3.mono HB2.out.size))
                    have HG3 := Lib.hid (HG2.out.below b3)
                    clear b3
                    go_wp2_with fail
                    refine (HD1.out w3 HG3.out).mono ?_
                    rintro e w4 ⟨rfl, b4⟩
                    have HB4 := Lib.hid (HB3.out.trans (b4.mono HB3.out.size))
                    have HG4 := Lib.hid (HG3.out.below b4)
                    clear b4
                    go_wp2_with fail
                    refine (HD2.out w4 HG4.out).mono ?_
                    rintro e w5 ⟨rfl, b5⟩
                    have HB5 := Lib.hid (HB4.out.trans (b5.mono HB4.out.size))
                    clear b5
                    go_wp2_with fail
                    go_roundw
                    case rel => exact ⟨j + 1, _, by omega, by go_num, rfl, HNX.out, HB5.out⟩
                    case measure => simp [intOf]; omega
                  | false =>
                    rw [hd2] at HD2
                    have HNX := Lib.hid (HYES.out (by unfold frC; rw [hd, hd2, decide_eq_true hkr]; simp))
                    clear hkr hd htn hd2
                    go_wp2_with fail
                    refine HLK.out.mono ?_
                    rintro e w3 ⟨rfl, b3⟩
                    have y0 := (hc.below b3 hc.lt).cell 0
                    have HB3 := Lib.hid (HB2.out.trans (b3.mono HB2.out.size))
                    have HG3 := Lib.hid (HG2.out.below b3)
                    clear b3
                    go_wp2_with fail
                    refine (HD1.out w3 HG3.out).mono ?_
                    rintro e w4 ⟨rfl, b4⟩
                    have HB4 := Lib.hid (HB3.out.trans (b4.mono HB3.out.size))
                    have HG4 := Lib.hid (HG3.out.below b4)
                    clear b4
                    go_wp2_with fail
                    refine (HD2.out w4 HG4.out).mono ?_
                    rintro e w5 ⟨rfl, b5⟩
                    have HB5 := Lib.hid (HB4.out.trans (b5.mono HB4.out.size))
                    clear b5
                    go_wp2_with fail
                    go_roundw
                    case rel => exact ⟨j + 1, _, by omega, by go_num, rfl, HNX.out, HB5.out⟩
                    case measure => simp [intOf]; omega
            · rw [if_neg hkr] at hlv
              have HLK : Hid (Calls Tryz.prog 72 #[.slice (some ⟨b, off, none⟩) g.length cap, .string nm] wr fun e w' => e = .returned (.int .i64 (-1)) ∧ Below wr.heap.size wr w') := hlv
              have HNX := Lib.hid (HNO.out (by unfold frC; rw [decide_eq_false hkr]; rfl))
              clear hlv hxz hkr
              go_wp2_with fail
              refine HLK.out.mono ?_
              rintro e w3 ⟨rfl, b3⟩
              have HB3 := Lib.hid (HB2.out.trans (b3.mono HB2.out.size))
              clear b3
              go_wp2_with fail
              go_roundw
              case rel => exact ⟨j + 1, _, by omega, by go_num, rfl, HNX.out, HB3.out⟩
              case measure => simp [intOf]; omega
          · have HNX := Lib.hid (show out2 = namesAt g (frAll g n (k + 1)) by
              rw [HO2.out, frAll_next, List.take_of_length_le (by rw [HNN.out]; omega)])
            have HBN := Lib.hid (HBA.out.trans (HB2.out.mono HBA.out.size))
            go_wp2_with fail
            go_roundw
            case rel => exact ⟨k + 1, _, by omega, by go_num, rfl, HNX.out, HBN.out⟩
            case measure => simp [intOf]; omega
      · have hke : k = g.length := by omega
        have HSO := Lib.hid (l1Sorted_any A cap g (frAll g n k) out wr (HG.out.below HB.out) hn HV.out (frAll_lt HV.out hk) HOUT.out (by omega))
        have HF := Lib.hid (show namesAt g (srt g (frAll g n k) g.length) = frontV g s by rw [hke, frAll_front HV.out, H1.out])
        clear hke
        go_wp2_with fail
        refine HSO.out.mono ?_
        rintro e w3 ⟨rfl, b3⟩
        go_wp2_with fail
        go_ret2
        exact ⟨ret_sb HF.out H2.out.symm, below_trans_self HB.out b3⟩

/-- Some of these dominated blocks goes on to t. -/
def goesD (g : List Bl) (n : Nat) (l : List Nat) (t : Nat) : Bool := l.any fun i => dmB g n i && decide (t ∈ nxt g i)
theorem goesD_next (g : List Bl) (n : Nat) {l : List Nat} {k : Nat} (h : k < l.length) (t : Nat) : goesD g n (l.take (k + 1)) t = (goesD g n (l.take k) t || (dmB g n l[k] && decide (t ∈ nxt g l[k]))) := by
  unfold goesD
  rw [List.take_succ_eq_append_getElem h, List.any_append]; simp

set_option maxRecDepth 100000 in
set_option maxHeartbeats 3200000 in
theorem frontierOf_any (tb NB : Nat) (g : List Bl) (B off cap : Nat) (S : Nat → Nat) (n : Nat) (w : World) (hv : validB g = true) (h : TreeAt w tb NB g B off cap S) (hr : Rch g [] n) :
    Calls Tryz.prog 71 #[.pointer (some ⟨tb, 0, none⟩), nptr NB n] w (FoundPost w NB (frontL g n)) := by
  have h26 := (valid_iff.1 hv).2.1
  have hrs := reachS_small hv
  have hnl := hr.lt hv
  obtain ⟨ip, hip, hz0, hz1, hz2⟩ := info_parts info_ptr
  obtain ⟨jt, hjt, hjs⟩ := Option.map_eq_some_iff.1 info_node2
  have HJS := Lib.hid hjs
  have cN := h.tree.nodes
  have HT := Lib.hid h
  have HV := Lib.hid hv
  clear h hv hjs hr
  go_enter Tryz.func71, Tryz.ntmps71
  go_wp2_with fail
  go_loopw [5, 18] (fun qv iv wr => ∃ (k q : Nat), k ≤ (reachS g).length ∧ iv = .int .i64 k ∧ qv = .int .u32 q ∧ q < 4294967296 ∧ Hid (∀ t, q.testBit t = goesD g n ((reachS g).take k) t) ∧ Below w.heap.size w wr) (fun _ iv _ => (reachS g).length - (intOf iv).toNat)
  case atStart => exact ⟨0, 0, Nat.zero_le _, rfl, rfl, by decide, (fun t => by simp [goesD]), Below.refl _ _⟩
  case round =>
    obtain ⟨k, q, hk, rfl, rfl, hq32, HQ, hB⟩ := hrel
    have HTB := Lib.hid (HT.out.below hB)
    have HB := Lib.hid hB
    clear hB
    by_cases hlt : k < (reachS g).length
    · obtain ⟨x, hx⟩ : ∃ x, x = (reachS g)[k] := ⟨_, rfl⟩
      have hxr := (mem_reachS' HV.out).1 (hx ▸ List.getElem_mem hlt : x ∈ reachS g)
      have hxl := hxr.lt HV.out
      have c0 : wr.cell? ⟨B, off + k, none⟩ = some (nptr NB x) := by rw [hx]; exact HTB.out.row k hlt
      have HNX := Lib.hid (fun t => goesD_next g n hlt t)
      have HX := Lib.hid hx
      have hD := treeDom_any tb NB g B off cap S n x wr HV.out HTB.out hnl hxr
      clear hx hxr
      cases hd : dmB g n x with
      | false =>
        rw [hd] at hD
        have HD := Lib.hid hD
        have HQ2 : Hid (∀ t, q.testBit t = goesD g n ((reachS g).take (k + 1)) t) := fun t => by rw [HNX.out, ← HX.out, hd, HQ.out]; simp
        clear hD hd
        go_wp2_with fail
        refine HD.out.mono ?_
        rintro e w2 ⟨rfl, m, rfl⟩
        have HB2 := Lib.hid (HB.out.trans ((below_drewN wr m).mono HB.out.size))
        go_wp2_with fail
        go_roundw
        case rel => exact ⟨k + 1, q, by omega, by go_num, rfl, hq32, HQ2, HB2.out⟩
        case measure => simp [intOf]; omega
      | true =>
        rw [hd] at hD
        have HD := Lib.hid hD
        have HDD := Lib.hid hd
        obtain ⟨T, tv, F2, hdi⟩ := disp2 (NB := NB) HV.out hxl
        have hx2 : ∀ W, NodesIn W NB g → W.cell? ⟨nb NB x, 2, none⟩ = some (.iface T tv) := fun W hN => by have := (hN x hxl).cell 2; rw [hdi.val] at this; simpa using this
        have HX2 := Lib.hid hx2
        have hlook := hdi.look
        have hent := hdi.enter
        have HDG := Lib.hid hdi.goes
        have hn2 := nxt_two HV.out hxl
        clear hD hd hdi hx2
        go_wp2_with fail
        refine HD.out.mono ?_
        rintro e w2 ⟨rfl, m, rfl⟩
        have HB2 := Lib.hid (HB.out.trans ((below_drewN wr m).mono HB.out.size))
        have x2 := HX2.out (wr.drewN m) (HTB.out.nodes.below (below_drewN wr m))
        go_wp2_with fail
        refine (HDG.out (wr.drewN m)).mono ?_
        rintro e w3 ⟨A3, rfl, b3, hrow⟩
        have HR := Lib.hid hrow
        have HB3 := Lib.hid (HB2.out.trans (b3.mono HB2.out.size))
        clear hlook hent x2 hrow b3 c0
        go_wp2_with fail
        go_loopw [5, 32] (fun qv iv wr => ∃ (p q2 : Nat), p ≤ (nxt g x).length ∧ iv = .int .i64 p ∧ qv = .int .u32 q2 ∧ q2 < 4294967296 ∧ Hid (∀ t, q2.testBit t = (q.testBit t || decide (t ∈ (nxt g x).take p))) ∧ w3 = wr) (fun _ iv _ => (nxt g x).length - (intOf iv).toNat)
        case atStart => exact ⟨0, q, Nat.zero_le _, rfl, rfl, hq32, (fun t => by simp), rfl⟩
        case round =>
          obtain ⟨p, q2, hp, rfl, rfl, hq2, HQQ, rfl⟩ := hrel
          by_cases hpl : p < (nxt g x).length
          · obtain ⟨bb, rfl, hbb, hrowb⟩ := HR.out (by omega)
            obtain ⟨t, hte⟩ : ∃ t, t = (nxt g x)[p] := ⟨_, rfl⟩
            have htl := nxt_lt HV.out hxl (hte ▸ List.getElem_mem hpl : t ∈ nxt g x)
            have ct : w3.cell? ⟨bb, p, none⟩ = some (nptr NB t) := by rw [hrowb.cell, List.getElem?_toArray, List.getElem?_map, List.getElem?_eq_getElem hpl, hte]; rfl
            have ci : w3.cell? ⟨nb NB t, 0, none⟩ = some (.int .i64 t) := by have := ((HT.out.below HB3.out).nodes t htl).cell 0; simpa using this
            have HW := Lib.hid (with_any q2 (nb NB t) t w3 hq2 ci (by omega))
            have hq3 : q2 ||| 2 ^ t < 4294967296 := Nat.or_lt_two_pow (n := 32) (by omega) (by have := pow_lt t (by omega); omega)
            have HQ3 : Hid (∀ s, (q2 ||| 2 ^ t).testBit s = (q.testBit s || decide (s ∈ (nxt g x).take (p + 1)))) := fun s => by
              rw [Nat.testBit_or, Nat.testBit_two_pow, HQQ.out, List.take_succ_eq_append_getElem hpl, ← hte]
              by_cases e : t = s
              · subst e; simp
              · have : s ≠ t := fun h => e h.symm
                simp [e, this]
            clear hte hrowb
            go_wp2_with fail
            refine HW.out.mono ?_
            rintro e w4 ⟨rfl, rfl⟩
            go_wp2_with fail
            go_roundw
            case rel => exact ⟨p + 1, _, by omega, by go_num, rfl, hq3, HQ3, (by first | rfl | trivial)⟩
            case measure => simp [intOf]; omega
          · have HQ2 : Hid (∀ t, q2.testBit t = goesD g n ((reachS g).take (k + 1)) t) := fun t => by
              rw [HNX.out, ← HX.out, HDD.out, HQQ.out, HQ.out, show (nxt g x).take p = nxt g x from List.take_of_length_le (by omega)]; simp
            go_wp2_with fail
            go_roundw
            case rel => exact ⟨k + 1, q2, by omega, by go_num, rfl, hq2, HQ2, HB3.out⟩
            case measure => simp [intOf]; omega
    · have HQA := Lib.hid (show ∀ t, q.testBit t = goesD g n (reachS g) t from fun t => by rw [HQ.out, List.take_of_length_le (by omega)])
      have cN2 := HTB.out.tree.nodes
      go_wp2_with fail
      obtain ⟨wo, hwo⟩ : ∃ wo : World, wo = wr := ⟨_, rfl⟩
      have HBO : Hid (Below w.heap.size w wo) := by rw [hwo]; exact HB.out
      rw [← hwo]
      clear hwo HB HTB cN2
      go_loopw [10, 46] (fun pv iv wr => ∃ (k : Nat) (P : List Nat), k ≤ (reachS g).length ∧ iv = .int .i64 k ∧ Hid (P = ((reachS g).take k).filter fun t => frB g n t) ∧ wr.ownsRow w.heap.size 61 1 pv P.length (P.map (nptr NB)) ∧ Below w.heap.size w wr) (fun _ iv _ => (reachS g).length - (intOf iv).toNat)
      case atStart => exact ⟨0, [], Nat.zero_le _, rfl, rfl, World.ownsRow_nil _ _ _ _, HBO.out⟩
      case round =>
        obtain ⟨k, P, hk, rfl, HP, hown, hB⟩ := hrel
        have hPl : P.length ≤ k := by
          rw [HP.out]
          have := List.length_filter_le (fun t => frB g n t) ((reachS g).take k)
          have := List.length_take_le k (reachS g)
          omega
        have HTB := Lib.hid (HT.out.below hB)
        have HB := Lib.hid hB
        have HOWN := Lib.hid hown
        clear hB hown
        by_cases hlt : k < (reachS g).length
        · obtain ⟨x, hx⟩ : ∃ x, x = (reachS g)[k] := ⟨_, rfl⟩
          have hxr := (mem_reachS' HV.out).1 (hx ▸ List.getElem_mem hlt : x ∈ reachS g)
          have hxl := hxr.lt HV.out
          have c0 : wr.cell? ⟨B, off + k, none⟩ = some (nptr NB x) := by rw [hx]; exact HTB.out.row k hlt
          have x0 : wr.cell? ⟨nb NB x, 0, none⟩ = some (.int .i64 x) := by have := (HTB.out.nodes x hxl).cell 0; simpa using this
          have HFT := Lib.hid (filter_take (p := fun t => frB g n t) hlt)
          have HX := Lib.hid hx
          have hH := has_any q (nb NB x) x wr hq32 x0 (by omega)
          have hfr : frB g n x = (goesD g n (reachS g) x && (decide (x = n) || !dmB g n x)) := rfl
          rw [← HQA.out x] at hfr
          have hD := treeDom_any tb NB g B off cap S n x wr HV.out HTB.out hnl hxr
          clear hx
          -- what is done where the block is one of the frontier
          have HYES : Hid (frB g n x = true → P ++ [x] = ((reachS g).take (k + 1)).filter fun t => frB g n t) := fun e => by
            rw [HFT.out, ← HX.out, e, if_pos rfl, HP.out]
          have HNO : Hid (frB g n x = false → P = ((reachS g).take (k + 1)).filter fun t => frB g n t) := fun e => by
            rw [HFT.out, ← HX.out, e, if_neg (by simp), List.append_nil, HP.out]
          cases hb : q.testBit x with
          | false =>
            rw [hb] at hH hfr
            have HH := Lib.hid hH
            have HP2 := Lib.hid (HNO.out (by rw [hfr]; rfl))
            clear hH hD hb hfr hxr
            go_wp2_with fail
            refine HH.out.mono ?_
            rintro e w2 ⟨rfl, rfl⟩
            go_wp2_with fail
            go_roundw
            case rel => exact ⟨k + 1, P, by omega, by go_num, HP2.out, HOWN.out, HB.out⟩
            case measure => simp [intOf]; omega
          | true =>
            rw [hb] at hH hfr
            have HH := Lib.hid hH
            by_cases hxn : x = n
            · have HP2 := Lib.hid (HYES.out (by rw [hfr, decide_eq_true hxn]; rfl))
              subst hxn
              have heq := fun w => run_eql_ptr_same (P := Tryz.prog) w ⟨nb NB x, 0, none⟩ Tryz.underlying61 hjt
              have hszq := HB.out.size
              clear hH hD hb hfr hxr
              go_wp2_with fail
              refine HH.out.mono ?_
              rintro e w2 ⟨rfl, rfl⟩
              go_wp2_with (at_builtin; refine wpList_append_own _ rfl _ _ 64 rfl w.heap.size 61 ip (.pointer none) 1 8 Tryz.underlying64 hip hz0 hz1 hz2 rfl (by decide) _ _ _ rfl (HOWN.out.alloc _) ⟨wr.heap.size, 0, none⟩ 1 1 [nptr NB x] rfl rfl ?c1 ?c2 ?c3 ?c4 ?c5 ?_)
              case c1 =>
                intro j u hj
                match j, hj with
                | 0, hj =>
                  have hu : nptr NB x = u := by simpa using hj
                  rw [← hu]
                  simp [Addr.add]
              case c2 => intro u hu; have hu' : u = nptr NB x := by simpa using hu
                         subst hu'; rfl
              case c3 => unfold maxLen; omega
              case c4 => omega
              case c5 => simp; omega
              intro v' w5 hown' hgrow _
              have hsz := (HOWN.out.alloc (.cells #[nptr NB x] 61)).lt
              have hB5 := (HB.out.alloc hszq (.cells #[nptr NB x] 61)).grown hgrow (by simp; omega) (fun j hj => (hsz j hj).1)
              have HO5 := Lib.hid (grown_row hown')
              have HB5 := Lib.hid hB5
              clear hown' hsz hgrow hB5 heq
              go_wp2_with fail
              go_roundw
              case rel => exact ⟨k + 1, P ++ [x], by omega, by go_num, HP2.out, HO5.out, HB5.out⟩
              case measure => simp [intOf]; omega
            · have heq := run_eql_ptr_other (P := Tryz.prog) wr Tryz.underlying61 hjt (by rw [HJS.out]; decide) (nptr_ne hxn) (HTB.out.nodes x hxl) (HTB.out.nodes n hnl)
              cases hd : dmB g n x with
              | true =>
                rw [hd] at hD
                have HD := Lib.hid hD
                have HP2 := Lib.hid (HNO.out (by rw [hfr, decide_eq_false hxn, hd]; rfl))
                clear hH hD hb hfr hxr hd
                go_wp2_with fail
                refine HH.out.mono ?_
                rintro e w2 ⟨rfl, rfl⟩
                go_wp2_with fail
                refine HD.out.mono ?_
                rintro e w2 ⟨rfl, m, rfl⟩
                have HO6 := Lib.hid (own_below HOWN.out (below_drewN wr m))
                have HB6 := Lib.hid (HB.out.trans ((below_drewN wr m).mono HB.out.size))
                clear heq
                go_wp2_with fail
                go_roundw
                case rel => exact ⟨k + 1, P, by omega, by go_num, HP2.out, HO6.out, HB6.out⟩
                case measure => simp [intOf]; omega
              | false =>
                rw [hd] at hD
                have HD := Lib.hid hD
                have HP2 := Lib.hid (HYES.out (by rw [hfr, hd]; simp))
                clear hH hD hb hfr hxr hd
                go_wp2_with fail
                refine HH.out.mono ?_
                rintro e w2 ⟨rfl, rfl⟩
                go_wp2_with fail
                refine HD.out.mono ?_
                rintro e w2 ⟨rfl, m, rfl⟩
                have HO6 := Lib.hid (own_below HOWN.out (below_drewN wr m))
                have HB6 := Lib.hid (HB.out.trans ((below_drewN wr m).mono HB.out.size))
                obtain ⟨wq, hwq⟩ : ∃ wq, wq = wr.drewN m := ⟨_, rfl⟩
                rw [← hwq] at HO6 HB6 ⊢
                have hszq := HB6.out.size
                clear hwq heq c0 x0 HOWN HB HTB
                go_wp2_with (at_builtin; refine wpList_append_own _ rfl _ _ 64 rfl w.heap.size 61 ip (.pointer none) 1 8 Tryz.underlying64 hip hz0 hz1 hz2 rfl (by decide) _ _ _ rfl (HO6.out.alloc _) ⟨wq.heap.size, 0, none⟩ 1 1 [nptr NB x] rfl rfl ?c1 ?c2 ?c3 ?c4 ?c5 ?_)
                case c1 =>
                  intro j u hj
                  match j, hj with
                  | 0, hj =>
                    have hu : nptr NB x = u := by simpa using hj
                    rw [← hu]
                    simp [Addr.add]
                case c2 => intro u hu; have hu' : u = nptr NB x := by simpa using hu
                           subst hu'; rfl
                case c3 => unfold maxLen; omega
                case c4 => omega
                case c5 => simp; omega
                intro v' w5 hown' hgrow _
                have hsz := (HO6.out.alloc (.cells #[nptr NB x] 61)).lt
                have hB5 := (HB6.out.alloc hszq (.cells #[nptr NB x] 61)).grown hgrow (by simp; omega) (fun j hj => (hsz j hj).1)
                have HO5 := Lib.hid (grown_row hown')
                have HB5 := Lib.hid hB5
                clear hown' hsz hgrow hB5
                go_wp2_with fail
                go_roundw
                case rel => exact ⟨k + 1, P ++ [x], by omega, by go_num, HP2.out, HO5.out, HB5.out⟩
                case measure => simp [intOf]; omega
        · have HE := Lib.hid (show P = frontL g n by rw [HP.out, List.take_of_length_le (by omega)]; rfl)
          obtain ⟨A5, cap5, hv5, hp5, _⟩ := own_idx HOWN.out
          have HP5 := Lib.hid hp5
          subst hv5
          clear hp5
          go_wp2_with fail
          go_ret
          exact ⟨A5, cap5, ret_sl (by rw [HE.out]), by rw [← HE.out]; exact HP5.out, HB.out⟩

theorem front_lt {g : List Bl} (hv : validB g = true) (n : Nat) : (∀ x ∈ frontL g n, x < g.length) ∧ (frontL g n).length ≤ 26 := by
  refine ⟨fun x hx => ((mem_reachS' hv).1 (List.mem_filter.1 hx).1).lt hv, ?_⟩
  have h1 : (frontL g n).length ≤ (reachS g).length := List.length_filter_le _ _
  have := reachS_small hv
  omega

theorem finds_front : FindsAt 71 frontL := fun tb NB g B off cap S n w hv h hr => frontierOf_any tb NB g B off cap S n w hv h hr
theorem implFrontier_any (A : Option Addr) (cap : Nat) (g : List Bl) (s : ByteArray) (w : World) (hg : Gr w A g) (hn : g.length + tot g ≤ 1048576) :
    Calls Tryz.prog 15 #[.slice A g.length cap, .string s] w fun e w' => e = .returned (.tuple #[.string (frontV g s), .bool (liveB g s)]) ∧ Below w.heap.size w w' := by
  have HC := Lib.hid (namesFound_any 71 frontL finds_front (fun g n hv hr => front_lt hv n) (enters_of Tryz.func71 (by kernel_rfl) rfl) A cap g s w hg hn)
  have H1 := Lib.hid (show foundV frontL g s = frontV g s from rfl)
  clear hg
  go_enter Tryz.func15, Tryz.ntmps15
  go_wp2_with fail
  refine HC.out.mono ?_
  rintro e w1 ⟨rfl, b1⟩
  go_wp2_with fail
  go_ret2
  exact ⟨ret_sb H1.out rfl, b1⟩
end Go.Proofs.YtklnhbfpmmdhjabGreat
