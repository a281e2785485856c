/-
  Contracts of the model: going through a graph, the way order, what dominates a block, its parent.
-/
import Derived.Test.YtgebedbankibmaaGreatDoorDfs
import Derived.Test.YtgebedbankibmaaGreatDoorDomSpec
namespace Go.Proofs.YtgebedbankibmaaGreatDoor
open Go.RowKit Go.Sort

theorem ret_ss {a a' b b' : ByteArray} (h1 : a = a') (h2 : b = b') : Ending.returned (.tuple #[.string a, .string b]) = .returned (.tuple #[.string a', .string b']) := by rw [h1, h2]

theorem drop_back (l : List Nat) (k : Nat) (hk : k < l.length) : (l.drop k).reverse = (l.drop (k + 1)).reverse ++ [l[k]] := by
  rw [List.drop_eq_getElem_cons hk, List.reverse_cons]

theorem Gone.refl {g : List Bl} {s d : List Nat} (h : Seen g s) (hd : ∀ x ∈ d, x < g.length) (hl : d.length ≤ s.length) : Gone g s d s d := ⟨h, List.prefix_refl _, hd, hl⟩
theorem Gone.trans {g : List Bl} {s d s1 d1 s2 d2 : List Nat} (h : Gone g s d s1 d1) (k : Gone g s1 d1 s2 d2) : Gone g s d s2 d2 := ⟨k.ok, h.pre.trans k.pre, k.lt, k.len⟩

set_option maxRecDepth 100000 in
set_option maxHeartbeats 2000000 in
theorem l4Visit_any (A : Option Addr) (cap : Nat) (g : List Bl) (hn : g.length ≤ 1048576) (hv : validB g = true) : ∀ (m i : Nat) (s d : List Nat) (nm ss ds : ByteArray) (w : World), Gr w A g → i ∉ s → Rch g [] i → Seen g s → g.length ≤ m + s.length → (∀ x ∈ d, x < g.length) → d.length ≤ s.length →
    nm = nthName g i → ss = namesAt g s → ds = namesAt g d →
    Calls Tryz.prog 144 #[.slice A g.length cap, .string nm, .string ss, .string ds] w fun e w' =>
      e = .returned (.tuple #[.string (namesAt g (visit (nxt g) m i (s, d)).1), .string (namesAt g (visit (nxt g) m i (s, d)).2)]) ∧ Below w.heap.size w w'
  | 0, i, s, d, nm, ss, ds, w, _, hi, hr, hs, hm, _, _, _, _, _ => by
    have := (hs.snoc (hr.lt hv) hi).len
    simp at this; omega
  | m + 1, i, s, d, nm, ss, ds, w, hg, hi, hr, hs, hm, hd, hl, hnm, hss, hds => by
    have ih := l4Visit_any A cap g hn hv m
    have hil := hr.lt hv
    have h26 := (valid_iff.1 hv).2.1
    have hs1 := hs.snoc hil hi
    have hsl := hs1.len
    have hn1 : nm.size = 1 := by rw [hnm]; exact one_size hv hil
    have hsz : ss.size = s.length := by rw [hss]; exact namesAt_size hv _ hs.lt
    have hz1 : ss.size + nm.size ≤ 1048576 := by simp at hsl; omega
    have HN := Lib.hid (l1Next_any A cap g nm i w hg hn (by rw [hnm, nthName_at hil]; exact posOf_name hv hil) hil)
    have HS1 := Lib.hid (show ss ++ nm = namesAt g (s ++ [i]) by rw [namesAt_append, namesAt_one, hss, hnm])
    have HDS := Lib.hid hds
    have HGO := Lib.hid (Gone.refl hs1 hd (by simp; omega))
    have HNM := Lib.hid hnm
    obtain ⟨nx, hnx⟩ : ∃ nx, nx = g[i].2 := ⟨_, rfl⟩
    rw [← hnx] at HN
    have hnl : nx.size ≤ 2 := hnx ▸ nxt_two' hv hil
    have hnn : (nxt g i).length = nx.size := by rw [nxt_length hil, hnx]
    have hw1 : wrap64 ((nx.size : Int) - 1) = (nx.size : Int) - 1 := by unfold wrap64; omega
    have HNX := Lib.hid hnx
    have HNN := Lib.hid hnn
    have HG := Lib.hid hg
    have HIH := Lib.hid ih
    have HV := Lib.hid hv
    have HR := Lib.hid hr
    have HM := Lib.hid hm
    clear hnx hnn hg ih hss hds hnm hi hs hs1 hd hl hm hsz hr hsl hv
    go_enter Tryz.func144, Tryz.ntmps144
    go_wp2_with fail
    refine HN.out.mono ?_
    rintro e w1 ⟨rfl, b1⟩
    have HB1 := Lib.hid b1
    clear b1
    go_wp2_with fail
    rw [HS1.out]
    go_loopw [2, 3, 11] (fun sv dv iv wr => ∃ (k : Nat) (s1 d1 : List Nat), k ≤ nx.size ∧ iv = .int .i64 ((k : Int) - 1) ∧ sv = .string (namesAt g s1) ∧ dv = .string (namesAt g d1) ∧
      Hid ((s1, d1) = visits (nxt g) m (s ++ [i], d) ((nxt g i).drop k).reverse) ∧ Hid (Gone g (s ++ [i]) d s1 d1) ∧ Below w.heap.size w wr) (fun _ _ iv _ => (intOf iv + 1).toNat)
    case atStart => exact ⟨nx.size, s ++ [i], d, Nat.le_refl _, rfl, rfl, by rw [HDS.out], by rw [List.drop_of_length_le (by rw [HNN.out]; exact Nat.le_refl _)]; rfl, HGO.out, HB1.out⟩
    case round =>
      obtain ⟨k, s1, d1, hk, rfl, rfl, rfl, HST, HG1, hB⟩ := hrel
      have HB := Lib.hid hB
      obtain ⟨p, hp⟩ : ∃ p, p = namesAt g s1 := ⟨_, rfl⟩
      obtain ⟨q, hq⟩ : ∃ q, q = namesAt g d1 := ⟨_, rfl⟩
      have hps : p.size = s1.length := by rw [hp]; exact namesAt_size HV.out _ HG1.out.ok.lt
      have hqs : q.size = d1.length := by rw [hq]; exact namesAt_size HV.out _ HG1.out.lt
      have hsl := HG1.out.ok.len
      have hdl := HG1.out.len
      rw [← hp, ← hq]
      have HP := Lib.hid hp
      have HQ := Lib.hid hq
      clear hB hp hq
      cases k with
      | zero =>
        rw [show (((0 : Nat) : Int) - 1) = -1 from rfl]
        have hz2 : nm.size + q.size ≤ 1048576 := by omega
        have HE := Lib.hid (show (s1, d1) = visits (nxt g) m (s ++ [i], d) (nxt g i).reverse by rw [HST.out]; rfl)
        have HE1 := Lib.hid (show p = namesAt g (visit (nxt g) (m + 1) i (s, d)).1 by rw [visit_succ, ← HE.out, HP.out])
        have HE2 := Lib.hid (show nm ++ q = namesAt g (visit (nxt g) (m + 1) i (s, d)).2 by rw [visit_succ, ← HE.out, HQ.out, HNM.out]; rfl)
        go_wp2_with fail
        go_ret2
        exact ⟨ret_ss HE1.out HE2.out, HB.out⟩
      | succ j =>
        rw [show (((j + 1 : Nat) : Int) - 1) = (j : Int) by omega]
        have hjn : j < nx.size := by omega
        obtain ⟨t, htl, hget, _, hnt⟩ := nxt_get HV.out (HR.out.lt HV.out) (k := j) (by rw [← HNX.out]; exact hjn)
        have hbyte : g[i].2[j]'(by rw [← HNX.out]; exact hjn) = nx[j] := by congr 1; exact HNX.out.symm
        rw [hbyte] at hnt
        have hjl : j < (nxt g i).length := by rw [HNN.out]; exact hjn
        have hte : (nxt g i)[j] = t := (List.getElem?_eq_some_iff.1 hget).2
        have htm : t ∈ nxt g i := hte ▸ List.getElem_mem hjl
        have hidx := idx_namesAt HV.out HG1.out.ok.lt htl hnt
        rw [← HP.out] at hidx
        have HEX := Lib.hid (show nx.extract j (j + 1) = nthName g t by rw [ex_byte nx (a := j) (b := j + 1) (by omega) (by omega) (by omega), nthName_at htl, hnt])
        obtain ⟨z, hz⟩ : ∃ z, z = Lib.indexByte p.data.toList nx[j] := ⟨_, rfl⟩
        have HFC : Hid (∀ w, Calls Tryz.prog 71 #[.string p, .int .u8 nx[j].toNat] w fun e w' => e = .returned (.int .i64 z) ∧ w = w') := fun w => by
          rw [hz]; exact find_any p nx[j] w (by omega)
        rw [← hz] at hidx
        have HSN := Lib.hid (show visits (nxt g) m (s ++ [i], d) ((nxt g i).drop j).reverse = if t ∈ s1 then (s1, d1) else visit (nxt g) m t (s1, d1) by
          rw [drop_back _ _ hjl, hte, visits_snoc, ← HST.out])
        have hj1 : j + 1 ≤ nx.size := by omega
        have hw2 : wrap64 ((j : Int) - 1) = (j : Int) - 1 := by unfold wrap64; omega
        have HTR := Lib.hid (Rch.step HR.out htm (by simp))
        clear hget hbyte hnt hte hz hjl htm
        by_cases hin : t ∈ s1
        · have q2 : ¬ z < 0 := by have := hidx.2 hin; omega
          rw [if_pos hin] at HSN
          clear hidx hin
          go_wp2_with fail
          refine (HFC.out _).mono ?_
          rintro e w4 ⟨rfl, rfl⟩
          go_wp2_with fail
          go_roundw
          case rel => exact ⟨j, s1, d1, by omega, rfl, by rw [HP.out], by rw [HQ.out], HSN.out.symm, HG1, HB.out⟩
          case measure => simp [intOf]
        · have q2 : z < 0 := by
            rcases Int.lt_or_le z 0 with h | h
            · exact h
            · exact absurd (hidx.1 h) hin
          rw [if_neg hin] at HSN
          have hfu : g.length ≤ m + s1.length := by
            have := HG1.out.pre.length_le; have := HM.out; simp at *; omega
          have HV1 := Lib.hid (visit_gone HV.out (d := d1) hin HTR.out HG1.out.ok hfu HG1.out.lt HG1.out.len)
          have HC := Lib.hid (fun W (hW : Gr W A g) => HIH.out t s1 d1 (nx.extract j (j + 1)) p q W hW hin HTR.out HG1.out.ok hfu HG1.out.lt HG1.out.len HEX.out HP.out HQ.out)
          obtain ⟨v, hvv⟩ : ∃ v, v = visit (nxt g) m t (s1, d1) := ⟨_, rfl⟩
          rw [← hvv] at HC HV1 HSN
          clear hidx hin hfu hvv
          go_wp2_with fail
          refine (HFC.out _).mono ?_
          rintro e w4 ⟨rfl, rfl⟩
          go_wp2_with fail
          refine (HC.out _ (HG.out.below HB.out)).mono ?_
          rintro e w5 ⟨rfl, b5⟩
          have HB5 := Lib.hid (below_trans_self HB.out b5)
          clear b5
          go_wp2_with fail
          go_roundw
          case rel => exact ⟨j, v.1, v.2, by omega, rfl, rfl, rfl, HSN.out.symm, HG1.out.trans HV1.out, HB5.out⟩
          case measure => simp [intOf]

set_option maxRecDepth 100000 in
theorem l4Order_any (A : Option Addr) (cap : Nat) (g : List Bl) (w : World) (hg : Gr w A g) (hn : g.length ≤ 1048576) (hv : validB g = true) :
    Calls Tryz.prog 105 #[.slice A g.length cap] w fun e w' => e = .returned (.string (namesAt g (wayOrd g))) ∧ Below w.heap.size w w' := by
  have hpos := (valid_iff.1 hv).1
  obtain ⟨b, off, t, t2, hA, hb, hc0, hc1, he, he2⟩ := gr_at hg hpos
  have hc0' : w.cell? ⟨b, off, none⟩ = some (.string t) := by simpa using hc0
  have H1 := Lib.hid (l4Visit_any A cap g hn hv g.length 0 [] [] t ⟨#[]⟩ ⟨#[]⟩ w hg (by simp) (.start (by simp)) ⟨.nil, by simp⟩ (by simp) (by simp) (by simp) (by rw [nthName_at hpos, he]) rfl rfl)
  clear hc0 hc1 he he2 hg hv hn
  subst hA
  go_enter Tryz.func105, Tryz.ntmps105
  go_wp2_with fail
  refine H1.out.mono ?_
  rintro e w1 ⟨rfl, b1⟩
  go_wp2_with fail
  go_ret
  exact ⟨rfl, b1⟩

theorem filter_take {p : Nat → Bool} {l : List Nat} {k : Nat} (h : k < l.length) : (l.take (k + 1)).filter p = (l.take k).filter p ++ (if p l[k] then [l[k]] else []) := by
  rw [List.take_succ_eq_append_getElem h, List.filter_append]
  congr 1
  cases hp : p l[k] <;> simp [hp]

set_option maxRecDepth 100000 in
set_option maxHeartbeats 1000000 in
theorem l3Of_any (A : Option Addr) (cap : Nat) (g : List Bl) (nm : ByteArray) (n : Nat) (w : World) (hg : Gr w A g) (hn : g.length ≤ 1048576) (hv : validB g = true) (hnl : n < g.length) (hnm : nm = nthName g n) :
    Calls Tryz.prog 164 #[.slice A g.length cap, .string nm] w fun e w' => e = .returned (.string (namesAt g (domL g n))) ∧ Below w.heap.size w w' := by
  have h26 := (valid_iff.1 hv).2.1
  have HO := Lib.hid (l4Order_any A cap g w hg hn hv)
  obtain ⟨o, ho⟩ : ∃ o, o = namesAt g (wayOrd g) := ⟨_, rfl⟩
  have hos : o.size = (wayOrd g).length := by rw [ho]; exact namesAt_size hv _ (wayOrd_lt hv)
  have hol := wayOrd_len hv
  rw [← ho] at HO
  have HOO := Lib.hid ho
  have HOS := Lib.hid hos
  have hos2 : o.size ≤ 26 := by omega
  have HG := Lib.hid hg
  have HV := Lib.hid hv
  have HNM := Lib.hid hnm
  have HNL := Lib.hid hnl
  clear ho hg hv hnm hnl hos
  go_enter Tryz.func164, Tryz.ntmps164
  go_wp2_with fail
  refine HO.out.mono ?_
  rintro e w1 ⟨rfl, b1⟩
  have HB1 := Lib.hid b1
  clear b1
  go_wp2_with fail
  go_loopw [5, 12] (fun ov iv wr => ∃ (k : Nat) (out : ByteArray), k ≤ o.size ∧ iv = .int .i64 k ∧ ov = .string out ∧ Hid (out = namesAt g (((wayOrd g).take k).filter fun a => dmB g a n)) ∧ Below w.heap.size w wr) (fun _ iv _ => o.size - (intOf iv).toNat)
  case atStart => exact ⟨0, ⟨#[]⟩, Nat.zero_le _, rfl, rfl, rfl, HB1.out⟩
  case round =>
    obtain ⟨k, out, hk, rfl, rfl, HOUT, hB⟩ := hrel
    have HB := Lib.hid hB
    have hoz : out.size ≤ k := by
      rw [HOUT.out, namesAt_size HV.out _ fun i hi => wayOrd_lt HV.out i ((List.take_subset _ _) (List.mem_filter.1 hi).1)]
      have := List.length_filter_le (fun a => dmB g a n) ((wayOrd g).take k)
      have := List.length_take_le k (wayOrd g)
      omega
    clear hB
    by_cases hlt : k < o.size
    · have hlt' : k < (wayOrd g).length := by rw [← HOS.out]; exact hlt
      obtain ⟨x, hx⟩ : ∃ x, x = (wayOrd g)[k] := ⟨_, rfl⟩
      have hxl : x < g.length := hx ▸ wayOrd_lt HV.out _ (List.getElem_mem hlt')
      obtain ⟨_, hcut⟩ := namesAt_cut HV.out (wayOrd_lt HV.out) hlt'
      have HEX := Lib.hid (show o.extract k (k + 1) = nthName g x by rw [HOO.out, hcut, nthName_at hxl]; congr 2; exact hx.symm)
      have hk1 : k + 1 ≤ o.size := by omega
      have hxz : (o.extract k (k + 1)).size = 1 := by rw [HEX.out]; exact one_size HV.out hxl
      have hz : out.size + (o.extract k (k + 1)).size ≤ 1048576 := by omega
      have HD := Lib.hid (l3Dominates_any A cap g (o.extract k (k + 1)) nm x n wr (HG.out.below HB.out) hn HV.out hxl HNL.out HEX.out HNM.out)
      have HFT := Lib.hid (filter_take (p := fun a => dmB g a n) hlt')
      have HX := Lib.hid hx
      clear hx hcut hxz
      cases hd : dmB g x n with
      | true =>
        rw [hd] at HD
        have HO2 := Lib.hid (show out ++ o.extract k (k + 1) = namesAt g (((wayOrd g).take (k + 1)).filter fun a => dmB g a n) by
          rw [HFT.out, ← HX.out, hd, if_pos rfl, namesAt_append, namesAt_one, HOUT.out, HEX.out])
        clear hd
        go_wp2_with fail
        refine HD.out.mono ?_
        rintro e w4 ⟨rfl, b4⟩
        have HB4 := Lib.hid (below_trans_self HB.out b4)
        clear b4
        go_wp2_with fail
        go_roundw
        case rel => exact ⟨k + 1, _, by omega, by go_num, rfl, HO2.out, HB4.out⟩
        case measure => simp [intOf]; omega
      | false =>
        rw [hd] at HD
        have HO2 := Lib.hid (show out = namesAt g (((wayOrd g).take (k + 1)).filter fun a => dmB g a n) by
          rw [HFT.out, ← HX.out, hd, if_neg (by simp), List.append_nil, HOUT.out])
        clear hd
        go_wp2_with fail
        refine HD.out.mono ?_
        rintro e w4 ⟨rfl, b4⟩
        have HB4 := Lib.hid (below_trans_self HB.out b4)
        clear b4
        go_wp2_with fail
        go_roundw
        case rel => exact ⟨k + 1, _, by omega, by go_num, rfl, HO2.out, HB4.out⟩
        case measure => simp [intOf]; omega
    · have HE := Lib.hid (show out = namesAt g (domL g n) by
        rw [HOUT.out, List.take_of_length_le (by rw [← HOS.out]; omega)]; rfl)
      go_wp2_with fail
      go_ret
      exact ⟨ret_string HE.out, HB.out⟩

/-- The name of the parent, or none. -/
def parS (g : List Bl) (n : Nat) : ByteArray := match parL g n with | some p => nthName g p | none => ⟨#[]⟩
theorem parS_some {g : List Bl} {n p : Nat} (h : parL g n = some p) : parS g n = nthName g p := by unfold parS; rw [h]
theorem parS_none {g : List Bl} {n : Nat} (h : parL g n = none) : parS g n = ⟨#[]⟩ := by unfold parS; rw [h]

set_option maxRecDepth 100000 in
theorem l3Parent_any (A : Option Addr) (cap : Nat) (g : List Bl) (nm : ByteArray) (n : Nat) (w : World) (hg : Gr w A g) (hn : g.length ≤ 1048576) (hv : validB g = true) (hr : Rch g [] n) (hnm : nm = nthName g n) :
    Calls Tryz.prog 146 #[.slice A g.length cap, .string nm] w fun e w' => e = .returned (.string (parS g n)) ∧ Below w.heap.size w w' := by
  have HO := Lib.hid (l3Of_any A cap g nm n w hg hn hv (hr.lt hv) hnm)
  obtain ⟨o, ho⟩ : ∃ o, o = namesAt g (domL g n) := ⟨_, rfl⟩
  have hlt : ∀ x ∈ domL g n, x < g.length := fun x hx => (((mem_domL hv hr).1 hx).live hr).lt hv
  have hos : o.size = (domL g n).length := by rw [ho]; exact namesAt_size hv _ hlt
  have hol := domL_len hv n
  have h26 := (valid_iff.1 hv).2.1
  have hstep := domL_step hv hr
  rw [← ho] at HO
  cases hp : parL g n with
  | none =>
    rw [hp] at hstep
    have h1 : o.size = 1 := by rw [hos, hstep]; rfl
    have h2 : ((o.size : Int) < 2) := by omega
    have HR := Lib.hid (parS_none hp)
    clear hp hg hv hr hnm ho hos hstep hlt
    go_enter Tryz.func146, Tryz.ntmps146
    go_wp2_with fail
    refine HO.out.mono ?_
    rintro e w1 ⟨rfl, b1⟩
    go_wp2_with fail
    go_ret
    exact ⟨ret_string HR.out.symm, b1⟩
  | some p =>
    rw [hp] at hstep
    have hpar := (parL_iff hv hr).1 hp
    obtain ⟨l, hl⟩ := domL_pos hv hpar.2.1
    have hstep' : domL g n = domL g p ++ [n] := hstep
    rw [hl] at hstep'
    have h1 : o.size = l.length + 2 := by rw [hos, hstep']; simp
    have h2 : ¬ ((o.size : Int) < 2) := by omega
    have hk : o.size - 2 < (domL g n).length := by omega
    obtain ⟨_, hcut⟩ := namesAt_cut hv hlt hk
    have hpl := hpar.2.1.lt hv
    have HR := Lib.hid (show o.extract (o.size - 2) (o.size - 1) = parS g n by
      rw [parS_some hp, show o.size - 1 = o.size - 2 + 1 by omega]
      have e : (domL g n)[o.size - 2]? = some p := by rw [hstep', h1]; simp
      have e2 : (domL g n)[o.size - 2] = p := by rw [List.getElem?_eq_getElem hk] at e; exact Option.some.inj e
      have h3 : o.extract (o.size - 2) (o.size - 2 + 1) = (namesAt g (domL g n)).extract (o.size - 2) (o.size - 2 + 1) := by rw [ho]
      rw [h3, hcut, nthName_at hpl]
      congr 2)
    have q1 : wrap64 ((o.size : Int) - 2) = ((o.size - 2 : Nat) : Int) := by unfold wrap64; omega
    have q2 : wrap64 ((o.size : Int) - 1) = ((o.size - 1 : Nat) : Int) := by unfold wrap64; omega
    have q3 : o.size - 1 ≤ o.size := by omega
    have q4 : o.size - 2 ≤ o.size - 1 := by omega
    have q5 : (2 : Int) ≤ o.size := by omega
    clear hp hg hv hr hnm ho hos hstep hlt hpar hl hstep' hcut h1
    go_enter Tryz.func146, Tryz.ntmps146
    go_wp2_with fail
    refine HO.out.mono ?_
    rintro e w1 ⟨rfl, b1⟩
    go_wp2_with fail
    go_ret
    exact ⟨ret_string HR.out, b1⟩
end Go.Proofs.YtgebedbankibmaaGreatDoor

/-
  Contracts of the model: DominatorsOf, ParentOf, ChildrenOf, Dominates.
-/
namespace Go.Proofs.YtgebedbankibmaaGreatDoor
open Go.RowKit Go.Sort

theorem parS_is {g : List Bl} (hv : validB g = true) {n c : Nat} (hn : n < g.length) (hc : Rch g [] c) : ((parS g c).toList == (nthName g n).toList) = decide (parL g c = some n) := by
  rw [Bool.eq_iff_iff, beq_toList, decide_eq_true_iff]
  cases hp : parL g c with
  | none =>
    rw [parS_none hp]
    constructor
    · intro e
      have := congrArg ByteArray.size e
      rw [one_size hv hn] at this; cases this
    · intro e; cases e
  | some p =>
    rw [parS_some hp]
    have hpl := ((parL_iff hv hc).1 hp).2.1.lt hv
    constructor
    · intro e
      rw [nthName_at hpl, nthName_at hn] at e
      rw [name_inj hv hpl hn e]
    · intro e; cases e; rfl

theorem kids_dm {g : List Bl} (hv : validB g = true) {n c : Nat} (hc : Rch g [] c) (h : dmB g n c = false) : decide (parL g c = some n) = false := by
  rw [decide_eq_false_iff_not]
  intro e
  have := ((parL_iff hv hc).1 e).2.2 n
  have h2 : dmB g n c = true := (dmB_iff hv).2 (this.2 (.inr (.refl g n)))
  rw [h] at h2; cases h2

set_option maxRecDepth 100000 in
set_option maxHeartbeats 2000000 in
theorem l3Children_any (A : Option Addr) (cap : Nat) (g : List Bl) (nm : ByteArray) (n : Nat) (w : World) (hg : Gr w A g) (hn : g.length + tot g ≤ 1048576) (hv : validB g = true) (hnl : n < g.length) (hnm : nm = nthName g n) :
    Calls Tryz.prog 107 #[.slice A g.length cap, .string nm] w fun e w' => e = .returned (.string (namesAt g (kidsL g n))) ∧ Below w.heap.size w w' := by
  have h26 := (valid_iff.1 hv).2.1
  have hrl : ∀ j ∈ reachS g, j < g.length := fun j hj => ((mem_reachS' hv).1 hj).lt hv
  have HO := Lib.hid (l1Reached_any A cap g w hg hn hv)
  obtain ⟨o, ho⟩ : ∃ o, o = namesAt g (reachS g) := ⟨_, rfl⟩
  have hos : o.size = (reachS g).length := by rw [ho]; exact namesAt_size hv _ hrl
  have hol : (reachS g).length ≤ g.length := srt_len g (reach g) g.length
  rw [← ho] at HO
  have HOO := Lib.hid ho
  have HOS := Lib.hid hos
  have hos2 : o.size ≤ 26 := by omega
  have HG := Lib.hid hg
  have HV := Lib.hid hv
  have HNM := Lib.hid hnm
  have HNL := Lib.hid hnl
  have HRL := Lib.hid hrl
  clear ho hg hv hnm hnl hos hrl
  go_enter Tryz.func107, Tryz.ntmps107
  go_wp2_with fail
  refine HO.out.mono ?_
  rintro e w1 ⟨rfl, b1⟩
  have HB1 := Lib.hid b1
  clear b1
  go_wp2_with fail
  go_loopw [5, 12] (fun ov iv wr => ∃ (k : Nat) (out : ByteArray), k ≤ o.size ∧ iv = .int .i64 k ∧ ov = .string out ∧ Hid (out = namesAt g (((reachS g).take k).filter fun c => decide (parL g c = some n))) ∧ Below w.heap.size w wr) (fun _ iv _ => o.size - (intOf iv).toNat)
  case atStart => exact ⟨0, ⟨#[]⟩, Nat.zero_le _, rfl, rfl, rfl, HB1.out⟩
  case round =>
    obtain ⟨k, out, hk, rfl, rfl, HOUT, hB⟩ := hrel
    have HB := Lib.hid hB
    have hoz : out.size ≤ k := by
      rw [HOUT.out, namesAt_size HV.out _ fun i hi => HRL.out i ((List.take_subset _ _) (List.mem_filter.1 hi).1)]
      have := List.length_filter_le (fun c => decide (parL g c = some n)) ((reachS g).take k)
      have := List.length_take_le k (reachS g)
      omega
    clear hB
    by_cases hlt : k < o.size
    · have hlt' : k < (reachS g).length := by rw [← HOS.out]; exact hlt
      obtain ⟨x, hx⟩ : ∃ x, x = (reachS g)[k] := ⟨_, rfl⟩
      have hxm : x ∈ reachS g := hx ▸ List.getElem_mem hlt'
      have hxl : x < g.length := HRL.out x hxm
      have hxr := (mem_reachS' HV.out).1 hxm
      obtain ⟨_, hcut⟩ := namesAt_cut HV.out HRL.out hlt'
      have HEX := Lib.hid (show o.extract k (k + 1) = nthName g x by rw [HOO.out, hcut, nthName_at hxl]; congr 2; exact hx.symm)
      have hk1 : k + 1 ≤ o.size := by omega
      have hxz : (o.extract k (k + 1)).size = 1 := by rw [HEX.out]; exact one_size HV.out hxl
      have hz : out.size + (o.extract k (k + 1)).size ≤ 1048576 := by omega
      have HD := Lib.hid (fun W (h : Gr W A g) => l3Dominates_any A cap g nm (o.extract k (k + 1)) n x W h (by omega) HV.out HNL.out hxl HNM.out HEX.out)
      have HPA := Lib.hid (fun W (h : Gr W A g) => l3Parent_any A cap g (o.extract k (k + 1)) x W h (by omega) HV.out hxr HEX.out)
      have HFT := Lib.hid (filter_take (p := fun c => decide (parL g c = some n)) hlt')
      have hpi := parS_is HV.out HNL.out hxr
      rw [← HNM.out] at hpi
      obtain ⟨ps, hps⟩ : ∃ ps, ps = parS g x := ⟨_, rfl⟩
      rw [← hps] at HPA hpi
      have HX := Lib.hid hx
      have hkd := kids_dm HV.out (n := n) hxr
      clear hx hcut hxz hxm hps
      cases hd : dmB g n x with
      | false =>
        rw [hd] at HD
        have HO2 := Lib.hid (show out = namesAt g (((reachS g).take (k + 1)).filter fun c => decide (parL g c = some n)) by
          rw [HFT.out, ← HX.out, hkd hd, if_neg (by simp), List.append_nil, HOUT.out])
        clear hd hkd hpi hxr
        go_wp2_with fail
        refine (HD.out _ (HG.out.below HB.out)).mono ?_
        rintro e w4 ⟨rfl, b4⟩
        have HB4 := Lib.hid (below_trans_self HB.out b4)
        clear b4
        go_wp2_with fail
        go_roundw
        case rel => exact ⟨k + 1, _, by omega, by go_num, rfl, HO2.out, HB4.out⟩
        case measure => simp [intOf]; omega
      | true =>
        rw [hd] at HD
        clear hkd
        cases hq : decide (parL g x = some n) with
        | true =>
          rw [hq] at hpi
          have HO2 := Lib.hid (show out ++ o.extract k (k + 1) = namesAt g (((reachS g).take (k + 1)).filter fun c => decide (parL g c = some n)) by
            rw [HFT.out, ← HX.out, hq, if_pos rfl, namesAt_append, namesAt_one, HOUT.out, HEX.out])
          clear hd hq hxr
          go_wp2_with fail
          refine (HD.out _ (HG.out.below HB.out)).mono ?_
          rintro e w4 ⟨rfl, b4⟩
          have HB4 := Lib.hid (below_trans_self HB.out b4)
          clear b4
          go_wp2_with fail
          refine (HPA.out _ (HG.out.below HB4.out)).mono ?_
          rintro e w5 ⟨rfl, b5⟩
          have HB5 := Lib.hid (below_trans_self HB4.out b5)
          clear b5
          go_wp2_with fail
          go_roundw
          case rel => exact ⟨k + 1, _, by omega, by go_num, rfl, HO2.out, HB5.out⟩
          case measure => simp [intOf]; omega
        | false =>
          rw [hq] at hpi
          have HO2 := Lib.hid (show out = namesAt g (((reachS g).take (k + 1)).filter fun c => decide (parL g c = some n)) by
            rw [HFT.out, ← HX.out, hq, if_neg (by simp), List.append_nil, HOUT.out])
          clear hd hq hxr
          go_wp2_with fail
          refine (HD.out _ (HG.out.below HB.out)).mono ?_
          rintro e w4 ⟨rfl, b4⟩
          have HB4 := Lib.hid (below_trans_self HB.out b4)
          clear b4
          go_wp2_with fail
          refine (HPA.out _ (HG.out.below HB4.out)).mono ?_
          rintro e w5 ⟨rfl, b5⟩
          have HB5 := Lib.hid (below_trans_self HB4.out b5)
          clear b5
          go_wp2_with fail
          go_roundw
          case rel => exact ⟨k + 1, _, by omega, by go_num, rfl, HO2.out, HB5.out⟩
          case measure => simp [intOf]; omega
    · have HE := Lib.hid (show out = namesAt g (kidsL g n) by
        rw [HOUT.out, List.take_of_length_le (by rw [← HOS.out]; omega)]; rfl)
      go_wp2_with fail
      go_ret
      exact ⟨ret_string HE.out, HB.out⟩

end Go.Proofs.YtgebedbankibmaaGreatDoor

/-
  Plain facts for the laws on dominators.
-/
namespace Go.Proofs.YtgebedbankibmaaGreatDoor

/-- A block that dominates just what dominates all of some. -/
def AllMeet (g : List Bl) (P : List Nat) (m : Nat) : Prop := Rch g [] m ∧ ∀ x, (∀ p ∈ P, Dm g x p) ↔ Dm g x m

theorem AllMeet.one {g : List Bl} {p : Nat} (h : Rch g [] p) : AllMeet g [p] p := ⟨h, fun x => by simp⟩
theorem AllMeet.more {g : List Bl} {P : List Nat} {m p m' : Nat} (h : AllMeet g P m) (k : IsMeet g m p m') : AllMeet g (P ++ [p]) m' := by
  refine ⟨k.1.live h.1, fun x => ?_⟩
  constructor
  · intro hx
    exact k.2.2 x ((h.2 x).1 fun q hq => hx q (List.mem_append_left _ hq)) (hx p (by simp))
  · intro hx q hq
    rcases List.mem_append.1 hq with hq | hq
    · exact (h.2 x).2 (hx.trans k.1) q hq
    · rw [List.mem_singleton.1 hq]; exact hx.trans k.2.1

end Go.Proofs.YtgebedbankibmaaGreatDoor
