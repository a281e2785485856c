/-
  Contract of the model's loop of a header.
-/
import Derived.Test.YtdolbmonmkjajaaGreatSpecBack
import Derived.Test.YtdolbmonmkjajaaGreatKids
import Derived.Test.YtdolbmonmkjajaaGreatLoopMath
namespace Go.Proofs.YtdolbmonmkjajaaGreat
open Go.RowKit Go.Sort

/-- The blocks from which tame jumps go back to a header, behind it. -/
def tameF (g : List Bl) (h : Nat) (o : List Nat) (j : Nat × Nat) : List Nat := if j.2 = h ∧ j.1 ∉ o ∧ dmB g h j.1 = true then o ++ [j.1] else o
def tameS (g : List Bl) (h : Nat) (L : List (Nat × Nat)) : List Nat := L.foldl (tameF g h) [h]

theorem tameS_snoc (g : List Bl) (h : Nat) (L : List (Nat × Nat)) (j : Nat × Nat) : tameS g h (L ++ [j]) = tameF g h (tameS g h L) j := by
  unfold tameS; rw [List.foldl_append]; rfl
theorem tameS_take (g : List Bl) (h : Nat) {L : List (Nat × Nat)} {k : Nat} (hk : k < L.length) : tameS g h (L.take (k + 1)) = tameF g h (tameS g h (L.take k)) L[k] := by
  rw [List.take_succ_eq_append_getElem hk, tameS_snoc]

theorem foldF_facts (g : List Bl) (h : Nat) : ∀ (L : List (Nat × Nat)) (o : List Nat), o.Nodup →
    (L.foldl (tameF g h) o).Nodup ∧ o <+: L.foldl (tameF g h) o ∧ ∀ x, x ∈ L.foldl (tameF g h) o ↔ x ∈ o ∨ ((x, h) ∈ L ∧ dmB g h x = true)
  | [], o, ho => ⟨ho, List.prefix_refl _, fun x => by simp⟩
  | j :: L, o, ho => by
    rw [List.foldl_cons]
    by_cases hc : j.2 = h ∧ j.1 ∉ o ∧ dmB g h j.1 = true
    · have e : tameF g h o j = o ++ [j.1] := by unfold tameF; rw [if_pos hc]
      have hn : (o ++ [j.1]).Nodup := List.nodup_append.2 ⟨ho, by simp, fun a ha b hb e => by simp at hb; subst hb; subst e; exact hc.2.1 ha⟩
      obtain ⟨h1, h2, h3⟩ := foldF_facts g h L (o ++ [j.1]) hn
      rw [e]
      refine ⟨h1, (List.prefix_append _ _).trans h2, fun x => ?_⟩
      rw [h3, List.mem_append, List.mem_singleton, List.mem_cons]
      constructor
      · rintro ((q | q) | ⟨q, r⟩)
        · exact .inl q
        · exact .inr ⟨.inl (by rw [q, ← hc.1]), by rw [q]; exact hc.2.2⟩
        · exact .inr ⟨.inr q, r⟩
      · rintro (q | ⟨q | q, r⟩)
        · exact .inl (.inl q)
        · exact .inl (.inr (by rw [← q]))
        · exact .inr ⟨q, r⟩
    · have e : tameF g h o j = o := by unfold tameF; rw [if_neg hc]
      obtain ⟨h1, h2, h3⟩ := foldF_facts g h L o ho
      rw [e]
      refine ⟨h1, h2, fun x => ?_⟩
      rw [h3, List.mem_cons]
      constructor
      · rintro (q | ⟨q, r⟩)
        · exact .inl q
        · exact .inr ⟨.inr q, r⟩
      · rintro (q | ⟨q | q, r⟩)
        · exact .inl q
        · left
          have hj : j.2 = h := by rw [← q]
          have hx : j.1 = x := by rw [← q]
          exact Classical.byContradiction fun hno => hc ⟨hj, by rw [hx]; exact hno, by rw [hx]; exact r⟩
        · exact .inr ⟨q, r⟩

theorem tameS_nodup (g : List Bl) (h : Nat) (L : List (Nat × Nat)) : (tameS g h L).Nodup := (foldF_facts g h L [h] (by simp)).1
theorem tameS_head (g : List Bl) (h : Nat) (L : List (Nat × Nat)) : ∃ r, tameS g h L = h :: r := by
  obtain ⟨r, hr⟩ := (foldF_facts g h L [h] (by simp)).2.1
  exact ⟨r, hr.symm⟩
theorem tameS_lt {g : List Bl} {h : Nat} (hh : h < g.length) {L : List (Nat × Nat)} (hL : ∀ j ∈ L, j.1 < g.length) : ∀ x ∈ tameS g h L, x < g.length := fun x hx => by
  rcases ((foldF_facts g h L [h] (by simp)).2.2 x).1 hx with q | ⟨q, _⟩
  · rw [List.mem_singleton.1 q]; exact hh
  · exact hL _ q
theorem mem_tameS {g : List Bl} (hv : validB g = true) {h x : Nat} : x ∈ tameS g h (jumpL g backK) ↔ x ∈ srcL g tameK h ++ [h] := by
  unfold tameS
  rw [(foldF_facts g h _ [h] (by simp)).2.2 x, List.mem_append, mem_jumpL hv, mem_srcL hv, or_comm]
  have : ((Rch g [] x ∧ h ∈ nxt g x ∧ backK (kindN g x h) = true) ∧ dmB g h x = true) ↔ (Rch g [] x ∧ h ∈ nxt g x ∧ tameK (kindN g x h) = true) := by
    constructor
    · rintro ⟨⟨a, b, c⟩, d⟩
      refine ⟨a, b, ?_⟩
      rw [backK_kind, decide_eq_true_iff] at c
      rw [kind_tame (by omega) d]; rfl
    · rintro ⟨a, b, c⟩
      have h1 : kindN g x h = 1 := by simpa [tameK] using c
      refine ⟨⟨a, b, by rw [h1]; rfl⟩, ?_⟩
      cases hd : dmB g h x with
      | true => rfl
      | false =>
        rcases Nat.lt_or_ge (placeN g x) (placeN g h) with r | r
        · rw [kind_fwd r] at h1; omega
        · rw [kind_wild (by omega) hd] at h1; omega
  exact ⟨fun q => q.imp this.1 id, fun q => q.imp this.2 id⟩

/-- What goes on to a block and is reached, in the order of the graph. -/
theorem prev_live {g : List Bl} (x : Nat) : (prevN g x g.length).filter (fun i => decide (i ∈ reachS g)) = srcL g allK x := by
  unfold prevN srcL reachS
  rw [List.filter_filter, List.filter_filter]
  refine List.filter_congr fun i hi => ?_
  rw [allK_kind, Bool.and_true, Bool.and_comm]
  congr 1
  rw [decide_eq_decide, List.mem_filter, decide_eq_true_iff]
  exact ⟨fun q => q.2, fun q => ⟨hi, q⟩⟩

theorem stepL_self {l : List Nat} (h : l.Nodup) : stepL [] l = l := by
  have : ∀ (l o : List Nat), (o ++ l).Nodup → stepL o l = o ++ l := by
    intro l
    induction l with
    | nil => intro o _; simp [stepL_nil]
    | cons t l ih =>
      intro o ho
      have ht : t ∉ o := fun q => by
        have := (List.nodup_append.1 ho).2.2 t q t (by simp)
        exact this rfl
      rw [stepL_cons, if_neg ht, ih (o ++ [t]) (by simpa using ho)]
      simp
  exact this l [] (by simpa using h)

/-- The header stays first, and nothing follows from it. -/
theorem spr_one {g : List Bl} {h : Nat} {s : List Nat} (hs : s.Nodup) (hh : ∃ r, s = h :: r) : spr (folL g h) s 1 = s := by
  have e0 : spr (folL g h) s 0 = s := stepL_self hs
  obtain ⟨r, hr⟩ := hh
  have h2 : 0 < (spr (folL g h) s 0).length := by rw [e0, hr]; simp
  have e1 : (spr (folL g h) s 0)[0] = h := by
    have : (spr (folL g h) s 0)[0]? = some h := by rw [e0, hr]; rfl
    rw [List.getElem?_eq_getElem h2] at this
    exact Option.some.inj this
  have hf : folL g h h = [] := by unfold folL; rw [if_pos rfl]
  rw [spr_step h2, e1, hf, stepL_nil, e0]

theorem spr_head {g : List Bl} {h : Nat} {s : List Nat} (hs : s.Nodup) (hh : ∃ r, s = h :: r) (k : Nat) : ∃ r, spr (folL g h) s k = h :: r := by
  obtain ⟨r, rfl⟩ := hh
  have e0 : spr (folL g h) (h :: r) 0 = h :: r := stepL_self hs
  obtain ⟨q, hq⟩ := spr_prefixes (folL g h) (h :: r) 0 k
  rw [Nat.zero_add, e0] at hq
  exact ⟨r ++ q, hq.symm⟩

/-- The same blocks make the same loop. -/
theorem srt_spread {g : List Bl} (hv : validB g = true) {h : Nat} (hh : h < g.length) : srt g (spread (folL g h) (tameS g h (jumpL g backK)) g.length) g.length = loopL g h := by
  have hs : ∀ t ∈ tameS g h (jumpL g backK), t < g.length := tameS_lt hh fun j hj => (jumpL_lt hv hj).1
  have hs2 : ∀ t ∈ srcL g tameK h ++ [h], t < g.length := fun t ht => hs t ((mem_tameS hv).2 ht)
  have hf : ∀ i, i < g.length → ∀ t ∈ folL g h i, t < g.length := fun i _ => folL_lt h i
  unfold loopL srt
  refine List.filter_congr fun x _ => ?_
  rw [decide_eq_decide, mem_spread hs hf, mem_spread hs2 hf]
  exact found_same fun x => mem_tameS hv

set_option maxRecDepth 100000 in
set_option maxHeartbeats 6400000 in
theorem l4Loop_any (A : Option Addr) (cap : Nat) (g : List Bl) (nm : ByteArray) (h : Nat) (w : World) (hg : Gr w A g) (hn : g.length + tot g ≤ 1048576) (hv : validB g = true) (hr : Rch g [] h) (hnm : nm = nthName g h) :
    Calls Tryz.prog 55 #[.slice A g.length cap, .string nm] w fun e w' => e = .returned (.string (namesAt g (loopL g h))) ∧ Below w.heap.size w w' := by
  have hhl := hr.lt hv
  have h26 := (valid_iff.1 hv).2.1
  have HC := Lib.hid (l4Back_any A cap g w hg (by omega) hv)
  have HRE := Lib.hid (fun w' (k : Gr w' A g) => l1Reached_any A cap g w' k hn hv)
  have hLl := jumpL_len hv backK
  have HLT := Lib.hid (fun j (hj : j ∈ jumpL g backK) => jumpL_lt hv hj)
  have HEND := Lib.hid (srt_spread hv hhl)
  obtain ⟨L, hL⟩ : ∃ L, L = jumpL g backK := ⟨_, rfl⟩
  rw [← hL] at HC hLl HLT HEND
  obtain ⟨ro, hro⟩ : ∃ ro, ro = namesAt g (reachS g) := ⟨_, rfl⟩
  rw [← hro] at HRE
  have hrl : ∀ i ∈ reachS g, i < g.length := fun i hi => ((mem_reachS' hv).1 hi).lt hv
  have hros : ro.size ≤ 26 := by rw [hro, namesAt_size hv _ hrl]; exact reachS_small hv
  have HRO := Lib.hid hro
  have HRL := Lib.hid hrl
  have HG := Lib.hid hg
  have HV := Lib.hid hv
  have HNM := Lib.hid hnm
  clear hg hv hL hro hrl hnm
  go_enter Tryz.func55, Tryz.ntmps55
  go_wp2_with fail
  refine HC.out.mono ?_
  rintro e w1 ⟨v, rfl, hown, b1⟩
  obtain ⟨A2, cap2, rfl, -⟩ := own_strs hown
  have hlm : (L.map (jt g)).length = L.length := List.length_map _
  have HLW1 := Lib.hid hown
  have HB1 := Lib.hid b1
  clear b1 hown
  go_wp2_with fail
  go_loopw [5, 16] (fun sv iv wr => ∃ (k : Nat) (out : ByteArray), k ≤ L.length ∧ iv = .int .i64 k ∧ sv = .string out ∧ out.size ≤ 26 ∧ Hid (out = namesAt g (tameS g h (L.take k))) ∧ Hid (OwnStr wr w.heap.size (.slice A2 (L.map (jt g)).length cap2) (L.map (jt g))) ∧ Hid (Below w.heap.size w wr)) (fun _ iv _ => L.length - (intOf iv).toNat)
  case atStart => exact ⟨0, nm, Nat.zero_le _, rfl, rfl, by rw [HNM.out, one_size HV.out hhl]; omega, (show nm = namesAt g (tameS g h (L.take 0)) by rw [HNM.out]; exact (namesAt_one g h).symm), HLW1.out, HB1.out⟩
  case round =>
    obtain ⟨k, out, hk, rfl, rfl, hoz, HO, HLW, HB⟩ := hrel
    have HSL := Lib.hid (show ∀ x ∈ tameS g h (L.take k), x < g.length from tameS_lt hhl fun j hj => (HLT.out j ((List.take_subset _ _) hj)).1)
    by_cases hlt : k < L.length
    · obtain ⟨b, off, rfl, hb, hc⟩ := HLW.out.strs (by omega)
      have x0 := hc k (by omega)
      obtain ⟨j, hj⟩ : ∃ j, j = L[k] := ⟨_, rfl⟩
      obtain ⟨txt, htx⟩ : ∃ txt, txt = jt g j := ⟨_, rfl⟩
      have hget : (L.map (jt g))[k]'(by omega) = txt := by rw [List.getElem_map, htx, hj]
      rw [hget] at x0
      obtain ⟨h1, h2⟩ := HLT.out j (hj ▸ List.getElem_mem hlt)
      obtain ⟨hz, e1, e2⟩ := jt_parts HV.out h1 h2
      rw [← htx] at hz e1 e2
      have l2 : (1 : Int) ≤ txt.size := by omega
      have l0 : 0 < txt.size := by omega
      have l0' : (0 : Int) < txt.size := by omega
      have HST := Lib.hid (tameS_take g h hlt)
      rw [← hj] at HST
      have hez : (txt.extract 0 1).size = 1 := by rw [e1]; exact one_size HV.out h1
      have hez2 : out.size + (txt.extract 0 1).size ≤ 1048576 := by omega
      have hb0 : g[j.1].1 = ⟨#[txt[0]]⟩ := by
        have q := ex_byte txt (a := 0) (b := 1) (by omega) (by omega) (by omega)
        rw [← nthName_at h1, ← e1, q]
      obtain ⟨q, hq⟩ : ∃ q, q = Lib.indexByte out.data.toList txt[0] := ⟨_, rfl⟩
      have hqm : 0 ≤ q ↔ j.1 ∈ tameS g h (L.take k) := by rw [hq, HO.out]; exact idx_namesAt HV.out HSL.out h1 hb0
      have HF : Hid (∀ w, Calls Tryz.prog 53 #[.string out, .int .u8 txt[0].toNat] w fun e w' => e = .returned (.int .i64 q) ∧ w = w') := fun w => by
        rw [hq]; exact find_any out txt[0] w (by omega)
      have HD := Lib.hid (l3Dominates_any A cap g nm (txt.extract 0 1) h j.1 wr (HG.out.below HB.out) (by omega) HV.out hhl h1 HNM.out e1)
      have HE1 := Lib.hid e1
      have HE2 := Lib.hid e2
      have HJ1 := Lib.hid h1
      have HJ2 := Lib.hid h2
      clear hc hb hget htx hj e1 e2 h1 h2 hb0 hq
      by_cases hjh : j.2 = h
      · have t1 : ((txt.extract 1 2).toList == nm.toList) = true := by rw [HE2.out, HNM.out, hjh]; simp
        by_cases hin : j.1 ∈ tameS g h (L.take k)
        · have t2 : decide (q < 0) = false := by have := hqm.2 hin; simp; omega
          have HS2 := Lib.hid (show out = namesAt g (tameS g h (L.take (k + 1))) by
            rw [HST.out, HO.out]; unfold tameF; rw [if_neg fun c => c.2.1 hin])
          clear hqm hin hjh
          go_wp2_with fail
          refine (HF.out _).mono ?_
          rintro e w3 ⟨rfl, rfl⟩
          go_wp2_with fail
          go_roundw
          case rel => exact ⟨k + 1, out, by omega, by go_num, rfl, hoz, HS2.out, HLW.out, HB.out⟩
          case measure => simp [intOf]; omega
        · have t2 : decide (q < 0) = true := by
            have : ¬ 0 ≤ q := fun c => hin (hqm.1 c)
            simp; omega
          cases hd : dmB g h j.1 with
          | true =>
            rw [hd] at HD
            have hS : tameS g h (L.take (k + 1)) = tameS g h (L.take k) ++ [j.1] := by rw [HST.out]; unfold tameF; rw [if_pos ⟨hjh, hin, hd⟩]
            have HS2 := Lib.hid (show out ++ txt.extract 0 1 = namesAt g (tameS g h (L.take (k + 1))) by
              rw [hS, namesAt_append, namesAt_one, ← HO.out, HE1.out])
            have hsz2 : (out ++ txt.extract 0 1).size ≤ 26 := by
              have hl3 : ∀ x ∈ tameS g h (L.take (k + 1)), x < g.length := tameS_lt hhl fun j hj => (HLT.out j ((List.take_subset _ _) hj)).1
              rw [HS2.out, namesAt_size HV.out _ hl3]
              have := nodup_lt_len _ _ (tameS_nodup g h (L.take (k + 1))) hl3
              omega
            clear hqm hin hjh hd hS
            go_wp2_with fail
            refine (HF.out _).mono ?_
            rintro e w3 ⟨rfl, rfl⟩
            go_wp2_with fail
            refine HD.out.mono ?_
            rintro e w4 ⟨rfl, b4⟩
            have HB4 := Lib.hid (below_trans_self HB.out b4)
            have HL4 := Lib.hid (own_below HLW.out b4)
            clear b4
            go_wp2_with fail
            go_roundw
            case rel => exact ⟨k + 1, _, by omega, by go_num, rfl, hsz2, HS2.out, HL4.out, HB4.out⟩
            case measure => simp [intOf]; omega
          | false =>
            rw [hd] at HD
            have HS2 := Lib.hid (show out = namesAt g (tameS g h (L.take (k + 1))) by
              rw [HST.out, HO.out]; unfold tameF; rw [if_neg fun c => by rw [hd] at c; exact absurd c.2.2 (by simp)])
            clear hqm hin hjh hd
            go_wp2_with fail
            refine (HF.out _).mono ?_
            rintro e w3 ⟨rfl, rfl⟩
            go_wp2_with fail
            refine HD.out.mono ?_
            rintro e w4 ⟨rfl, b4⟩
            have HB4 := Lib.hid (below_trans_self HB.out b4)
            have HL4 := Lib.hid (own_below HLW.out b4)
            clear b4
            go_wp2_with fail
            go_roundw
            case rel => exact ⟨k + 1, out, by omega, by go_num, rfl, hoz, HS2.out, HL4.out, HB4.out⟩
            case measure => simp [intOf]; omega
      · have t1 : ((txt.extract 1 2).toList == nm.toList) = false := by
          rw [Bool.eq_false_iff]
          intro c
          have := beq_toList.1 c
          rw [HE2.out, HNM.out, nthName_at HJ2.out, nthName_at hhl] at this
          exact hjh (name_inj HV.out HJ2.out hhl this)
        have HS2 := Lib.hid (show out = namesAt g (tameS g h (L.take (k + 1))) by
          rw [HST.out, HO.out]; unfold tameF; rw [if_neg fun c => hjh c.1])
        clear hqm hjh
        go_wp2_with fail
        go_roundw
        case rel => exact ⟨k + 1, out, by omega, by go_num, rfl, hoz, HS2.out, HLW.out, HB.out⟩
        case measure => simp [intOf]; omega
    · obtain ⟨s, hs⟩ : ∃ s, s = tameS g h L := ⟨_, rfl⟩
      have HO0 := Lib.hid (show out = namesAt g s by rw [HO.out, List.take_of_length_le (by omega), hs])
      have hsn : s.Nodup := by rw [hs]; exact tameS_nodup g h L
      have hsh : ∃ r, s = h :: r := by rw [hs]; exact tameS_head g h L
      have hsl : ∀ x ∈ s, x < g.length := by rw [hs]; exact tameS_lt hhl fun j hj => (HLT.out j hj).1
      have hfl : ∀ i, i < g.length → ∀ t ∈ folL g h i, t < g.length := fun i _ => folL_lt h i
      rw [← hs] at HEND
      have HSN := Lib.hid hsn
      have HSH := Lib.hid hsh
      have HSLL := Lib.hid hsl
      have HFL := Lib.hid hfl
      have h1s : spr (folL g h) s 1 = s := spr_one hsn hsh
      have H1S := Lib.hid h1s
      have hs1 : 1 ≤ s.length := by obtain ⟨r, hr⟩ := hsh; rw [hr]; simp
      have HR1 := Lib.hid (HRE.out wr (HG.out.below HB.out))
      clear hs hsn hsh hsl hfl h1s HLW HO HSL
      go_wp2_with fail
      refine HR1.out.mono ?_
      rintro e w5 ⟨rfl, b5⟩
      have HB5 := Lib.hid (below_trans_self HB.out b5)
      clear b5
      go_wp2_with fail
      go_loopw [5, 9] (fun sv iv wr => ∃ (k : Nat) (out : ByteArray), 1 ≤ k ∧ k ≤ (spr (folL g h) s k).length ∧ iv = .int .i64 k ∧ sv = .string out ∧ Hid (out = namesAt g (spr (folL g h) s k)) ∧ Hid (Below w.heap.size w wr)) (fun _ iv _ => g.length - (intOf iv).toNat)
      case atStart => exact ⟨1, out, Nat.le_refl _, by rw [H1S.out]; exact hs1, rfl, rfl, (show out = namesAt g (spr (folL g h) s 1) by rw [H1S.out]; exact HO0.out), HB5.out⟩
      case round =>
        obtain ⟨k, out, hk1, hkl, rfl, rfl, HO, HB⟩ := hrel
        have hlen := spr_len (s := s) HSLL.out HFL.out k
        have hol := spr_lt (s := s) HSLL.out HFL.out k
        have hoz : out.size = (spr (folL g h) s k).length := by rw [HO.out]; exact namesAt_size HV.out _ hol
        have hoz2 : out.size ≤ 26 := by omega
        have HOL := Lib.hid hol
        clear hol
        by_cases hlt : k < out.size
        · have hlt' : k < (spr (folL g h) s k).length := by omega
          obtain ⟨x, hx⟩ : ∃ x, x = (spr (folL g h) s k)[k] := ⟨_, rfl⟩
          have hxl : x < g.length := HOL.out x (hx ▸ List.getElem_mem hlt')
          have hxh : x ≠ h := fun e => by
            obtain ⟨r, hrr⟩ := spr_head (g := g) HSN.out HSH.out k
            have e0 : (spr (folL g h) s k)[0]'(by omega) = h := by
              have : (spr (folL g h) s k)[0]? = some h := by rw [hrr]; rfl
              rw [List.getElem?_eq_getElem (by omega)] at this
              exact Option.some.inj this
            have hnd := spr_nodup (folL g h) s k
            have e3 : (spr (folL g h) s k)[k] = (spr (folL g h) s k)[0]'(by omega) := by rw [← hx, e, e0]
            have := (List.getElem_inj hnd).1 e3
            omega
          obtain ⟨_, hcut⟩ := namesAt_cut HV.out HOL.out hlt'
          have hex : out.extract k (k + 1) = ⟨#[letC g x]⟩ := by
            rw [HO.out, hcut, ← letC_name HV.out hxl]; congr 2; exact hx.symm
          have HST := Lib.hid (show spr (folL g h) s (k + 1) = stepL (spr (folL g h) s k) ((prevN g x g.length).filter fun i => decide (i ∈ reachS g)) by
            rw [spr_step hlt', ← hx, prev_live]; unfold folL; rw [if_neg hxh])
          have hk1' : k + 1 ≤ out.size := by omega
          obtain ⟨pv, hpv⟩ : ∃ pv, pv = namesAt g (prevN g x g.length) := ⟨_, rfl⟩
          have hpl := prevN_lt (g := g) (u := x) (Nat.le_refl g.length)
          have hpz : pv.size = (prevN g x g.length).length := by rw [hpv]; exact namesAt_size HV.out _ hpl
          have hpz2 : pv.size ≤ 26 := by
            have : (prevN g x g.length).length ≤ g.length := by
              have := List.length_filter_le (fun j => decide (x ∈ nxt g j)) (List.range g.length)
              rw [List.length_range] at this
              exact this
            omega
          have HP := Lib.hid (l1Prev_any A cap g (letC g x) wr (HG.out.below HB.out) hn)
          have hpa : prevs g ⟨#[letC g x]⟩ = pv := by rw [hpv, ← prevs_all HV.out hxl, letC_name HV.out hxl]
          rw [hpa, ← hex] at HP
          have HPV := Lib.hid hpv
          have HPL := Lib.hid hpl
          clear hcut hex hx hxh hpv hpl hpa
          go_wp2_with fail
          refine HP.out.mono ?_
          rintro e w6 ⟨rfl, b6⟩
          have HB6 := Lib.hid (below_trans_self HB.out b6)
          clear b6
          go_wp2_with fail
          go_loop [5, 60] (fun sv iv => ∃ (p : Nat) (o2 : ByteArray), p ≤ pv.size ∧ iv = .int .i64 p ∧ sv = .string o2 ∧ Hid (o2 = namesAt g (stepL (spr (folL g h) s k) (((prevN g x g.length).take p).filter fun i => decide (i ∈ reachS g))))) (fun _ iv => pv.size - (intOf iv).toNat)
          case atStart => exact ⟨0, out, Nat.zero_le _, rfl, rfl, (show out = namesAt g (stepL (spr (folL g h) s k) (((prevN g x g.length).take 0).filter fun i => decide (i ∈ reachS g))) by rw [HO.out]; simp [stepL_nil])⟩
          case round =>
            obtain ⟨p, o2, hp, rfl, rfl, HO2⟩ := hrel
            obtain ⟨T, hT⟩ : ∃ T, T = stepL (spr (folL g h) s k) (((prevN g x g.length).take p).filter fun i => decide (i ∈ reachS g)) := ⟨_, rfl⟩
            have hTn : T.Nodup := by rw [hT]; exact stepL_nodup _ _ (spr_nodup (folL g h) s k)
            have hTl : ∀ y ∈ T, y < g.length := fun y hy => by
              rw [hT, stepL_mem] at hy
              rcases hy with hy | hy
              · exact HOL.out y hy
              · exact HPL.out y ((List.take_subset _ _) (List.mem_filter.1 hy).1)
            have ho2 : o2 = namesAt g T := by rw [HO2.out, hT]
            have ho2z : o2.size ≤ 26 := by
              rw [ho2, namesAt_size HV.out _ hTl]
              have := nodup_lt_len _ _ hTn hTl
              omega
            by_cases hpl : p < pv.size
            · have hpl' : p < (prevN g x g.length).length := by omega
              obtain ⟨y, hy⟩ : ∃ y, y = (prevN g x g.length)[p] := ⟨_, rfl⟩
              have hyl : y < g.length := HPL.out y (hy ▸ List.getElem_mem hpl')
              obtain ⟨_, hk', hby⟩ := namesAt_byte HV.out HPL.out hpl'
              have hby2 : g[y].1 = ⟨#[pv[p]]⟩ := by
                have e9 : g[y].1 = (g[(prevN g x g.length)[p]]'(by rw [← hy]; exact hyl)).1 := by congr 2
                rw [e9, hby]
                congr 3
                have := HPV.out
                subst this; rfl
              have hpy : pv.extract p (p + 1) = nthName g y := by rw [ex_byte _ (a := p) (b := p + 1) (by omega) (by omega) (by omega), nthName_at hyl, hby2]
              have hpyz : (pv.extract p (p + 1)).size = 1 := by rw [hpy]; exact one_size HV.out hyl
              have hp1 : p + 1 ≤ pv.size := by omega
              have hoo : o2.size + (pv.extract p (p + 1)).size ≤ 1048576 := by omega
              obtain ⟨q1, hq1⟩ : ∃ q, q = Lib.indexByte o2.data.toList pv[p] := ⟨_, rfl⟩
              obtain ⟨q2, hq2⟩ : ∃ q, q = Lib.indexByte ro.data.toList pv[p] := ⟨_, rfl⟩
              have hm1 : 0 ≤ q1 ↔ y ∈ T := by rw [hq1, ho2]; exact idx_namesAt HV.out hTl hyl hby2
              have hm2 : 0 ≤ q2 ↔ y ∈ reachS g := by rw [hq2, HRO.out]; exact idx_namesAt HV.out HRL.out hyl hby2
              have HF1 : Hid (∀ w, Calls Tryz.prog 53 #[.string o2, .int .u8 pv[p].toNat] w fun e w' => e = .returned (.int .i64 q1) ∧ w = w') := fun w => by
                rw [hq1]; exact find_any o2 pv[p] w (by omega)
              have HF2 : Hid (∀ w, Calls Tryz.prog 53 #[.string ro, .int .u8 pv[p].toNat] w fun e w' => e = .returned (.int .i64 q2) ∧ w = w') := fun w => by
                rw [hq2]; exact find_any ro pv[p] w (by omega)
              have HFT := Lib.hid (filter_take (p := fun i => decide (i ∈ reachS g)) hpl')
              rw [← hy] at HFT
              have HT := Lib.hid hT
              have HO3 := Lib.hid ho2
              have HPY := Lib.hid hpy
              clear hy hby hby2 hpy hq1 hq2 hT hTn hTl ho2
              by_cases hyT : y ∈ T
              · have t1 : decide (q1 < 0) = false := by have := hm1.2 hyT; simp; omega
                have HS3 := Lib.hid (show o2 = namesAt g (stepL (spr (folL g h) s k) (((prevN g x g.length).take (p + 1)).filter fun i => decide (i ∈ reachS g))) by
                  rw [HFT.out]
                  by_cases hyr : y ∈ reachS g
                  · rw [if_pos (by simpa using hyr), stepL_snoc, ← HT.out, if_pos hyT, HO3.out]
                  · rw [if_neg (by simpa using hyr), List.append_nil, ← HT.out, HO3.out])
                clear hm1 hm2 hyT
                go_wp2_with fail
                refine (HF1.out _).mono ?_
                rintro e w7 ⟨rfl, rfl⟩
                go_wp2_with fail
                go_round
                case rel => exact ⟨p + 1, o2, by omega, by go_num, rfl, HS3.out⟩
                case measure => simp [intOf]; omega
              · have t1 : decide (q1 < 0) = true := by
                  have : ¬ 0 ≤ q1 := fun c => hyT (hm1.1 c)
                  simp; omega
                by_cases hyr : y ∈ reachS g
                · have t2 : decide (0 ≤ q2) = true := by simpa using hm2.2 hyr
                  have HS3 := Lib.hid (show o2 ++ pv.extract p (p + 1) = namesAt g (stepL (spr (folL g h) s k) (((prevN g x g.length).take (p + 1)).filter fun i => decide (i ∈ reachS g))) by
                    rw [HFT.out, if_pos (by simpa using hyr), stepL_snoc, ← HT.out, if_neg hyT, namesAt_append, namesAt_one, HO3.out, HPY.out])
                  clear hm1 hm2 hyT hyr
                  go_wp2_with fail
                  refine (HF1.out _).mono ?_
                  rintro e w7 ⟨rfl, rfl⟩
                  go_wp2_with fail
                  refine (HF2.out _).mono ?_
                  rintro e w7 ⟨rfl, rfl⟩
                  go_wp2_with fail
                  go_round
                  case rel => exact ⟨p + 1, _, by omega, by go_num, rfl, HS3.out⟩
                  case measure => simp [intOf]; omega
                · have t2 : decide (0 ≤ q2) = false := by
                    have : ¬ 0 ≤ q2 := fun c => hyr (hm2.1 c)
                    simpa using this
                  have HS3 := Lib.hid (show o2 = namesAt g (stepL (spr (folL g h) s k) (((prevN g x g.length).take (p + 1)).filter fun i => decide (i ∈ reachS g))) by
                    rw [HFT.out, if_neg (by simpa using hyr), List.append_nil, ← HT.out, HO3.out])
                  clear hm1 hm2 hyT hyr
                  go_wp2_with fail
                  refine (HF1.out _).mono ?_
                  rintro e w7 ⟨rfl, rfl⟩
                  go_wp2_with fail
                  refine (HF2.out _).mono ?_
                  rintro e w7 ⟨rfl, rfl⟩
                  go_wp2_with fail
                  go_round
                  case rel => exact ⟨p + 1, o2, by omega, by go_num, rfl, HS3.out⟩
                  case measure => simp [intOf]; omega
            · have HE := Lib.hid (show o2 = namesAt g (spr (folL g h) s (k + 1)) by
                rw [HST.out, HO2.out, List.take_of_length_le (by omega)])
              have hle : k + 1 ≤ (spr (folL g h) s (k + 1)).length := by
                have := (spr_prefix (folL g h) s k).length_le; omega
              clear hT hTn hTl ho2
              go_wp2_with fail
              go_roundw
              case rel => exact ⟨k + 1, o2, by omega, hle, by go_num, rfl, HE.out, HB6.out⟩
              case measure => simp [intOf]; omega
        · have hsp : spr (folL g h) s k = spread (folL g h) s g.length := spread_done (by omega) (by omega)
          have HS := Lib.hid (l1Sorted_any A cap g (spr (folL g h) s k) out wr (HG.out.below HB.out) hn HV.out HOL.out HO.out (by omega))
          rw [hsp, HEND.out] at HS
          clear hsp
          go_wp2_with fail
          refine HS.out.mono ?_
          rintro e w7 ⟨rfl, b7⟩
          have HB7 := Lib.hid (below_trans_self HB.out b7)
          clear b7
          go_wp2_with fail
          go_ret
          exact ⟨rfl, HB7.out⟩
end Go.Proofs.YtdolbmonmkjajaaGreat

/-
  Contracts of the model's LoopOf and DepthIn.
-/
namespace Go.Proofs.YtdolbmonmkjajaaGreat
open Go.RowKit Go.Sort

set_option maxRecDepth 100000 in
set_option maxHeartbeats 2000000 in
theorem specLoopOf_any (A : Option Addr) (cap : Nat) (g : List Bl) (s : ByteArray) (w : World) (hg : Gr w A g) (hn : g.length + tot g ≤ 1048576) (hcap : g.length ≤ cap) :
    Calls Tryz.prog 14 #[.slice A g.length cap, .string s] w fun e w' => e = .returned (.tuple #[.string (loopV g s), .bool (loopB g s)]) ∧ Below w.heap.size w w' := by
  have cG : ∀ d os, Calls Tryz.prog 51 #[.slice A g.length cap] (grow (redrawn w d) os) fun e w'' => e = .returned (.bool (validB g)) ∧ ∃ p : Regrown, w'' = grow (redrawn w p.d) p.os := fun d os =>
    Calls.regrown_of (specValid_any A cap g _ (gr_grown hg d os) hn hcap)
  have cI : ∀ d os, Calls Tryz.prog 52 #[.slice A g.length cap, .string s] (grow (redrawn w d) os) fun e w'' => e = .returned (.int .i64 (idxInt (posOf g s))) ∧ ∃ p : Regrown, w'' = grow (redrawn w p.d) p.os := fun d os =>
    Calls.regrown_of (index_any A cap g s _ (gr_grown hg d os) (by omega))
  have HG := Lib.hid hg
  cases hv : validB g with
  | false =>
    rw [hv] at cG
    have HR := Lib.hid (headOf_no (s := s) hv)
    clear hv hg
    go_enter Tryz.func14, Tryz.ntmps14
    go_wp2_with fail
    refine wp_region_quiet_below (by kernel_rfl) (by kernel_rfl) ?_
    repeat (any_goals (first | go_big_quiet_step (with_reducible exact cG _ _) | quiet_step (with_reducible exact cG _ _)))
    all_goals (refine wpQuiet_nil ?_; intro _ hw'; obtain ⟨⟨dq, osq⟩, hw''⟩ := hw'; subst hw'')
    have hb3 := below_regrown w dq osq
    generalize grow (redrawn w dq) osq = w3 at hb3 ⊢
    clear cG cI
    go_wp2_with fail
    go_ret2
    exact ⟨ret_tsb (loopV_none HR.out).symm (loopB_none HR.out).symm, hb3⟩
  | true =>
    rw [hv] at cG
    cases hp : posOf g s with
    | none =>
      rw [hp] at cI
      have cI2 : ∀ d os, Calls Tryz.prog 52 #[.slice A g.length cap, .string s] (grow (redrawn w d) os) fun e w'' => e = .returned (.int .i64 (-1)) ∧ ∃ p : Regrown, w'' = grow (redrawn w p.d) p.os := cI
      have HR := Lib.hid (headOf_none hp)
      clear hv hg hp cI
      go_enter Tryz.func14, Tryz.ntmps14
      go_wp2_with fail
      refine wp_region_quiet_below (by kernel_rfl) (by kernel_rfl) ?_
      repeat (any_goals (first | go_big_quiet_step (first | with_reducible exact cG _ _ | with_reducible exact cI2 _ _) | quiet_step (first | with_reducible exact cG _ _ | with_reducible exact cI2 _ _)))
      all_goals (refine wpQuiet_nil ?_; intro _ hw'; obtain ⟨⟨dq, osq⟩, hw''⟩ := hw'; subst hw'')
      have hb3 := below_regrown w dq osq
      generalize grow (redrawn w dq) osq = w3 at hb3 ⊢
      clear cG cI2
      go_wp2_with fail
      go_ret2
      exact ⟨ret_tsb (loopV_none HR.out).symm (loopB_none HR.out).symm, hb3⟩
    | some i =>
      obtain ⟨hi, hnm⟩ := posOf_is hp
      obtain ⟨c, hc, _⟩ := valid_one hv (List.getElem_mem hi)
      have hsc : s = ⟨#[c]⟩ := by rw [← hnm, hc]
      have hs1 : s.size = 1 := by rw [hsc]; rfl
      have l0 : 0 < s.size := by omega
      rw [hp] at cI
      have cI2 : ∀ d os, Calls Tryz.prog 52 #[.slice A g.length cap, .string s] (grow (redrawn w d) os) fun e w'' => e = .returned (.int .i64 (i : Int)) ∧ ∃ p : Regrown, w'' = grow (redrawn w p.d) p.os := cI
      obtain ⟨rs, hrs⟩ : ∃ rs, rs = namesAt g (headL g) := ⟨_, rfl⟩
      have hrz : rs.size ≤ 26 := by rw [hrs, namesAt_size hv _ head_lt]; exact head_small hv
      have cR : ∀ d os, Calls Tryz.prog 54 #[.slice A g.length cap] (grow (redrawn w d) os) fun e w'' => e = .returned (.string rs) ∧ ∃ p : Regrown, w'' = grow (redrawn w p.d) p.os := fun d os => by
        have := l4Headers_any A cap g _ (gr_grown hg d os) hn hv
        rw [← hrs] at this
        exact Calls.regrown_of this
      obtain ⟨z, hz⟩ : ∃ z, z = Lib.indexByte rs.data.toList c := ⟨_, rfl⟩
      have cF : ∀ d os, Calls Tryz.prog 53 #[.string rs, .int .u8 (s[0]'l0).toNat] (grow (redrawn w d) os) fun e w'' => e = .returned (.int .i64 z) ∧ ∃ p : Regrown, w'' = grow (redrawn w p.d) p.os := fun d os => by
        have := same_grown (find_any rs c (grow (redrawn w d) os) (by omega))
        rw [← hz] at this
        rw [one_get' hsc l0]
        exact this
      have hzi : 0 ≤ z ↔ i ∈ headL g := by rw [hz, hrs]; exact idx_namesAt hv head_lt hi hc
      have qi : decide ((i : Int) < 0) = false := decide_eq_false (by omega)
      by_cases hr : i ∈ headL g
      · have q0 : decide (z < 0) = false := by have := hzi.2 hr; simp; omega
        have HR := Lib.hid (headOf_some hv hp hr)
        have HL := Lib.hid (fun w' (h : Gr w' A g) => l4Loop_any A cap g s i w' h hn hv (head_live hv hr) (by rw [nthName_at hi, hnm]))
        clear hv hg hp cI hnm hc hsc hrs hz hzi hr
        go_enter Tryz.func14, Tryz.ntmps14
        go_wp2_with fail
        refine wp_region_quiet_below (by kernel_rfl) (by kernel_rfl) ?_
        repeat (any_goals (first | go_big_quiet_step (first | with_reducible exact cG _ _ | with_reducible exact cI2 _ _ | with_reducible exact cR _ _ | with_reducible exact cF _ _) | quiet_step (first | with_reducible exact cG _ _ | with_reducible exact cI2 _ _ | with_reducible exact cR _ _ | with_reducible exact cF _ _)))
        all_goals (refine wpQuiet_nil ?_; intro _ hw'; obtain ⟨⟨dq, osq⟩, hw''⟩ := hw'; subst hw'')
        have hb3 := below_regrown w dq osq
        generalize grow (redrawn w dq) osq = w3 at hb3 ⊢
        clear cG cI2 cR cF
        go_wp2_with fail
        refine (HL.out w3 (HG.out.below hb3)).mono ?_
        rintro e w4 ⟨rfl, b4⟩
        go_wp2_with fail
        go_ret2
        exact ⟨ret_tsb (loopV_some HR.out).symm (loopB_some HR.out).symm, below_trans_self hb3 b4⟩
      · have q0 : decide (z < 0) = true := by
          have h : ¬ 0 ≤ z := fun h => hr (hzi.1 h)
          simp; omega
        have HR := Lib.hid (headOf_out hp hr)
        clear hv hg hp cI hnm hc hsc hrs hz hzi hr
        go_enter Tryz.func14, Tryz.ntmps14
        go_wp2_with fail
        refine wp_region_quiet_below (by kernel_rfl) (by kernel_rfl) ?_
        repeat (any_goals (first | go_big_quiet_step (first | with_reducible exact cG _ _ | with_reducible exact cI2 _ _ | with_reducible exact cR _ _ | with_reducible exact cF _ _) | quiet_step (first | with_reducible exact cG _ _ | with_reducible exact cI2 _ _ | with_reducible exact cR _ _ | with_reducible exact cF _ _)))
        all_goals (refine wpQuiet_nil ?_; intro _ hw'; obtain ⟨⟨dq, osq⟩, hw''⟩ := hw'; subst hw'')
        have hb3 := below_regrown w dq osq
        generalize grow (redrawn w dq) osq = w3 at hb3 ⊢
        clear cG cI2 cR cF
        go_wp2_with fail
        go_ret2
        exact ⟨ret_tsb (loopV_none HR.out).symm (loopB_none HR.out).symm, hb3⟩

set_option maxRecDepth 100000 in
set_option maxHeartbeats 2000000 in
theorem specDepth_any (A : Option Addr) (cap : Nat) (g : List Bl) (s : ByteArray) (w : World) (hg : Gr w A g) (hn : g.length + tot g ≤ 1048576) (hcap : g.length ≤ cap) :
    Calls Tryz.prog 18 #[.slice A g.length cap, .string s] w fun e w' => e = .returned (.int .i64 (depthV g s)) ∧ Below w.heap.size w w' := by
  have HC := Lib.hid (l3Live_any A cap g s w hg hn hcap)
  cases hl : liveOf g s with
  | none =>
    rw [hl] at HC
    have HC2 : Hid (Calls Tryz.prog 63 #[.slice A g.length cap, .string s] w fun e w' => e = .returned (.int .i64 (-1)) ∧ Below w.heap.size w w') := HC
    have HR := Lib.hid (depthV_none hl)
    clear hg hl HC
    go_enter Tryz.func18, Tryz.ntmps18
    go_wp2_with fail
    refine HC2.out.mono ?_
    rintro e w1 ⟨rfl, b1⟩
    have HB1 := Lib.hid b1
    clear b1
    go_wp2_with fail
    go_ret
    exact ⟨ret_int HR.out.symm, HB1.out⟩
  | some n =>
    rw [hl] at HC
    have HC2 : Hid (Calls Tryz.prog 63 #[.slice A g.length cap, .string s] w fun e w' => e = .returned (.int .i64 (n : Int)) ∧ Below w.heap.size w w') := HC
    have HR := Lib.hid (depthV_some hl)
    obtain ⟨hv, hp, _⟩ := liveOf_is hl
    obtain ⟨hi, hnm⟩ := posOf_is hp
    obtain ⟨c, hc, _⟩ := valid_one hv (List.getElem_mem hi)
    have hsc : s = ⟨#[c]⟩ := by rw [← hnm, hc]
    have hs1 : s.size = 1 := by rw [hsc]; rfl
    have l0 : 0 < s.size := by omega
    have l0' : (0 : Int) < s.size := by omega
    have l00 := one_get' hsc l0
    have q9 : decide ((n : Int) < 0) = false := decide_eq_false (by omega)
    have HH := Lib.hid (fun w' (h : Gr w' A g) => l4Headers_any A cap g w' h hn hv)
    obtain ⟨o, ho⟩ : ∃ o, o = namesAt g (headL g) := ⟨_, rfl⟩
    rw [← ho] at HH
    have hoz : o.size = (headL g).length := by rw [ho, namesAt_size hv _ head_lt]
    have hos : o.size ≤ 26 := by rw [hoz]; exact head_small hv
    have HOO := Lib.hid ho
    have HOZ := Lib.hid hoz
    have HG := Lib.hid hg
    have HV := Lib.hid hv
    have HCC := Lib.hid hc
    have L00 := Lib.hid l00
    clear hg hl HC hv hp hnm hc hsc ho hoz l00
    go_enter Tryz.func18, Tryz.ntmps18
    go_wp2_with fail
    refine HC2.out.mono ?_
    rintro e w1 ⟨rfl, b1⟩
    have HB1 := Lib.hid b1
    have HH1 := Lib.hid (HH.out w1 (HG.out.below b1))
    clear b1
    go_wp2_with fail
    refine HH1.out.mono ?_
    rintro e w2 ⟨rfl, b2⟩
    have HB2 := Lib.hid (below_trans_self HB1.out b2)
    clear b2
    go_wp2_with fail
    go_loopw [5, 16] (fun dv iv wr => ∃ (k d : Nat), k ≤ o.size ∧ iv = .int .i64 k ∧ dv = .int .i64 d ∧ d ≤ k ∧ Hid (d = ((headL g).take k).countP fun h => decide (n ∈ loopL g h)) ∧ Hid (Below w.heap.size w wr)) (fun _ iv _ => o.size - (intOf iv).toNat)
    case atStart => exact ⟨0, 0, Nat.zero_le _, rfl, rfl, Nat.le_refl _, (show 0 = ((headL g).take 0).countP fun h => decide (n ∈ loopL g h) by simp), HB2.out⟩
    case round =>
      obtain ⟨k, d, hk, rfl, rfl, hdk, HD, HB⟩ := hrel
      by_cases hlt : k < o.size
      · have hlt' : k < (headL g).length := by rw [← HOZ.out]; exact hlt
        obtain ⟨h, hh⟩ : ∃ h, h = (headL g)[k] := ⟨_, rfl⟩
        have hhm : h ∈ headL g := hh ▸ List.getElem_mem hlt'
        have hhl : h < g.length := head_lt h hhm
        obtain ⟨_, hcut⟩ := namesAt_cut HV.out head_lt hlt'
        have hex : o.extract k (k + 1) = nthName g h := by rw [HOO.out, hcut, nthName_at hhl]; congr 2; exact hh.symm
        have hk1 : k + 1 ≤ o.size := by omega
        have hga := HG.out.below HB.out
        obtain ⟨lp, hlp⟩ : ∃ lp, lp = namesAt g (loopL g h) := ⟨_, rfl⟩
        have hlz : lp.size ≤ 26 := by rw [hlp, namesAt_size HV.out _ (loopL_lt h)]; exact loop_small HV.out h
        have cL : ∀ d os, Calls Tryz.prog 55 #[.slice A g.length cap, .string (o.extract k (k + 1))] (grow (redrawn wr d) os) fun e w'' => e = .returned (.string lp) ∧ ∃ p : Regrown, w'' = grow (redrawn wr p.d) p.os := fun d os => by
          have := l4Loop_any A cap g (o.extract k (k + 1)) h (grow (redrawn wr d) os) (gr_grown hga d os) hn HV.out (head_live HV.out hhm) hex
          rw [← hlp] at this
          exact Calls.regrown_of this
        obtain ⟨z, hz⟩ : ∃ z, z = Lib.indexByte lp.data.toList c := ⟨_, rfl⟩
        have cF : ∀ d os, Calls Tryz.prog 53 #[.string lp, .int .u8 (s[0]'l0).toNat] (grow (redrawn wr d) os) fun e w'' => e = .returned (.int .i64 z) ∧ ∃ p : Regrown, w'' = grow (redrawn wr p.d) p.os := fun d os => by
          have := same_grown (find_any lp c (grow (redrawn wr d) os) (by omega))
          rw [← hz] at this
          rw [L00.out]
          exact this
        have hzi : 0 ≤ z ↔ n ∈ loopL g h := by rw [hz, hlp]; exact idx_namesAt HV.out (loopL_lt h) hi HCC.out
        have HFT := Lib.hid (countP_take (p := fun h => decide (n ∈ loopL g h)) hlt')
        rw [← hh] at HFT
        clear hh hcut hex hlp hz hga
        by_cases hin : n ∈ loopL g h
        · have q1 : decide (0 ≤ z) = true := by simpa using hzi.2 hin
          have HD2 := Lib.hid (show d + 1 = ((headL g).take (k + 1)).countP fun h => decide (n ∈ loopL g h) by rw [HFT.out, if_pos (by simpa using hin), ← HD.out])
          clear hzi hin
          go_wp2_with fail
          refine wp_region_quiet_below (by kernel_rfl) (by kernel_rfl) ?_
          repeat (any_goals (first | go_big_quiet_step (first | with_reducible exact cL _ _ | with_reducible exact cF _ _) | quiet_step (first | with_reducible exact cL _ _ | with_reducible exact cF _ _)))
          all_goals (refine wpQuiet_nil ?_; intro _ hw'; obtain ⟨⟨dq, osq⟩, hw''⟩ := hw'; subst hw'')
          have hb2 := below_regrown wr dq osq
          generalize grow (redrawn wr dq) osq = w2 at hb2 ⊢
          have HB2 := Lib.hid (below_trans_self HB.out hb2)
          clear cL cF hb2
          go_wp2_with fail
          go_roundw
          case rel => exact ⟨k + 1, d + 1, by omega, by go_num, by go_num, by omega, HD2.out, HB2.out⟩
          case measure => simp [intOf]; omega
        · have q1 : decide (0 ≤ z) = false := by
            have : ¬ 0 ≤ z := fun h => hin (hzi.1 h)
            simpa using this
          have HD2 := Lib.hid (show d = ((headL g).take (k + 1)).countP fun h => decide (n ∈ loopL g h) by rw [HFT.out, if_neg (by simpa using hin), ← HD.out]; rfl)
          clear hzi hin
          go_wp2_with fail
          refine wp_region_quiet_below (by kernel_rfl) (by kernel_rfl) ?_
          repeat (any_goals (first | go_big_quiet_step (first | with_reducible exact cL _ _ | with_reducible exact cF _ _) | quiet_step (first | with_reducible exact cL _ _ | with_reducible exact cF _ _)))
          all_goals (refine wpQuiet_nil ?_; intro _ hw'; obtain ⟨⟨dq, osq⟩, hw''⟩ := hw'; subst hw'')
          have hb2 := below_regrown wr dq osq
          generalize grow (redrawn wr dq) osq = w2 at hb2 ⊢
          have HB2 := Lib.hid (below_trans_self HB.out hb2)
          clear cL cF hb2
          go_wp2_with fail
          go_roundw
          case rel => exact ⟨k + 1, d, by omega, by go_num, rfl, by omega, HD2.out, HB2.out⟩
          case measure => simp [intOf]; omega
      · have HE := Lib.hid (show (d : Int) = depthV g s by
          rw [HR.out, HD.out, List.take_of_length_le (by rw [← HOZ.out]; omega)]; rfl)
        go_wp2_with fail
        go_ret
        exact ⟨ret_int HE.out, HB.out⟩
end Go.Proofs.YtdolbmonmkjajaaGreat
