/-
  The law FnRemoved, walked.
-/
import Derived.Test.YtklnhbfpmmdhjaaGreatCutG
import Derived.Test.YtklnhbfpmmdhjaaGreatDominatorsOf
import Derived.Test.YtklnhbfpmmdhjaaGreatDominates
import Derived.Test.YtklnhbfpmmdhjaaGreatReachedOf
import Derived.Test.YtklnhbfpmmdhjaaGreatTot
import Derived.Test.YtklnhbfpmmdhjaaGreatSome
import Derived.Test.YtklnhbfpmmdhjaaGreatLaw
import Derived.Test.YtklnhbfpmmdhjaaGreatDraws
namespace Go.Proofs.YtklnhbfpmmdhjaaGreat
open Go.RowKit Go.Sort

/-- The copy, when the jumps of the first k blocks have been cut. -/
def Half (cs : Array Value) (g : List Bl) (c : UInt8) (k : Nat) : Prop :=
  g.length * 2 ≤ cs.size ∧ ∀ j (h : j < g.length), cs[j * 2]? = some (.string g[j].1) ∧ cs[j * 2 + 1]? = some (.string (if j < k then dropC c g[j].2 else g[j].2))

theorem Half.step {cs : Array Value} {g : List Bl} {c : UInt8} {k : Nat} {s t : ByteArray} (h : Half cs g c k) (hk : k < g.length) (e1 : s = g[k].1) (e2 : t = dropC c g[k].2) :
    Half ((cs.setIfInBounds (k * 2) (.string s)).setIfInBounds (k * 2 + 1) (.string t)) g c (k + 1) := by
  subst e1; subst e2
  refine ⟨by simpa using h.1, fun j hj => ?_⟩
  obtain ⟨h0, h1⟩ := h.2 j hj
  have hsz := h.1
  by_cases e : j = k
  · subst e
    refine ⟨?_, ?_⟩
    · rw [Array.getElem?_setIfInBounds, if_neg (by omega), Array.getElem?_setIfInBounds, if_pos rfl, if_pos (by omega)]
    · rw [Array.getElem?_setIfInBounds, if_pos rfl, if_pos (by simp; omega), if_pos (by omega)]
  · refine ⟨?_, ?_⟩
    · rw [Array.getElem?_setIfInBounds, if_neg (by omega), Array.getElem?_setIfInBounds, if_neg (by omega)]; exact h0
    · rw [Array.getElem?_setIfInBounds, if_neg (by omega), Array.getElem?_setIfInBounds, if_neg (by omega), h1]
      congr 2
      by_cases q : j < k
      · rw [if_pos q, if_pos (by omega)]
      · rw [if_neg q, if_neg (by omega)]

theorem Half.gr {w : World} {B : Nat} {t : TypeId} {cs : Array Value} {g : List Bl} {c : UInt8} (hb : Blk w B t cs) (h : Half cs g c g.length) : Gr w (some ⟨B, 0, none⟩) (cutG c g) := by
  intro _
  refine ⟨B, 0, rfl, hb.lt, fun k hk => ?_⟩
  have hk' : k < g.length := by rw [cutG_length] at hk; exact hk
  obtain ⟨h0, h1⟩ := h.2 k hk'
  rw [if_pos hk'] at h1
  rw [cutG_at c hk', Nat.zero_add]
  exact ⟨(hb.cell _).trans h0, (hb.cell _).trans h1⟩

theorem half_start {w : World} {base : Nat} {v : Value} {g : List Bl} {c : UInt8} (hg : 0 < g.length) (h : w.ownsRow base 37 2 v g.length (cells2 g)) :
    ∃ B cap cs, v = .slice (some ⟨B, 0, none⟩) g.length cap ∧ base ≤ B ∧ Blk w B 37 cs ∧ Half cs g c 0 := by
  rcases h.2 with ⟨_, hn⟩ | ⟨B, cap, cs, hv, hB, hblk, hn, _, hs, ht⟩
  · omega
  · refine ⟨B, cap, cs, hv, hB, hblk, by omega, fun j hj => ?_⟩
    have hget : ∀ i, i < g.length * 2 → cs[i]? = (cells2 g)[i]? := fun i hi => by
      rw [← ht, List.getElem?_take_of_lt hi, Array.getElem?_toList]
    obtain ⟨c0, c1⟩ := cells2_at hj
    rw [hget _ (by omega), hget _ (by omega), c0, c1, if_neg (by omega)]
    exact ⟨rfl, rfl⟩

theorem gr_news {w : World} {b off : Nat} {g : List Bl} (h : ∀ k (h : k < g.length), w.cell? ⟨b, off + k * 2, none⟩ = some (.string g[k].1) ∧ w.cell? ⟨b, off + k * 2 + 1, none⟩ = some (.string g[k].2)) :
    ∀ j u, (cells2 g)[j]? = some u → w.cell? ((⟨b, off, none⟩ : Addr).add j) = some u := by
  intro j u hu
  have hj : j < (cells2 g).length := by
    rcases Nat.lt_or_ge j (cells2 g).length with h' | h'
    · exact h'
    · rw [List.getElem?_eq_none h'] at hu; cases hu
  rw [cells2_length] at hj
  have hk : j / 2 < g.length := by omega
  obtain ⟨h0, h1⟩ := h _ hk
  obtain ⟨c0, c1⟩ := cells2_at hk
  rw [show ((⟨b, off, none⟩ : Addr).add j) = ⟨b, off + j, none⟩ from by simp [Addr.add]]
  rcases Nat.mod_two_eq_zero_or_one j with e | e
  · have ej : j = j / 2 * 2 := by omega
    rw [← ej] at c0 h0
    rw [h0, ← hu, c0]
  · have ej : j = j / 2 * 2 + 1 := by omega
    have eo : off + j = off + j / 2 * 2 + 1 := by omega
    rw [← ej] at c1
    rw [eo, h1, ← hu, c1]

theorem Only.setCell2 {R : Nat} {a w : World} (h : Only R a w) (j : Nat) (v : Value) : Only R a (w.setCell ⟨R, j, none⟩ v) :=
  h.trans ⟨rfl, rfl, rfl, by simp, fun k hk _ => Below.heap_setCell w ⟨R, j, none⟩ v k hk⟩

/-- Behind turns of one block that is not of the old world. -/
theorem Only.own {n R : Nat} {w w1 w2 : World} (h : Below n w w1) (hR : n ≤ R) (hn : n ≤ w1.heap.size) (h2 : Only R w1 w2) : Below n w w2 :=
  ⟨h2.os.trans h.os, h2.tape.trans h.tape, h2.output.trans h.output, Nat.le_trans h.size h2.size, fun k hk => (h2.block k (by omega) (by omega)).trans (h.block k hk)⟩

theorem below_grown2 {n : Nat} {w a a' : World} {row : Option Nat} (h : Below n w a) (hg : a.grownBy a' row) (hn : n ≤ a.heap.size) (hr : ∀ k, row = some k → n ≤ k) : Below n w a' :=
  ⟨hg.os.trans h.os, hg.tape.trans h.tape, hg.output.trans h.output, Nat.le_trans h.size hg.size, fun k hk => (hg.block k (by omega) (fun e => by have := hr k e.symm; omega)).trans (h.block k hk)⟩

theorem dropC_next {c : UInt8} {t : ByteArray} {j : Nat} (hj : j < t.size) : dropC c (t.extract 0 (j + 1)) = if t[j] = c then dropC c (t.extract 0 j) else dropC c (t.extract 0 j) ++ t.extract j (j + 1) := by
  have e1 := extract_first t j
  have e2 := extract_first t (j + 1)
  have hb := byte_at t j hj
  have hl : t.data.toList.take (j + 1) = t.data.toList.take j ++ [t[j]] := by rw [List.take_add_one, hb]; rfl
  have hx := ex_byte t (a := j) (b := j + 1) (by omega) (by omega) (by omega)
  by_cases h : t[j] = c
  · rw [if_pos h]
    apply ba_ext
    rw [dropC_list, dropC_list, e1, e2, hl, List.filter_append]
    simp [h]
  · rw [if_neg h]
    apply ba_ext
    rw [ba_append_toList, dropC_list, dropC_list, e1, e2, hl, List.filter_append, hx]
    simp [h]
where
  extract_first (s : ByteArray) (k : Nat) : (s.extract 0 k).data.toList = s.data.toList.take k := by
    rw [← Lib.toList_data, Lib.extract_toList]; simp

theorem dropC_zero (c : UInt8) (t : ByteArray) : dropC c (t.extract 0 0) = ⟨#[]⟩ := by
  apply ba_ext
  rw [dropC_list, ← Lib.toList_data, Lib.extract_toList]; simp

theorem kids_none' {g : List Bl} {s : ByteArray} (h : liveB g s = false) : kidsV g s = ⟨#[]⟩ := by
  unfold liveB at h
  unfold kidsV
  cases hl : liveOf g s with
  | none => rfl
  | some n => rw [hl] at h; cases h

set_option maxRecDepth 100000 in
set_option maxHeartbeats 6400000 in
theorem removed_walk (A : Option Addr) (la ca : Nat) (w : World) (hA : Bytes w A la) (h1 : la ≤ ca) (h3 : ca ≤ 9223372036854775807) :
    Calls Tryz.prog 6 #[.slice A la ca] w fun e w' => e = .returned (.bool true) ∧ Below w.heap.size w w' := by
  by_cases g1 : (1048576 : Int) < la
  · clear hA
    go_enter Tryz.func6, Tryz.ntmps6
    go_wp2_with fail
    go_ret
    exact ⟨rfl, Below.refl _ _⟩
  obtain ⟨i0, hi, hz0, hz1, hz2⟩ := info_parts info_block
  have HA := Lib.hid (drawChildrenOf_any A la ca w hA h1 h3)
  clear hA
  go_enter Tryz.func6, Tryz.ntmps6
  go_wp2_with fail
  refine HA.out.mono ?_
  intro e w1 hd1
  obtain ⟨A1, c1, g, nm, rfl, hc1, gg, hn1, hnm, b1⟩ := drawnPlace_of hd1
  have HB1 := Lib.hid b1
  have HG1 := Lib.hid gg
  clear hd1 b1 gg
  obtain ⟨ks, hks⟩ : ∃ x, x = kidsV g nm := ⟨_, rfl⟩
  obtain ⟨lo, hlo⟩ : ∃ x, x = liveB g nm := ⟨_, rfl⟩
  have HPI := Lib.hid (fun W (h : Gr W A1 g) => (hks ▸ hlo ▸ implChildren_any A1 c1 g nm W h (by omega) : Calls Tryz.prog 21 #[.slice A1 g.length c1, .string nm] W fun e w' => e = .returned (.tuple #[.string ks, .bool lo]) ∧ Below W.heap.size W w'))
  have HPS := Lib.hid (fun W (h : Gr W A1 g) => (hks ▸ hlo ▸ specChildren_any A1 c1 g nm W h (by omega) hc1 : Calls Tryz.prog 22 #[.slice A1 g.length c1, .string nm] W fun e w' => e = .returned (.tuple #[.string ks, .bool lo]) ∧ Below W.heap.size W w'))
  have HKS := Lib.hid hks
  have HLO := Lib.hid hlo
  clear hks hlo
  go_wp2_with fail
  refine (HPI.out w1 HG1.out).mono ?_
  rintro e w2 ⟨rfl, b2⟩
  have HG2 := Lib.hid (HG1.out.below b2)
  have HB2 := Lib.hid (below_trans_self HB1.out b2)
  clear b2
  go_wp2_with fail
  refine (HPS.out w2 HG2.out).mono ?_
  rintro e w3 ⟨rfl, b3⟩
  have HG3 := Lib.hid (HG2.out.below b3)
  have HB3 := Lib.hid (below_trans_self HB2.out b3)
  clear b3
  have t1 : (ks.toList == ks.toList) = true := by simp
  have t2 : (ks.toList != ks.toList) = false := by simp
  cases lo with
  | false =>
    go_wp2_with fail
    go_ret
    exact ⟨rfl, HB3.out⟩
  | true =>
    obtain ⟨n, hl⟩ : ∃ n, liveOf g nm = some n := by
      have := HLO.out
      unfold liveB at this
      cases h : liveOf g nm with
      | none => rw [h] at this; cases this
      | some n => exact ⟨n, rfl⟩
    obtain ⟨hv, hnl, hnme, hnr⟩ := live_name hl
    have h26 := (valid_iff.1 hv).2.1
    have hpos := (valid_iff.1 hv).1
    obtain ⟨gb, goff, t0, t1', hA1, hgb, hgc0, hgc1, he0, _⟩ := gr_at HG3.out hpos
    have x0 : w3.cell? ⟨gb, goff, none⟩ = some (.string t0) := by simpa using hgc0
    have hgi : (0 : Int) < (g.length : Int) := by omega
    by_cases hn0 : n = 0
    · have q1 : (nm.toList == t0.toList) = true := by
        rw [hnme, hn0, nthName_at hpos, he0]; simp
      clear hgc0 hgc1 he0 hl hnme hv
      subst hA1
      go_wp2_with fail
      go_ret
      exact ⟨rfl, HB3.out⟩
    · have q1 : (nm.toList == t0.toList) = false := by
        rw [Bool.eq_false_iff]
        intro h
        have := beq_toList.1 h
        rw [hnme, nthName_at hnl, ← he0] at this
        exact hn0 (name_inj hv hnl hpos this)
      obtain ⟨c, hc, hletter⟩ := valid_one hv (List.getElem_mem hnl)
      have hnc : nm = ⟨#[c]⟩ := by rw [hnme, nthName_at hnl]; exact hc
      have hcut := cutG_dm hv hnl hn0 hc
      have hcv := cutG_valid hv c
      have hct := valid_tot hcv
      rw [cutG_length] at hct
      obtain ⟨b2, off2, eA, hb2, hcells⟩ := HG3.out hpos
      rw [hA1] at eA
      simp only [Option.some.injEq, Addr.mk.injEq, and_true] at eA
      obtain ⟨rfl, rfl⟩ := eA
      have HNEWS := Lib.hid (gr_news hcells)
      have HHALF := Lib.hid (fun (W : World) (base : Nat) (v : Value) (h : W.ownsRow base 37 2 v g.length (cells2 g)) => half_start (c := c) hpos h)
      obtain ⟨rs, hrs⟩ : ∃ x, x = reachV g := ⟨_, rfl⟩
      obtain ⟨ls, hls⟩ : ∃ x, x = reachV (cutG c g) := ⟨_, rfl⟩
      have hre : rs = namesAt g (reachS g) := by rw [hrs, reachV_yes hv]
      have hle : ls = namesAt g (reachS (cutG c g)) := by rw [hls, reachV_yes hcv, cutG_namesAt]
      have hrl := reachS_lt g
      have hll : ∀ i ∈ reachS (cutG c g), i < g.length := fun i hi => by have := reachS_lt (cutG c g) i hi; rwa [cutG_length] at this
      have hrz : rs.size = (reachS g).length := by rw [hre]; exact namesAt_size hv _ hrl
      have hlz : ls.size = (reachS (cutG c g)).length := by rw [hle]; exact namesAt_size hv _ hll
      have hr26 := reachS_small hv
      have hl26 := reachS_small hcv
      have HRI := Lib.hid (fun W (h : Gr W A1 g) => (by have := implReached_any A1 c1 g W h (by omega); rw [← hrs, hv] at this; exact this : Calls Tryz.prog 23 #[.slice A1 g.length c1] W fun e w' => e = .returned (.tuple #[.string rs, .bool true]) ∧ Below W.heap.size W w'))
      have HRC := Lib.hid (fun A cap W (h : Gr W A (cutG c g)) => (by have := implReached_any A cap (cutG c g) W h (by rw [cutG_length]; omega); rw [← hls, hcv, cutG_length] at this; exact this : Calls Tryz.prog 23 #[.slice A g.length cap] W fun e w' => e = .returned (.tuple #[.string ls, .bool true]) ∧ Below W.heap.size W w'))
      have HROUND := Lib.hid (fun k (hk : k < rs.size) => (by
        have hkl : k < (reachS g).length := by omega
        obtain ⟨h, e⟩ := namesAt_cut hv hrl hkl
        have ex : rs.extract k (k + 1) = g[(reachS g)[k]].1 := by rw [hre]; exact e
        have hxr : Rch g [] (reachS g)[k] := (mem_reachS' hv).1 (List.getElem_mem hkl)
        have hlx : liveOf g (rs.extract k (k + 1)) = some (reachS g)[k] := by rw [ex]; exact liveOf_some hv (posOf_name hv h) ((mem_reach hv).2 hxr)
        refine ⟨domB g nm (rs.extract k (k + 1)), fun W hW => implDominates_any A1 c1 g nm (rs.extract k (k + 1)) W hW (by omega), ?_⟩
        rw [domB_some hl hlx, hcut, ex, hle, hasB_namesAt hv hll h] : ∃ db, (∀ W, Gr W A1 g → Calls Tryz.prog 24 #[.slice A1 g.length c1, .string nm, .string (rs.extract k (k + 1))] W fun e w' => e = .returned (.bool db) ∧ Below W.heap.size W w') ∧ db = !hasB ls (rs.extract k (k + 1))))
      have HNC := Lib.hid hnc
      have HV := Lib.hid hv
      have hn1' : nm.size = 1 := by rw [hnc]; rfl
      have HAE := Lib.hid hA1
      have HGC := Lib.hid hcells
      have hone := cells2_one g
      have hc2 := cells2_length g
      have hr26' : rs.size ≤ 26 := by omega
      have hl26' : ls.size ≤ 26 := by omega
      clear hl hnme hc hnc hcut hcv hrs hls hre hle hrl hll hrz hlz he0 hgc0 hgc1 hcells hv hr26 hl26
      subst hA1
      have HOA := Lib.hid (World.ownsRow_made (base := w3.heap.size) (e := 37) (size := 2) w3 #[] 0 (Nat.le_refl _) (Nat.zero_le _) rfl)
      go_wp2_with (at_builtin; refine wpList_append_own _ rfl _ _ 26 rfl w3.heap.size 37 i0 _ 2 32 Tryz.underlying26 hi hz0 hz1 hz2 rfl (by decide) _ _ _ rfl HOA.out ⟨gb, goff, none⟩ g.length c1 (cells2 g) rfl hc2 ?c1 hone ?c3 ?c4 ?c5 ?_)
      case c1 =>
        intro j u hu
        have hc := HNEWS.out j u hu
        exact (((Below.refl _ w3).alloc (Nat.le_refl _) (.cells #[] 37)).cell (p := (⟨gb, goff, none⟩ : Addr).add j) (by unfold Addr.add; split <;> exact hgb)).trans hc
      case c3 => unfold maxLen; omega
      case c4 => omega
      case c5 => simp; try omega
      intro v' w8 hown' hgrow _
      obtain ⟨CB, cap, cs, rfl, hCB, hblk, hhalf⟩ := HHALF.out w8 w3.heap.size v' hown'
      have hb8 : Below w3.heap.size w3 w8 := below_grown2 ((Below.refl _ w3).alloc (Nat.le_refl _) (.cells #[] 37)) hgrow (by simp) (fun j hj => (HOA.out.lt j hj).1)
      have HG8 := Lib.hid (HG3.out.below hb8)
      have HB8 := Lib.hid hb8
      have hs8 := hb8.size
      have hgb8 : gb < w8.heap.size := by omega
      have HBLK := Lib.hid hblk
      have HHF := Lib.hid hhalf
      clear hown' hgrow hb8 hblk hhalf x0
      go_wp2_with fail
      go_loopw [72] (fun iv wr => ∃ (k : Nat), k ≤ g.length ∧ iv = .int .i64 k ∧ (∃ cs, Blk wr CB 37 cs ∧ Half cs g c k) ∧ Only CB w8 wr) (fun iv _ => g.length - (intOf iv).toNat)
      case atStart => exact ⟨0, Nat.zero_le _, rfl, ⟨cs, HBLK.out, HHF.out⟩, Only.refl _ _⟩
      case round =>
        obtain ⟨k, hk, rfl, ⟨cs1, hblk, hf⟩, ho⟩ := hrel
        have HO := Lib.hid ho
        by_cases hlt : k < g.length
        · obtain ⟨y0, y1⟩ := hf.2 k hlt
          rw [if_neg (Nat.lt_irrefl k)] at y1
          have htz : g[k].2.size ≤ 2 := (nextB_iff.1 (nextsB_iff.1 (valid_iff.1 HV.out).2.2.2 k hlt)).1
          obtain ⟨s, hs⟩ : ∃ s, s = g[k].1 := ⟨_, rfl⟩
          obtain ⟨t, ht⟩ : ∃ t, t = g[k].2 := ⟨_, rfl⟩
          rw [← hs] at y0
          rw [← ht] at y1 htz
          have x0 : wr.cell? ⟨CB, k * 2, none⟩ = some (.string s) := (hblk.cell _).trans y0
          have x1 : wr.cell? ⟨CB, k * 2 + 1, none⟩ = some (.string t) := (hblk.cell _).trans y1
          have f0 := hblk.frozen (k * 2)
          have f1 := hblk.frozen (k * 2 + 1)
          have hcl := hblk.lt
          have HBK := Lib.hid hblk
          have HHK := Lib.hid hf
          have HS := Lib.hid hs
          have HT := Lib.hid ht
          clear y0 y1 hs ht hblk hf ho
          go_wp2_with fail
          go_loop [12, 80] (fun nv iv => ∃ (j : Nat) (nx : ByteArray), j ≤ t.size ∧ iv = .int .i64 j ∧ nv = .string nx ∧ Hid (nx = dropC c (t.extract 0 j))) (fun _ iv => t.size - (intOf iv).toNat)
          case atStart => exact ⟨0, ⟨#[]⟩, Nat.zero_le _, rfl, rfl, (dropC_zero c t).symm⟩
          case round =>
            obtain ⟨j, nx, hj, rfl, rfl, HNX⟩ := hrel
            have hxz : nx.size ≤ 2 := by
              rw [HNX.out]
              have := dropC_size c (t.extract 0 j)
              rw [ByteArray.size_extract] at this
              omega
            by_cases hjt : j < t.size
            · have hex := ex_byte t (a := j) (b := j + 1) (by omega) (by omega) (by omega)
              have hnext := dropC_next (c := c) hjt
              have hz : nx.size + (t.extract j (j + 1)).size ≤ 1048576 := by rw [ByteArray.size_extract]; omega
              have hj1 : j + 1 ≤ t.size := by omega
              by_cases hcc : t[j] = c
              · have q2 : ((t.extract j (j + 1)).toList == nm.toList) = true := by rw [hex, HNC.out, hcc]; simp
                have HN2 : Hid (nx = dropC c (t.extract 0 (j + 1))) := by
                  show nx = dropC c (t.extract 0 (j + 1))
                  rw [hnext, if_pos hcc]; exact HNX.out
                clear hex hnext hcc
                go_wp2_with fail
                go_round
                case rel => exact ⟨j + 1, nx, by omega, by go_num, rfl, HN2.out⟩
                case measure => simp [intOf]; omega
              · have q2 : ((t.extract j (j + 1)).toList == nm.toList) = false := by
                  rw [hex, HNC.out, Bool.eq_false_iff]
                  intro h
                  have := beq_toList.1 h
                  injection this with this
                  exact hcc (by simpa using this)
                have HN2 : Hid (nx ++ t.extract j (j + 1) = dropC c (t.extract 0 (j + 1))) := by
                  show nx ++ t.extract j (j + 1) = dropC c (t.extract 0 (j + 1))
                  rw [hnext, if_neg hcc, HNX.out]
                clear hex hnext hcc
                go_wp2_with fail
                go_round
                case rel => exact ⟨j + 1, _, by omega, by go_num, rfl, HN2.out⟩
                case measure => simp [intOf]; omega
            · have HE := Lib.hid (show nx = dropC c t by
                rw [HNX.out]
                congr 1
                have : j = t.size := by omega
                rw [this]
                exact ByteArray.extract_zero_size)
              go_wp2_with fail
              go_roundw
              case rel => exact ⟨k + 1, by omega, by go_num, ⟨_, ((HBK.out.set_ _ _).set_ _ _).alloc _, HHK.out.step hlt HS.out (HT.out ▸ HE.out)⟩, ((HO.out.setCell2 _ _).setCell2 _ _).alloc _⟩
              case measure => simp [intOf]; omega
        · have hkl : k = g.length := by omega
          subst hkl
          have hbw : Below w3.heap.size w3 wr := Only.own HB8.out hCB hs8 ho
          have HGC := Lib.hid (Half.gr hblk hf)
          have HGR := Lib.hid (HG3.out.below hbw)
          have HBW := Lib.hid hbw
          clear hbw hblk hf ho
          go_wp2_with fail
          refine (HRC.out _ _ wr HGC.out).mono ?_
          rintro e w9 ⟨rfl, b9⟩
          have HG9 := Lib.hid (HGR.out.below b9)
          have HB9 := Lib.hid (below_trans_self HB3.out (HBW.out.trans (b9.mono HBW.out.size)))
          clear b9
          go_wp2_with fail
          refine (HRI.out w9 HG9.out).mono ?_
          rintro e w10 ⟨rfl, b10⟩
          have HG10 := Lib.hid (HG9.out.below b10)
          have HB10 := Lib.hid (below_trans_self HB9.out b10)
          clear b10
          go_wp2_with fail
          go_loopw [120] (fun iv wr => ∃ (k : Nat), k ≤ rs.size ∧ iv = .int .i64 k ∧ Below w10.heap.size w10 wr) (fun iv _ => rs.size - (intOf iv).toNat)
          case atStart => exact ⟨0, Nat.zero_le _, rfl, Below.refl _ _⟩
          case round =>
            obtain ⟨i, hi2, rfl, hB⟩ := hrel
            have HGI := Lib.hid (HG10.out.below hB)
            have HBI := Lib.hid hB
            clear hB
            by_cases hir : i < rs.size
            · obtain ⟨db, hD, hdb⟩ := HROUND.out i hir
              have cD : ∀ d os, Calls Tryz.prog 24 #[.slice (some ⟨gb, goff, none⟩) g.length c1, .string nm, .string (rs.extract i (i + 1))] (grow (redrawn wr d) os) fun e w'' => e = .returned (.bool db) ∧ ∃ p : Regrown, w'' = grow (redrawn wr p.d) p.os := fun d os =>
                Calls.regrown_of (hD (grow (redrawn wr d) os) (gr_grown HGI.out d os))
              have cS : ∀ d os, Calls Tryz.prog 25 #[.string ls, .string (rs.extract i (i + 1))] (grow (redrawn wr d) os) fun e w'' => e = .returned (.bool (!db)) ∧ ∃ p : Regrown, w'' = grow (redrawn wr p.d) p.os := fun d os => by
                have := sjHas_any ls (rs.extract i (i + 1)) (grow (redrawn wr d) os) (by omega)
                rw [show hasB ls (rs.extract i (i + 1)) = !db by rw [hdb, Bool.not_not]] at this
                exact Calls.regrown_of (this.mono fun e w' ⟨h1, h2⟩ => ⟨h1, h2 ▸ Below.refl _ _⟩)
              have hi1 : i + 1 ≤ rs.size := by omega
              clear hD hdb
              cases db
              all_goals
                go_wp2_with fail
                refine wp_region_quiet_below (by kernel_rfl) (by kernel_rfl) ?_
                repeat (any_goals (first | go_big_quiet_step (first | with_reducible exact cD _ _ | with_reducible exact cS _ _) | quiet_step (first | with_reducible exact cD _ _ | with_reducible exact cS _ _)))
                all_goals (refine wpQuiet_nil ?_; intro _ hw'; obtain ⟨⟨dq, osq⟩, hw''⟩ := hw'; subst hw'')
                have hb3 := below_regrown wr dq osq
                generalize grow (redrawn wr dq) osq = w11 at hb3 ⊢
                have HB11 := Lib.hid (HBI.out.trans (hb3.mono HBI.out.size))
                clear cD cS hb3
                go_wp2_with fail
                go_roundw
                case rel => exact ⟨i + 1, by omega, by go_num, HB11.out⟩
                case measure => simp [intOf]; omega
            · go_wp2_with fail
              go_ret
              exact ⟨rfl, below_trans_self HB10.out HBI.out⟩
end Go.Proofs.YtklnhbfpmmdhjaaGreat
