/-
  The law FnWayReached, walked.
-/
import Derived.Test.YteodlcgmncchpaaWayFacts
import Derived.Test.YteodlcgmncchpaaDraws
import Derived.Test.YteodlcgmncchpaaNextOf
import Derived.Test.YteodlcgmncchpaaDrawTrace
namespace Go.Proofs.Yteodlcgmncchpaa
open Go.RowKit Go.Sort

theorem cd_size_le {a b : ByteArray} (h : cd a ≤ cd b) : a.size ≤ b.size := by
  rcases Nat.lt_or_ge b.size a.size with h1 | h1
  · have := code_shorter (s := b.data.toList) (t := a.data.toList) (by rw [list_of_size, list_of_size]; exact h1)
    unfold cd at h; omega
  · exact h1

theorem wayc_size (m k : Nat) (s : ByteArray) : (wayc m k s).size ≤ s.size + 1 ∧ (m ≠ 2 → (wayc m k s).size = s.size) := by
  refine ⟨?_, fun h => by rw [wayc_one h]⟩
  unfold wayc
  split
  · split
    · rw [ByteArray.size_append]; exact Nat.le_refl _
    · rw [ByteArray.size_append]; exact Nat.le_refl _
  · omega

/-- The next blocks have ways that are not much longer. -/
theorem Found.further {g : List Bl} {nm s : ByteArray} {i : Nat} (hv : validB g = true) (h : Found g nm s i) {k t : Nat} (ht : (nxt g i)[k]? = some t) {s2 : ByteArray} {ok2 : Bool} (h2 : WayAns g (Named g (nthName g t)) s2 ok2) :
    ok2 = true ∧ s2.size ≤ s.size + 1 ∧ ((nxt g i).length = 1 → s2.size ≤ s.size) := by
  obtain ⟨w1, _, _⟩ := lab_way hv h.lt h.best.1 h.lr ht (by simp)
  have htl := nxt_in hv h.lt ht
  rcases h2 with ⟨_, h2⟩ | ⟨e, _⟩
  · rcases h2 with ⟨rfl, _, _, j, _, _, hm⟩ | ⟨_, _, hno⟩
    · have hle := cd_size_le (hm t _ ⟨htl, rfl⟩ w1)
      have hw := wayc_size (nxt g i).length k s
      refine ⟨rfl, by omega, fun h1 => ?_⟩
      have := hw.2 (by omega); omega
    · exact absurd w1 (hno t _ ⟨htl, rfl⟩)
  · rw [hv] at e; cases e

theorem Found.reached {g : List Bl} {nm s : ByteArray} {i : Nat} (hv : validB g = true) (h : Found g nm s i) : hasB (reachV g) nm = true ∧ nm.size = 1 := by
  refine ⟨?_, ?_⟩
  · rw [reachV_yes hv]
    exact (hasB_at hv (fun j hj => reachS_lt g j hj)).2 ⟨i, (reachS_perm hv).symm.subset ((mem_reach hv).2 h.best.1.rch), h.name⟩
  · obtain ⟨c, hc, _⟩ := valid_one hv (List.getElem_mem h.lt)
    rw [← h.name, nthName_at h.lt, hc]; rfl

theorem Found.entry {g : List Bl} {nm s : ByteArray} {i : Nat} (hv : validB g = true) (h : Found g nm s i) (h0 : 0 < g.length) (hn : nm = g[0].1) : s = ⟨#[]⟩ := by
  have e : i = 0 := name_inj hv h.lt h0 (by rw [← nthName_at h.lt, h.name, hn])
  subst e
  have h1 := h.best.2 1 (.start (by simp))
  exact cd_inj h.lr lrS_nil (by rw [cd_nil]; have := cd_pos s; omega)

theorem reachV_size {g : List Bl} : (reachV g).size ≤ 1048576 := by
  cases hv : validB g with
  | false => rw [reachV_no hv]; exact Nat.zero_le _
  | true => rw [reachV_yes hv, namesAt_size hv _ (reachS_lt g)]; have := srt_len g (reach g) g.length; rw [← reachS_srt] at this; have := (valid_iff.1 hv).2.1; omega

set_option maxRecDepth 100000 in
set_option maxHeartbeats 1000000 in
theorem wayReached_walk (A : Option Addr) (la ca : Nat) (w : World) (hA : Bytes w A la) (h1 : la ≤ ca) (h3 : ca ≤ 9223372036854775807) :
    Calls Try.prog 10 #[.slice A la ca] w fun e w' => e = .returned (.bool true) ∧ Below w.heap.size w w' := by
  by_cases g1 : (1048576 : Int) < la
  · clear hA
    go_enter Try.func10, Try.ntmps10
    go_wp2_with fail
    go_ret
    exact ⟨rfl, Below.refl _ _⟩
  have HA := Lib.hid (drawWayTo_any A la ca w hA h1 h3)
  clear hA
  go_enter Try.func10, Try.ntmps10
  go_wp2_with fail
  refine HA.out.mono ?_
  intro e w1 hd1
  obtain ⟨A1, c1, g, nm, rfl, hc1, gg, hn1, hnm, b1⟩ := drawnPlace_of hd1
  have HB1 := Lib.hid b1
  have HG := Lib.hid gg
  have HN1 := Lib.hid hn1
  clear hd1 b1 gg
  go_wp2_with fail
  refine (implWayTo_any A1 c1 g nm w1 HG.out (by omega)).mono ?_
  rintro e w2 ⟨s, ok, rfl, hA2, hS2, b2⟩
  have HA2 := Lib.hid hA2
  have HS2 := Lib.hid hS2
  have HG2 := Lib.hid (HG.out.below b2)
  have HB2 := Lib.hid (below_trans_self HB1.out b2)
  clear hA2 hS2 b2
  go_wp2_with fail
  refine (specWayTo_any A1 c1 g nm w2 HG2.out (by omega) hc1).mono ?_
  rintro e w3 ⟨s', ok', rfl, hA3, b3⟩
  obtain ⟨rfl, rfl⟩ := HA2.out.unique hA3
  have HG3 := Lib.hid (HG2.out.below b3)
  have HB3 := Lib.hid (below_trans_self HB2.out b3)
  clear hA3 b3
  have HRC := Lib.hid (implReached_any A1 c1 g w3 HG3.out (by omega))
  obtain ⟨r, hr⟩ : ∃ r, r = reachV g := ⟨_, rfl⟩
  have hrz : r.size ≤ 1048576 := hr ▸ reachV_size
  rw [← hr] at HRC
  cases ok with
  | true =>
    have hv : validB g = true := by
      rcases HA2.out with ⟨h, _⟩ | ⟨_, _, h⟩
      · exact h
      · cases h
    obtain ⟨i, hF⟩ := found_of hv HA2.out HS2.out
    have hcb := choices_short hv hn1 hF.lr hF.short
    obtain ⟨hhas, hnm1⟩ := hF.reached hv
    rw [← hr] at hhas
    have HH := Lib.hid (fun w => (by have := sjHas_any r nm w hrz; rw [hhas] at this; exact this : Calls Try.prog 33 #[.string r, .string nm] w _))
    have hsz : s.size ≤ 26 := by have := hF.short; have := (valid_iff.1 hv).2.1; omega
    obtain ⟨nx, hnx⟩ : ∃ nx, nx = nthNext g i := ⟨_, rfl⟩
    have HNX := Lib.hid (fun w h => (implNext_any A1 c1 g nm w h (by omega)).mono fun e w' h => show e = .returned (.tuple #[.string nx, .bool (nextHas g nm)]) ∧ Below w.heap.size w w' from (show nextVal g nm = nx by rw [hnx, nthNext_at hF.lt]; exact nextVal_some hv (hF.pos hv) hF.lt) ▸ h)
    have hnz : nx.size ≤ 2 := by rw [hnx, nthNext_at hF.lt]; exact (nextB_iff.1 (nextsB_iff.1 (valid_iff.1 hv).2.2.2 i hF.lt)).1
    have HNL := Lib.hid (show (nxt g i).length = nx.size by rw [nxt_length hF.lt, hnx, nthNext_at hF.lt])
    have HNE := Lib.hid hnx
    have hpos := (valid_iff.1 hv).1
    have HCV := Lib.hid (fun w => (by have := implChoices_any s w (by omega); rw [hcb] at this; exact this : Calls Try.prog 42 #[.string s] w _))
    have HF := Lib.hid hF
    have HV := Lib.hid hv
    rw [hv] at HRC
    have q1 : ((nm.size : Int) == 1) = true := by rw [hnm1]; rfl
    clear hv hF hcb hhas hnx hr
    go_wp2_with fail
    refine HRC.out.mono ?_
    rintro e w4 ⟨rfl, b4⟩
    have HG4 := Lib.hid (HG3.out.below b4)
    have HB4 := Lib.hid (below_trans_self HB3.out b4)
    clear b4
    go_wp2_with fail
    refine (HH.out _).mono ?_
    rintro e w5 ⟨rfl, rfl⟩
    go_wp2_with fail
    refine (HNX.out _ HG4.out).mono ?_
    rintro e w6 ⟨rfl, b6⟩
    have HG6 := Lib.hid (HG4.out.below b6)
    have HB6 := Lib.hid (below_trans_self HB4.out b6)
    clear b6
    go_wp2_with fail
    obtain ⟨wo, hwo⟩ : ∃ wo : World, wo = w6 := ⟨_, rfl⟩
    have HGO : Hid (Gr wo A1 g) := by rw [hwo]; exact HG6.out
    have HBO : Hid (Below w.heap.size w wo) := by rw [hwo]; exact HB6.out
    rw [← hwo]
    clear hwo HG4 HB4 HG6 HB6
    go_loopw [69] (fun i wr => ∃ k : Nat, k ≤ nx.size ∧ i = .int .i64 k ∧ Below wo.heap.size wo wr) (fun i _ => nx.size - (intOf i).toNat)
    case atStart => exact ⟨0, Nat.zero_le _, rfl, Below.refl _ _⟩
    case round =>
      obtain ⟨k, hk, rfl, hB⟩ := hrel
      have HB := Lib.hid hB
      clear hB
      by_cases hlt : k < nx.size
      · have hxk : k < (g[i]'(HF.out.lt)).2.size := by rw [← nthNext_at HF.out.lt, ← HNE.out]; exact hlt
        obtain ⟨t, htl, hget, hps, hname⟩ := nxt_get HV.out HF.out.lt hxk
        have e2 : (g[i]'(HF.out.lt)).2 = nx := by rw [← nthNext_at HF.out.lt, ← HNE.out]
        have key : ∀ (y : ByteArray) (_ : y = nx) (hk : k < y.size), g[t].1 = ⟨#[y[k]'hk]⟩ → nx.extract k (k + 1) = g[t].1 := by
          rintro y rfl hk h
          rw [h, ex_byte y (a := k) (b := k + 1) (by omega) (by omega) (by omega)]
        have hex : nx.extract k (k + 1) = nthName g t := by rw [nthName_at htl]; exact key _ e2 hxk hname
        have HGET := Lib.hid hget
        have HW := Lib.hid (implWayTo_any A1 c1 g (nx.extract k (k + 1)) wr (HGO.out.below HB.out) (by omega))
        have HEX := Lib.hid hex
        have k1 : k + 1 ≤ nx.size := by omega
        clear hget hex hname e2 key hps hxk
        go_wp2_with fail
        refine HW.out.mono ?_
        rintro e w7 ⟨s2, ok2, rfl, hA7, _, b7⟩
        rw [HEX.out] at hA7
        obtain ⟨rfl, hs1, hs2⟩ := HF.out.further HV.out HGET.out hA7
        have HB7 := Lib.hid (HB.out.trans (b7.mono HB.out.size))
        have HS2' := Lib.hid hs2
        clear hA7 b7 hs2
        have q2 : decide ((s.size : Int) + 1 < s2.size) = false := by simp; omega
        by_cases h1n : nx.size = 1
        · have q3 : ((nx.size : Int) == 1) = true := by rw [h1n]; rfl
          have q4 : decide ((s.size : Int) < s2.size) = false := by have := HS2'.out (by rw [HNL.out, h1n]); simp; omega
          have q5 : decide (s.size < s2.size) = false := by have := HS2'.out (by rw [HNL.out, h1n]); simp; omega
          clear h1n
          go_wp2_with fail
          go_roundw
          case rel => exact ⟨k + 1, by omega, by go_num, HB7.out⟩
          case measure => simp [intOf]; omega
        · have q3 : ((nx.size : Int) == 1) = false := by simp; omega
          clear h1n
          go_wp2_with fail
          go_roundw
          case rel => exact ⟨k + 1, by omega, by go_num, HB7.out⟩
          case measure => simp [intOf]; omega
      · obtain ⟨b, off, t, t2, rfl, hb, hc0, hc10, he, he2⟩ := gr_at (HGO.out.below HB.out) hpos
        have HCV2 := HCV.out wr
        have HE := Lib.hid he
        have hc0' : wr.cell? ⟨b, off, none⟩ = some (.string t) := by simpa using hc0
        have HC0 := Lib.hid hc0'
        clear he he2 hc0 hc10 hc0'
        go_wp2_with fail
        refine (HCV.out _).mono ?_
        rintro e w8 ⟨rfl, b8⟩
        have hx8 := (b8.cell (p := ⟨b, off, none⟩) hb).trans HC0.out
        have HB8 := Lib.hid (HB.out.trans (b8.mono HB.out.size))
        clear b8
        by_cases hq : (nm.toList == t.toList) = true
        · have hs0 : s = ⟨#[]⟩ := HF.out.entry HV.out hpos ((beq_toList.1 hq).trans HE.out.symm)
          subst hs0
          go_wp2_with fail
          go_ret
          exact ⟨rfl, below_trans_self HBO.out HB8.out⟩
        · have q5 : (nm.toList == t.toList) = false := by simpa using hq
          clear hq
          go_wp2_with fail
          go_ret
          exact ⟨rfl, below_trans_self HBO.out HB8.out⟩
  | false =>
    obtain ⟨rfl, hno⟩ := none_reached HA2.out
    rw [← hr] at hno
    have HNO := Lib.hid hno
    clear hno
    cases hv : validB g with
    | false =>
      rw [hv] at HRC
      clear hr hv
      go_wp2_with fail
      refine HRC.out.mono ?_
      rintro e w4 ⟨rfl, b4⟩
      go_wp2_with fail
      go_ret
      exact ⟨rfl, below_trans_self HB3.out b4⟩
    | true =>
      have hf : hasB r nm = false := by
        rcases HNO.out with h | h
        · rw [hv] at h; cases h
        · exact h
      have HH := Lib.hid (fun w => (by have := sjHas_any r nm w hrz; rw [hf] at this; exact this : Calls Try.prog 33 #[.string r, .string nm] w _))
      rw [hv] at HRC
      clear hr hv hf
      go_wp2_with fail
      refine HRC.out.mono ?_
      rintro e w4 ⟨rfl, b4⟩
      have HB4 := Lib.hid (below_trans_self HB3.out b4)
      clear b4
      go_wp2_with fail
      refine (HH.out _).mono ?_
      rintro e w5 ⟨rfl, rfl⟩
      go_wp2_with fail
      go_ret
      exact ⟨rfl, HB4.out⟩

end Go.Proofs.Yteodlcgmncchpaa
