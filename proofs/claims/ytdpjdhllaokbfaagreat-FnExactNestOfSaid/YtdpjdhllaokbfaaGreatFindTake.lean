/-
  The program's finder takes a block and all behind it from the stack.
-/
import Derived.Test.YtdpjdhllaokbfaaGreatFindAt
import Derived.Test.YtdpjdhllaokbfaaGreatReachedNodes
namespace Go.Proofs.YtdpjdhllaokbfaaGreat
open Go.RowKit Go.Sort Go.Shelf

/-- What the finder is, with what is seen. -/
def FindS (w : World) (B0 : Nat) (r : Nat → Nat) (FB NB q : Nat) (σ : TS) : Prop := ∃ v u, FindAt w B0 r FB NB q σ.cnt σ.num v u σ.stk σ.parts

theorem info_nsl : (Tryz.prog.info? 54).map (fun i => (i.zero, i.size, i.bytes)) = some (some (.slice none 0 0), 1, 24) := by kernel_rfl

set_option maxRecDepth 100000 in
set_option maxHeartbeats 4000000 in
theorem takeP_any (NB FB q B0 n k : Nat) (g : List Bl) (σ : TS) (r : Nat → Nat) (w : World) (hv : validB g = true) (hNB : ∀ i, i < g.length → nb NB i < B0) (hF : FindS w B0 r FB NB q σ) (hN : NodesIn w NB g)
    (hst : ∀ x ∈ σ.stk, x < g.length) (hnd : σ.stk.Nodup) (hk : k < σ.stk.length) (hkn : σ.stk[k] = n) (hpl : σ.parts.length ≤ 26) :
    Calls Tryz.prog 105 #[.pointer (some ⟨FB, 0, none⟩), nptr NB n] w fun e w' => e = .returned (.tuple #[]) ∧ ∃ r', FindS w' B0 r' FB NB q (σ.take g n k) ∧ Kept B0 r r' w w' := by
  obtain ⟨i0, hi0, hz0, hz1, hz2⟩ := info_parts info_nsl
  obtain ⟨v, u, hA⟩ := hF
  have h26 := (valid_iff.1 hv).2.1
  have hlen : σ.stk.length ≤ 26 := by have := nodup_lt_len _ _ hnd hst; omega
  have hlow := hA.low
  have hlt := hA.lt
  have hrf := hA.rf
  have hng : n < g.length := hst n (hkn ▸ List.getElem_mem hk)
  obtain ⟨B, off, cap, rfl, hcap, hoB, hBl, hx⟩ : ∃ B off cap, v = .slice (some ⟨B, off, none⟩) σ.stk.length cap ∧ σ.stk.length ≤ cap ∧ r B = 2 ∧ B < w.heap.size ∧ ∀ j, j < σ.stk.length → w.cell? ⟨B, off + j, none⟩ = (σ.stk.map (nptr NB))[j]? := by
    rcases hA.srow with ⟨_, h0, _⟩ | hq
    · omega
    · obtain ⟨B, off, cap, h1, h2, h3, h4, h5⟩ := hq.cells
      exact ⟨B, off, cap, h1, h2, h3, h4, fun j hj => h5 j (by simpa using hj)⟩
  have hx' : ∀ j (h : j < σ.stk.length), w.cell? ⟨B, off + j, none⟩ = some (nptr NB σ.stk[j]) := fun j hj => by rw [hx j hj, List.getElem?_map, List.getElem?_eq_getElem hj]; rfl
  have hidx : idxB σ.stk n = (k : Int) := by
    rw [← hkn]
    exact idxB_at hk fun j h hj e => by have := (List.getElem_inj hnd).1 e; omega
  have HI := Lib.hid (indexB_any (some ⟨B, off, none⟩) cap σ.stk NB g n w (fun _ => ⟨B, off, rfl, hBl, hx'⟩) (by omega) hN hst hng)
  rw [hidx] at HI
  have c28 := hA.cs
  have hkl : (k : Int) ≤ σ.stk.length := by omega
  have hk0 : (0 : Int) ≤ (k : Int) := by omega
  have hcl : (σ.stk.length : Int) ≤ cap := by omega
  have hkN : ((k : Int)).toNat = k := by omega
  -- the iterator over what is taken
  obtain ⟨Q, hQ⟩ : ∃ Q, Q = σ.stk.drop k := ⟨_, rfl⟩
  have hQl : Q.length = σ.stk.length - k := by rw [hQ, List.length_drop]
  have hQg : ∀ j (h : j < Q.length), w.cell? ⟨B, off + k + j, none⟩ = some (nptr NB Q[j]) := fun j hj => by
    have hj2 : k + j < σ.stk.length := by omega
    have := hx' (k + j) hj2
    rw [← Nat.add_assoc] at this
    rw [this]
    simp [hQ]
  have hQm : ∀ x ∈ Q, x ∈ σ.stk := fun x hx => by rw [hQ] at hx; exact List.mem_of_mem_drop hx
  have hQn : Q.Nodup := by rw [hQ]; exact hnd.sublist (List.drop_sublist _ _)
  have HQE := Lib.hid hQ
  have HA := Lib.hid hA
  have HN := Lib.hid hN
  have HQG := Lib.hid hQg
  have HQL := Lib.hid hQl
  have HQM := Lib.hid hQm
  have HQN := Lib.hid hQn
  clear hA hN hx hx' hidx hQ hQl hQg hQm hQn
  go_enter Tryz.func105, Tryz.ntmps105
  go_wp2_with fail
  refine HI.out.mono ?_
  rintro e w1 ⟨rfl, rfl⟩
  go_wp2_with fail
  refine (values_any _ w rfl).mono ?_
  rintro e w2 ⟨rfl, hw2⟩
  have hb2 : Below w.heap.size w w2 := by rw [hw2]; exact (Below.refl _ _).alloc (Nat.le_refl _) _
  have hs2 : w2.heap.size = w.heap.size + 1 := by rw [hw2]; simp
  have hc2 : w2.cell? ⟨w.heap.size, 0, none⟩ = some (.slice (some ⟨B, off + k, none⟩) Q.length (cap - k)) := by rw [hw2, HQL.out]; exact (Boxed.new w _ _).cell
  have hPQ : PtsI w2 (some ⟨B, off + k, none⟩) NB Q := fun _ => ⟨B, off + k, rfl, by omega, fun j hj => (hb2.cell (p := ⟨B, off + k + j, none⟩) hBl).trans (HQG.out j hj)⟩
  have hql : Q.length ≤ 26 := by have := HQL.out; omega
  have hq0 : 0 < Q.length := by have := HQL.out; omega
  have hy : Yields 126 #[.pointer (some ⟨w.heap.size, 0, none⟩)] NB (fun b => b < w2.heap.size) Q w2 :=
    values_own 3 NB w.heap.size (cap - k) _ Q _ w2 (by decide) (by omega) hc2 hPQ (by omega) (fun b off h e => by
      simp only [Option.some.injEq, Addr.mk.injEq] at e; omega)
  have hqg : ∀ x ∈ Q, x < g.length := fun x hx => hst x (HQM.out x hx)
  have HIO := Lib.hid (inOrder_any NB 126 #[.pointer (some ⟨w.heap.size, 0, none⟩)] (fun b => b < w2.heap.size) Q g w2 hv (enters_of Tryz.func126 (by kernel_rfl) rfl) hy (fun k hk => hk) (HN.out.below hb2) hq0 hqg HQN.out)
  have HTP := Lib.hid (srt_perm (g := g) hqg HQN.out)
  have HB2 := Lib.hid hb2
  clear hw2 hb2 hc2 hPQ hy hqg c28
  go_wp2_with fail
  refine HIO.out.mono ?_
  rintro e w3 ⟨B3, off3, cap3, hB3, rfl, hB3l, hc3, hN3, b3⟩
  have hb3 : Below w.heap.size w w3 := HB2.out.trans (b3.mono HB2.out.size)
  have hA3 := HA.out.below hb3 4
  have hK3 : Kept B0 r (fun k => if k < w.heap.size then r k else 4) w w3 := Kept.of_below r 4 hb3 (by omega)
  have hw3l := hb3.size
  obtain ⟨r3, hr3⟩ : ∃ r3 : Nat → Nat, r3 = fun k => if k < w.heap.size then r k else 4 := ⟨_, rfl⟩
  rw [← hr3] at hA3 hK3
  have hrB3 : r3 B3 = 4 := by rw [hr3]; exact if_neg (by omega)
  have hlt3 := hA3.lt
  have hrf3 := hA3.rf
  have c28 := hA3.cs
  have f28 := hA3.free 28
  have hrow4 : Row w3 73 1 (fun j => (if j < w3.heap.size then r3 j else 2) = 2) (.slice (some ⟨B, off, none⟩) k cap) (σ.stk.take k).length ((σ.stk.take k).map (nptr NB)) := by
    rcases hA3.srow with ⟨_, h0, _⟩ | hq
    · omega
    · have := hq.take (k := k) (by omega)
      rw [List.length_take, Nat.min_eq_left (by omega), List.map_take]
      exact .inr (this.kept (Keeps.refl _ _) fun j hj e => by rw [if_pos hj]; exact e)
  have hA4 := hA3.putStk (Turns.refl _ _) hrow4
  have hK4 := hK3.trans ((Kept.of_turns (r := r3) 2 (Turns.refl (fun _ => False) w3) (by omega) fun _ h => h.elim).trans (Kept.set w3 28 (.slice (some ⟨B, off, none⟩) k cap) (by rw [if_pos hlt3, hrf3]; decide) hlow))
  obtain ⟨r4, hr4⟩ : ∃ r4 : Nat → Nat, r4 = fun j => if j < w3.heap.size then r3 j else 2 := ⟨_, rfl⟩
  rw [← hr4] at hA4 hK4
  have hrB4 : r4 B3 = 4 := by rw [hr4]; show (if B3 < w3.heap.size then r3 B3 else 2) = 4; rw [if_pos hB3l]; exact hrB3
  have hBF : B3 ≠ FB := fun e => by have := hA4.rf; rw [← e, hrB4] at this; omega
  obtain ⟨w4, hw4⟩ : ∃ w4, w4 = w3.setCell ⟨FB, 28, none⟩ (.slice (some ⟨B, off, none⟩) k cap) := ⟨_, rfl⟩
  have hs4 : w4.heap.size = w3.heap.size := by rw [hw4]; simp
  have hN4 : NodesIn w4 NB g := HN.out.under hNB (by rw [hw4]; exact hK4.below)
  have hTl : (srt g Q g.length).length = Q.length := HTP.out.length_eq
  have hc4 : ∀ j (h : j < (srt g Q g.length).length), w4.cell? ⟨B3, off3 + j, none⟩ = some (nptr NB (srt g Q g.length)[j]) := fun j hj => by
    rw [hw4, World.cell?_of_block (Below.heap_setCell w3 ⟨FB, 28, none⟩ _ B3 hBF)]; exact hc3 j hj
  have HA4 := Lib.hid hA4
  have HK4 := Lib.hid hK4
  have HN4 := Lib.hid hN4
  have HTL := Lib.hid hTl
  have HC4 := Lib.hid hc4
  have HRB0 := Lib.hid hrB4
  clear hA3 hK3 hr3 hrow4 hA4 hK4 hr4 hN3 b3 hb3 hc3 hN4 hTl hc4 hrB4
  go_wp2_with fail
  rw [← hw4] at HA4 HK4 ⊢
  clear hw4
  have HZ := Lib.hid (show σ.num = (fun x => if x ∈ (srt g Q g.length).take 0 then 27 else σ.num x) by funext x; simp)
  go_loopw [33] (fun i wr => ∃ j : Nat, j ≤ Q.length ∧ i = .int .i64 j ∧ Hid (FindAt wr B0 r4 FB NB q σ.cnt (fun x => if x ∈ (srt g Q g.length).take j then 27 else σ.num x) (.slice (some ⟨B, off, none⟩) k cap) u (σ.stk.take k) σ.parts) ∧ Hid (Turns (fun k => k = FB) w4 wr)) (fun i _ => Q.length - (intOf i).toNat)
  case atStart => exact ⟨0, Nat.zero_le _, rfl, HZ.out ▸ HA4.out, Turns.refl _ _⟩
  case round =>
    obtain ⟨j, hj, rfl, HF, HT⟩ := hrel
    have hKr : Kept B0 r4 r4 w4 wr := ⟨fun _ _ => rfl, HT.out.keeps fun k hk ho => (by rw [show k = FB from ho, HF.out.rf] at hk; omega), HT.out.below (by have := HF.out.low; have := HA4.out.lt; omega) fun k ho => (by rw [show k = FB from ho]; exact hlow)⟩
    by_cases hlt : j < Q.length
    · have hjT : j < (srt g Q g.length).length := by rw [HTL.out]; exact hlt
      obtain ⟨t, ht⟩ : ∃ t, t = (srt g Q g.length)[j] := ⟨_, rfl⟩
      have htl : t < g.length := srt_lt (Nat.le_refl _) t (ht ▸ List.getElem_mem hjT)
      have ht26 : t < 26 := by omega
      have xt : wr.cell? ⟨B3, off3 + j, none⟩ = some (nptr NB t) := by
        rw [World.cell?_of_block (HT.out.block B3 (by omega) hBF), ht]; exact HC4.out j hjT
      have x0 : wr.cell? ⟨nb NB t, 0, none⟩ = some (.int .i64 t) := by have := ((HN4.out.under hNB hKr.below) t htl).cell 0; simpa using this
      have cn := HF.out.cn ht26
      have fn := HF.out.free (2 + t)
      have hx0 : (0 : Int) ≤ (t : Int) := by omega
      have hx1 : (t : Int) < 26 := by omega
      have HNX := Lib.hid (show (fun x : Nat => if x = t then (27 : Nat) else (if x ∈ (srt g Q g.length).take j then 27 else σ.num x)) = (fun x : Nat => if x ∈ (srt g Q g.length).take (j + 1) then (27 : Nat) else σ.num x) by
        funext x
        rw [List.take_succ_eq_append_getElem hjT, ← ht]
        by_cases e : x = t
        · rw [if_pos e, if_pos (List.mem_append_right _ (List.mem_singleton.2 e))]
        · rw [if_neg e]
          by_cases e2 : x ∈ (srt g Q g.length).take j
          · rw [if_pos e2, if_pos (List.mem_append_left _ e2)]
          · rw [if_neg e2, if_neg (fun h => by
              rcases List.mem_append.1 h with h | h
              · exact e2 h
              · exact e (List.mem_singleton.1 h))])
      have HT9 : Hid (Turns (fun k => k = FB) w4 (wr.setCell ⟨FB, 2 + t, none⟩ (.int .i64 27)).drew) := by
        have h8 : Turns (fun k => k = FB) wr (wr.setCell ⟨FB, 2 + t, none⟩ (.int .i64 27)) := Turns.setCell (O := fun k => k = FB) (p := ⟨FB, 2 + t, none⟩) rfl _
        exact (HT.out.trans (h8.wider fun k h => .inl h)).trans (Turns.drew _ _)
      have HF9 : Hid (FindAt (wr.setCell ⟨FB, 2 + t, none⟩ (.int .i64 27)).drew B0 r4 FB NB q σ.cnt (fun x => if x ∈ (srt g Q g.length).take (j + 1) then 27 else σ.num x) (.slice (some ⟨B, off, none⟩) k cap) u (σ.stk.take k) σ.parts) := by
        have h7 := (HF.out.putNumI (x := 27) ht26 27 rfl).drew
        rw [HNX.out] at h7; exact h7
      clear ht hKr
      go_wp2_with fail
      go_region
      go_wp2_with fail
      go_roundw
      case rel => exact ⟨j + 1, by omega, by go_num, HF9.out, HT9.out⟩
      case measure => simp [intOf]; omega
    · have hjl : j = Q.length := by omega
      have hnum : (fun x => if x ∈ (srt g Q g.length).take j then 27 else σ.num x) = (σ.take g n k).num := by
        rw [hjl, ← HTL.out, List.take_length]
        funext x
        show _ = if x ∈ σ.stk.drop k then 27 else σ.num x
        rw [← HQE.out]
        by_cases e : x ∈ Q
        · rw [if_pos e, if_pos (HTP.out.mem_iff.2 e)]
        · rw [if_neg e, if_neg (fun h => e (HTP.out.mem_iff.1 h))]
      have hF := HF.out
      rw [hnum] at hF
      have HFE := Lib.hid hF
      have HRB := Lib.hid (show r4 B3 = 4 from HRB0.out)
      have hNr := (HN4.out.under hNB hKr.below)
      have HTC := Lib.hid (show ∀ j (h : j < (srt g Q g.length).length), wr.cell? ⟨B3, off3 + j, none⟩ = some (nptr NB (srt g Q g.length)[j]) from fun j hj => by
        rw [World.cell?_of_block (HT.out.block B3 (by omega) hBF)]; exact HC4.out j hj)
      have HTW := Lib.hid (show B3 < wr.heap.size by have := HT.out.size; omega)
      have HKW := Lib.hid (HK4.out.trans hKr)
      have hst2 : (σ.take g n k).stk = σ.stk.take k := rfl
      clear hF hnum HF hjl hKr HK4
      by_cases h1 : 1 < Q.length
      · have q1 : (1 : Int) < Q.length := by omega
        have HRES := Lib.hid (show σ.take g n k = ⟨σ.cnt, (σ.take g n k).num, σ.stk.take k, σ.parts ++ [srt g Q g.length]⟩ by
          unfold TS.take
          rw [← HQE.out, HTL.out, if_pos (.inl h1)])
        clear h1
        have hlt9 := HFE.out.lt
        have c29 := HFE.out.cp
        obtain ⟨vs, hp1, hp2⟩ := HFE.out.prow
        have HROW := Lib.hid (show Row (wr.alloc (.cells #[.slice (some ⟨B3, off3, none⟩) Q.length cap3] 54)) 54 1 (fun k => r4 k = 3) u σ.parts.length vs from
          hp1.kept (Turns.keeps (O := fun _ => False) (Turns.alloc _ _ _) fun _ _ h => h) fun _ _ h => h)
        have HNEW := Lib.hid (cell_one_new wr (.slice (some ⟨B3, off3, none⟩) Q.length cap3) 54)
        have HP2 := Lib.hid hp2
        have HF9 := Lib.hid HFE.out
        clear hp1 hp2
        go_wp2_with (at_builtin; go_loud (refine wpList_append_rowK (by rfl) _ _ _ (by rfl) 54 i0 (.slice none 0 0) 1 Tryz.underlying105 hi0 hz0 hz1 (by rw [hz2]; decide) rfl (fun k => r4 k = 3) u σ.parts.length vs (by rfl) HROW.out ⟨(wr).heap.size, 0, none⟩ 1 1 [.slice (some ⟨B3, off3, none⟩) Q.length cap3] (by rfl) (by rfl) HNEW.out (by simp [Value.oneCell']) ?c3 (by decide) ?_))
        case c3 => omega
        intro u' w9 hq' hT'
        obtain ⟨B', off', cap', rfl, _⟩ := hq'.cells
        have hs9 : (wr.alloc (.cells #[.slice (some ⟨B3, off3, none⟩) Q.length cap3] 54)).heap.size = (wr).heap.size + 1 := by simp
        have T9 : Turns (fun k => r4 k = 3) wr w9 := (Turns.alloc _ wr _).trans (hT'.wider fun k h => .inl h)
        have f29 : w9.frozen? ⟨FB, 29, none⟩ = false := by
          obtain ⟨cs, hb, _⟩ := HF9.out.blk
          exact Blk.frozen ((T9.block _ hb.lt (by rw [HF9.out.rf]; decide)).trans hb) 29
        have cc29 : ∃ z, w9.cell? ⟨FB, 29, none⟩ = some z := by
          obtain ⟨cs, hb, hs, _⟩ := HF9.out.blk
          exact Blk.some_cell (i := 29) ((T9.block _ hb.lt (by rw [HF9.out.rf]; decide)).trans hb) (by omega)
        obtain ⟨z29, cz29⟩ := cc29
        have hq9 : Row w9 54 1 (fun k => (if k < (wr).heap.size then r4 k else 3) = 3) (.slice (some ⟨B', off', none⟩) (σ.parts.length + 1) cap') (σ.parts ++ [srt g Q g.length]).length (vs ++ [.slice (some ⟨B3, off3, none⟩) Q.length cap3]) := by
          rw [List.length_append]
          refine .inr (hq'.kept (Keeps.refl _ _) fun k _ hk => ?_)
          rcases hk with hk | hk
          · by_cases hl : k < (wr).heap.size
            · rw [if_pos hl]; exact hk
            · rw [if_neg hl]
          · rw [hs9] at hk
            rw [if_neg (by omega)]
        have hpn : PartsIn wr (fun k => r4 k = 4) NB (σ.parts ++ [srt g Q g.length]) (vs ++ [.slice (some ⟨B3, off3, none⟩) Q.length cap3]) := by
          have := HP2.out.snoc (T := srt g Q g.length) (B := B3) (off := off3) (cap := cap3) HRB.out (by have := HTW.out; omega) HTC.out
          rwa [HTL.out] at this
        have HF10 := Lib.hid (HF9.out.putParts T9 hq9 hpn)
        have HK10 := Lib.hid (HKW.out.trans ((Kept.of_turns 3 T9 (by have := HF9.out.low; omega) fun k hk => ⟨by omega, by
          by_cases hl : k < (wr).heap.size
          · exact HF9.out.lo k hl (by omega)
          · have := T9.size; have := HF9.out.low; omega⟩).trans (Kept.set w9 29 (.slice (some ⟨B', off', none⟩) (σ.parts.length + 1) cap') (by rw [if_pos hlt9, HF9.out.rf]; decide) hlow)))
        clear hq9 hpn T9 hT' hq' HROW HNEW HP2
        go_wp2_with fail
        go_end0
        exact ⟨rfl, _, by rw [HRES.out]; exact ⟨_, _, HF10.out⟩, HK10.out⟩
      · have q1 : ¬ (1 : Int) < Q.length := by omega
        have H1 := Lib.hid h1
        obtain ⟨T, tv, F2, hd⟩ := disp2 (NB := NB) hv hng
        have xe : wr.cell? ⟨nb NB n, 2, none⟩ = some (.iface T tv) := by have := (hNr n hng).cell 2; rw [hd.val] at this; simpa using this
        have hlook := hd.look
        have hent := hd.enter
        have HD := Lib.hid hd.goes
        have HNR := Lib.hid hNr
        clear h1 hd hNr
        go_wp2_with fail
        refine (HD.out _).mono ?_
        rintro e w6 ⟨A6, rfl, hB6, hrow6⟩
        have hP6 : PtsI w6 A6 NB (nxt g n) := fun hp => by
          obtain ⟨b, rfl, hb, hk⟩ := hrow6 hp
          refine ⟨b, 0, rfl, hk.lt, fun j hj => ?_⟩
          rw [Nat.zero_add, hk.cell, List.getElem?_toArray, List.getElem?_map, List.getElem?_eq_getElem hj]; rfl
        have HCO := Lib.hid (containsB_any A6 (nxt g n).length (nxt g n) NB g n w6 hP6 (by have := nxt_two hv hng; omega) (HNR.out.below hB6) (fun x hx => nxt_lt hv hng hx) hng)
        have HF6 := Lib.hid (HFE.out.below hB6 0)
        have HKW6 := Lib.hid (HKW.out.trans (Kept.of_below r4 0 hB6 (by have := HFE.out.low; have := HFE.out.lt; omega)))
        have HRB6 := Lib.hid (show (fun k => if k < wr.heap.size then r4 k else 0) B3 = 4 by show (if B3 < wr.heap.size then r4 B3 else 0) = 4; rw [if_pos HTW.out]; exact HRB.out)
        have HTC6 := Lib.hid (show ∀ j (h : j < (srt g Q g.length).length), w6.cell? ⟨B3, off3 + j, none⟩ = some (nptr NB (srt g Q g.length)[j]) from fun j hj => (hB6.cell (p := ⟨B3, off3 + j, none⟩) HTW.out).trans (HTC.out j hj))
        have HTW6 := Lib.hid (show B3 < w6.heap.size by have := hB6.size; have := HTW.out; omega)
        obtain ⟨r6, hr6⟩ : ∃ r6 : Nat → Nat, r6 = fun k => if k < wr.heap.size then r4 k else 0 := ⟨_, rfl⟩
        rw [← hr6] at HF6 HKW6 HRB6
        clear hr6 hP6 hrow6 hB6 HFE HKW HRB HTC HTW
        go_wp2_with fail
        refine HCO.out.mono ?_
        rintro e w7 ⟨rfl, rfl⟩
        by_cases hself : n ∈ nxt g n
        · have HRES := Lib.hid (show σ.take g n k = ⟨σ.cnt, (σ.take g n k).num, σ.stk.take k, σ.parts ++ [srt g Q g.length]⟩ by
            unfold TS.take
            rw [← HQE.out, HTL.out, if_pos (.inr hself)])
          rw [decide_eq_true hself]
          clear hself
          have hlt9 := HF6.out.lt
          have c29 := HF6.out.cp
          obtain ⟨vs, hp1, hp2⟩ := HF6.out.prow
          have HROW := Lib.hid (show Row (w6.alloc (.cells #[.slice (some ⟨B3, off3, none⟩) Q.length cap3] 54)) 54 1 (fun k => r6 k = 3) u σ.parts.length vs from
            hp1.kept (Turns.keeps (O := fun _ => False) (Turns.alloc _ _ _) fun _ _ h => h) fun _ _ h => h)
          have HNEW := Lib.hid (cell_one_new w6 (.slice (some ⟨B3, off3, none⟩) Q.length cap3) 54)
          have HP2 := Lib.hid hp2
          have HF9 := Lib.hid HF6.out
          clear hp1 hp2
          go_wp2_with (at_builtin; go_loud (refine wpList_append_rowK (by rfl) _ _ _ (by rfl) 54 i0 (.slice none 0 0) 1 Tryz.underlying105 hi0 hz0 hz1 (by rw [hz2]; decide) rfl (fun k => r6 k = 3) u σ.parts.length vs (by rfl) HROW.out ⟨(w6).heap.size, 0, none⟩ 1 1 [.slice (some ⟨B3, off3, none⟩) Q.length cap3] (by rfl) (by rfl) HNEW.out (by simp [Value.oneCell']) ?c3 (by decide) ?_))
          case c3 => omega
          intro u' w9 hq' hT'
          obtain ⟨B', off', cap', rfl, _⟩ := hq'.cells
          have hs9 : (w6.alloc (.cells #[.slice (some ⟨B3, off3, none⟩) Q.length cap3] 54)).heap.size = (w6).heap.size + 1 := by simp
          have T9 : Turns (fun k => r6 k = 3) w6 w9 := (Turns.alloc _ w6 _).trans (hT'.wider fun k h => .inl h)
          have f29 : w9.frozen? ⟨FB, 29, none⟩ = false := by
            obtain ⟨cs, hb, _⟩ := HF9.out.blk
            exact Blk.frozen ((T9.block _ hb.lt (by rw [HF9.out.rf]; decide)).trans hb) 29
          have cc29 : ∃ z, w9.cell? ⟨FB, 29, none⟩ = some z := by
            obtain ⟨cs, hb, hs, _⟩ := HF9.out.blk
            exact Blk.some_cell (i := 29) ((T9.block _ hb.lt (by rw [HF9.out.rf]; decide)).trans hb) (by omega)
          obtain ⟨z29, cz29⟩ := cc29
          have hq9 : Row w9 54 1 (fun k => (if k < (w6).heap.size then r6 k else 3) = 3) (.slice (some ⟨B', off', none⟩) (σ.parts.length + 1) cap') (σ.parts ++ [srt g Q g.length]).length (vs ++ [.slice (some ⟨B3, off3, none⟩) Q.length cap3]) := by
            rw [List.length_append]
            refine .inr (hq'.kept (Keeps.refl _ _) fun k _ hk => ?_)
            rcases hk with hk | hk
            · by_cases hl : k < (w6).heap.size
              · rw [if_pos hl]; exact hk
              · rw [if_neg hl]
            · rw [hs9] at hk
              rw [if_neg (by omega)]
          have hpn : PartsIn w6 (fun k => r6 k = 4) NB (σ.parts ++ [srt g Q g.length]) (vs ++ [.slice (some ⟨B3, off3, none⟩) Q.length cap3]) := by
            have := HP2.out.snoc (T := srt g Q g.length) (B := B3) (off := off3) (cap := cap3) HRB6.out (by have := HTW6.out; omega) HTC6.out
            rwa [HTL.out] at this
          have HF10 := Lib.hid (HF9.out.putParts T9 hq9 hpn)
          have HK10 := Lib.hid (HKW6.out.trans ((Kept.of_turns 3 T9 (by have := HF9.out.low; omega) fun k hk => ⟨by omega, by
            by_cases hl : k < (w6).heap.size
            · exact HF9.out.lo k hl (by omega)
            · have := T9.size; have := HF9.out.low; omega⟩).trans (Kept.set w9 29 (.slice (some ⟨B', off', none⟩) (σ.parts.length + 1) cap') (by rw [if_pos hlt9, HF9.out.rf]; decide) hlow)))
          clear hq9 hpn T9 hT' hq' HROW HNEW HP2
          go_wp2_with fail
          go_end0
          exact ⟨rfl, _, by rw [HRES.out]; exact ⟨_, _, HF10.out⟩, HK10.out⟩
        · have HRES := Lib.hid (show σ.take g n k = ⟨σ.cnt, (σ.take g n k).num, σ.stk.take k, σ.parts⟩ by
            unfold TS.take
            rw [← HQE.out, HTL.out, if_neg (fun h => h.elim H1.out hself)])
          rw [decide_eq_false hself]
          clear hself
          go_wp2_with fail
          go_end0
          exact ⟨rfl, _, by rw [HRES.out]; exact ⟨_, _, HF6.out⟩, HKW6.out⟩
end Go.Proofs.YtdpjdhllaokbfaaGreat
