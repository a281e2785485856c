/-
  The program's finder goes through a block.
-/
import Derived.Test.YtdpjdhllaokbfaaGreatFindTake
namespace Go.Proofs.YtdpjdhllaokbfaaGreat
open Go.RowKit Go.Sort Go.Shelf

/-- While the first jumps of a block are gone through. -/
def tl (g : List Bl) (S : List Nat) (m n : Nat) (σ : TS) (j : Nat) : Nat × TS := ((nxt g n).take j).foldl (tstep S (tvisit g S m)) (σ.cnt + 1, σ.push n)
theorem tl_zero (g : List Bl) (S : List Nat) (m n : Nat) (σ : TS) : tl g S m n σ 0 = (σ.cnt + 1, σ.push n) := rfl
theorem tl_succ {g : List Bl} {S : List Nat} {m n : Nat} {σ : TS} {j : Nat} (hj : j < (nxt g n).length) : tl g S m n σ (j + 1) = tstep S (tvisit g S m) (tl g S m n σ j) (nxt g n)[j] := by
  unfold tl; rw [List.take_succ_eq_append_getElem hj, List.foldl_append]; rfl
theorem tl_loop {g : List Bl} {S γ : List Nat} (hS : ∀ x ∈ S, x < g.length) (hSn : S.Nodup) (h26 : S.length ≤ 26) {m n : Nat} {σ : TS} (h : TInv g S γ σ) (hn : n ∈ S) (h0 : σ.num n = 0) (hto : ∀ a ∈ γ, To (nxS g S) a n) (hm : S.length ≤ m + 1 + σ.cnt) :
    ∀ j, j ≤ (nxt g n).length → TLoop g S γ σ n ((nxt g n).take j) (tl g S m n σ j).1 (tl g S m n σ j).2
  | 0, _ => TLoop.start h hSn h26 hn h0 hto
  | j + 1, hj => by
    have hl := tl_loop hS hSn h26 h hn h0 hto hm j (by omega)
    have hjl : j < (nxt g n).length := by omega
    have ht1 : (nxt g n)[j] ∈ nxt g n := List.getElem_mem hjl
    rw [tl_succ hjl, List.take_succ_eq_append_getElem hjl]
    unfold tstep
    by_cases hts : (nxt g n)[j] ∈ S
    · rw [if_pos hts]
      by_cases hv : (tl g S m n σ j).2.num (nxt g n)[j] = 0
      · rw [if_pos hv]
        have hjx : (nxt g n)[j] ∈ nxS g S n := mem_nxS.2 ⟨ht1, hts⟩
        refine hl.went h26 hjx (tvisit_post hS hSn h26 m _ (γ ++ [n]) _ hl.inv hts hv (fun a ha => ?_) (by have := hl.more; omega))
        rcases List.mem_append.1 ha with ha | ha
        · exact .step (hto a ha) hjx
        · rw [List.mem_singleton.1 ha]; exact .step (.refl _) hjx
      · rw [if_neg hv]
        exact hl.known h26 hts ht1 hv
    · rw [if_neg hts]; exact hl.skip hts
theorem tvisit_tl (g : List Bl) (S : List Nat) (m n : Nat) (σ : TS) : tvisit g S (m + 1) n σ = if (tl g S m n σ (nxt g n).length).1 = σ.cnt + 1 then ((tl g S m n σ (nxt g n).length).1, (tl g S m n σ (nxt g n).length).2.take g n σ.stk.length) else tl g S m n σ (nxt g n).length := by
  unfold tl; rw [List.take_length]; rfl

/-- There are no more parts than blocks that have been seen. -/
theorem tvisit_parts (g : List Bl) (S : List Nat) : ∀ (m n : Nat) (σ : TS), (tvisit g S m n σ).2.parts.length + σ.cnt ≤ σ.parts.length + (tvisit g S m n σ).2.cnt
  | 0, _, _ => Nat.le_refl _
  | m + 1, n, σ => by
    have key : ∀ (ts : List Nat) (a : Nat × TS), (ts.foldl (tstep S (tvisit g S m)) a).2.parts.length + a.2.cnt ≤ a.2.parts.length + (ts.foldl (tstep S (tvisit g S m)) a).2.cnt := by
      intro ts
      induction ts with
      | nil => exact fun _ => Nat.le_refl _
      | cons t ts ih =>
        intro a
        have h1 : (tstep S (tvisit g S m) a t).2.parts.length + a.2.cnt ≤ a.2.parts.length + (tstep S (tvisit g S m) a t).2.cnt := by
          unfold tstep
          split
          · split
            · exact tvisit_parts g S m t a.2
            · exact Nat.le_refl _
          · exact Nat.le_refl _
        have h2 := ih (tstep S (tvisit g S m) a t)
        rw [List.foldl_cons]
        omega
    have h1 := key (nxt g n) (σ.cnt + 1, σ.push n)
    have e1 : (σ.push n).cnt = σ.cnt + 1 := rfl
    have e2 : (σ.push n).parts = σ.parts := rfl
    simp only [e1, e2] at h1
    rw [tvisit]
    by_cases hc : ((nxt g n).foldl (tstep S (tvisit g S m)) (σ.cnt + 1, σ.push n)).1 = σ.cnt + 1
    · simp only [if_pos hc]
      generalize ((nxt g n).foldl (tstep S (tvisit g S m)) (σ.cnt + 1, σ.push n)).2 = τ at h1
      have h3 : (τ.take g n σ.stk.length).parts.length ≤ τ.parts.length + 1 := by
        unfold TS.take
        simp only
        split
        · simp
        · omega
      have h4 : (τ.take g n σ.stk.length).cnt = τ.cnt := rfl
      omega
    · simp only [if_neg hc]; omega
theorem tl_parts {g : List Bl} {S : List Nat} {m n : Nat} {σ : TS} (j : Nat) : (tl g S m n σ j).2.parts.length + σ.cnt + 1 ≤ σ.parts.length + (tl g S m n σ j).2.cnt := by
  unfold tl
  have key : ∀ (ts : List Nat) (a : Nat × TS), (ts.foldl (tstep S (tvisit g S m)) a).2.parts.length + a.2.cnt ≤ a.2.parts.length + (ts.foldl (tstep S (tvisit g S m)) a).2.cnt := by
    intro ts
    induction ts with
    | nil => exact fun _ => Nat.le_refl _
    | cons t ts ih =>
      intro a
      have h1 : (tstep S (tvisit g S m) a t).2.parts.length + a.2.cnt ≤ a.2.parts.length + (tstep S (tvisit g S m) a t).2.cnt := by
        unfold tstep
        split
        · split
          · exact tvisit_parts g S m t a.2
          · exact Nat.le_refl _
        · exact Nat.le_refl _
      have h2 := ih (tstep S (tvisit g S m) a t)
      rw [List.foldl_cons]
      omega
  have h1 := key ((nxt g n).take j) (σ.cnt + 1, σ.push n)
  have e1 : (σ.push n).cnt = σ.cnt + 1 := rfl
  have e2 : (σ.push n).parts = σ.parts := rfl
  simp only [e1, e2] at h1
  omega

set_option maxRecDepth 100000 in
set_option maxHeartbeats 4000000 in
theorem visitP_any (NB FB q B0 : Nat) (g : List Bl) (S : List Nat) (hv : validB g = true) (hS : ∀ x ∈ S, x < g.length) (hSn : S.Nodup) (hq : BitsOf q S) (hNB : ∀ i, i < g.length → nb NB i < B0) :
    ∀ (m n : Nat) (γ : List Nat) (σ : TS) (r : Nat → Nat) (w : World), TInv g S γ σ → n ∈ S → σ.num n = 0 → (∀ a ∈ γ, To (nxS g S) a n) → S.length ≤ m + σ.cnt → σ.parts.length ≤ σ.cnt → FindS w B0 r FB NB q σ → NodesIn w NB g →
    Calls Tryz.prog 89 #[.pointer (some ⟨FB, 0, none⟩), nptr NB n] w fun e w' => e = .returned (.int .i64 (tvisit g S m n σ).1) ∧ ∃ r', FindS w' B0 r' FB NB q (tvisit g S m n σ).2 ∧ Kept B0 r r' w w' := by
  intro m
  induction m with
  | zero =>
    intro n γ σ r w h hn h0 _ hm
    have := seenN_lt (num := σ.num) hn h0
    rw [← h.cnt] at this; omega
  | succ m ih =>
    intro n γ σ r w h hn h0 hto hm hpl hF hN
    obtain ⟨i0, hi0, hz0, hz1, hz2⟩ := info_parts info_ptr
    have h26 : S.length ≤ 26 := Nat.le_trans (nodup_lt_len _ _ hSn hS) (valid_iff.1 hv).2.1
    have hng := hS n hn
    have hn26 : n < 26 := by have := (valid_iff.1 hv).2.1; omega
    have hcl : σ.cnt < 26 := by have := seenN_lt (num := σ.num) hn h0; rw [← h.cnt] at this; omega
    have hsl : σ.stk.length ≤ 26 := by
      have := nodup_lt_len _ _ h.nodup (fun x hx => hS x (h.sub x hx))
      have := (valid_iff.1 hv).2.1
      omega
    have HTL := Lib.hid (tl_loop hS hSn h26 h hn h0 hto hm)
    have HIH := Lib.hid ih
    have HINV := Lib.hid h
    obtain ⟨v, u, hA⟩ := hF
    obtain ⟨T, tv, F2, hd⟩ := disp2 (NB := NB) hv hng
    have hblkn := hN n hng
    have x0 : w.cell? ⟨nb NB n, 0, none⟩ = some (.int .i64 n) := by have := hblkn.cell 0; simpa using this
    have c1 := hA.c1
    have f1 := hA.free 1
    have hlow := hA.low
    have hlt := hA.lt
    have hrf := hA.rf
    have s1 : IntKind.i64.wrap ((σ.cnt : Int) + 1) = ((σ.cnt + 1 : Nat) : Int) := by rw [IntWalk.i64_in _ (by omega)]; omega
    have HA := Lib.hid hA
    have HN := Lib.hid hN
    have HD := Lib.hid hd
    clear h hA hd hblkn ih hN
    go_enter Tryz.func89, Tryz.ntmps89
    go_wp2_with fail
    obtain ⟨w1, hw1⟩ : ∃ w1, w1 = w.setCell ⟨FB, 1, none⟩ (.int .i64 ((σ.cnt : Int) + 1)) := ⟨_, rfl⟩
    rw [← hw1]
    have hA1 : FindAt w1 B0 r FB NB q (σ.cnt + 1) σ.num v u σ.stk σ.parts := by rw [hw1]; exact HA.out.putCntI (σ.cnt + 1) (by omega)
    have hK1 : Kept B0 r r w w1 := by rw [hw1]; exact Kept.set w 1 _ (by rw [hrf]; decide) hlow
    have hN1 := HN.out.under hNB hK1.below
    have x1 : w1.cell? ⟨nb NB n, 0, none⟩ = some (.int .i64 n) := by have := (hN1 n hng).cell 0; simpa using this
    have cn := hA1.cn (k := n) (by omega)
    have fn := hA1.free (2 + n)
    have hx0 : (0 : Int) ≤ (n : Int) := by omega
    have hx1 : (n : Int) < 26 := by omega
    have HA1 := Lib.hid hA1
    have HK1 := Lib.hid hK1
    clear hw1 hA1 hK1 hN1 c1 f1 x0
    go_wp2_with fail
    go_region
    obtain ⟨w2, hw2⟩ : ∃ w2, w2 = (w1.setCell ⟨FB, 2 + n, none⟩ (.int .i64 ((σ.cnt : Int) + 1))).drew := ⟨_, rfl⟩
    rw [← hw2]
    have hA2 : FindAt w2 B0 r FB NB q (σ.cnt + 1) (fun k => if k = n then σ.cnt + 1 else σ.num k) v u σ.stk σ.parts := by rw [hw2]; exact (HA1.out.putNumI (x := (σ.cnt : Int) + 1) hn26 (σ.cnt + 1) (by omega)).drew
    have hK2 : Kept B0 r r w w2 := by rw [hw2]; exact HK1.out.trans (Kept.set w1 (2 + n) _ (by rw [hrf]; decide) hlow).drew
    have hlt2 := hA2.lt
    have c28 := hA2.cs
    have HROW := Lib.hid (show Row (w2.alloc (.cells #[nptr NB n] 73)) 73 1 (fun k => r k = 2) v σ.stk.length (σ.stk.map (nptr NB)) from
      hA2.srow.kept (Turns.keeps (O := fun _ => False) (Turns.alloc _ _ _) fun _ _ h => h) fun _ _ h => h)
    have HNEW := Lib.hid (cell_one_new w2 (nptr NB n) 73)
    have HA2 := Lib.hid hA2
    have HK2 := Lib.hid hK2
    clear hw2 HA1 HK1 hA2 hK2 x1 cn fn
    go_wp2_with (at_builtin; go_loud (refine wpList_append_rowK (by rfl) _ _ _ (by rfl) 73 i0 (.pointer none) 1 Tryz.underlying54 hi0 hz0 hz1 (by rw [hz2]; decide) rfl (fun k => r k = 2) v σ.stk.length (σ.stk.map (nptr NB)) (by rfl) HROW.out ⟨w2.heap.size, 0, none⟩ 1 1 [nptr NB n] (by rfl) (by rfl) HNEW.out (by simp [Value.oneCell']) ?c3 (by decide) ?_))
    case c3 => omega
    intro v' w3 hq' hT'
    obtain ⟨B', off', cap', rfl, _⟩ := hq'.cells
    have hs2 : (w2.alloc (.cells #[nptr NB n] 73)).heap.size = w2.heap.size + 1 := by simp
    have T3 : Turns (fun k => r k = 2) w2 w3 := (Turns.alloc _ w2 _).trans (hT'.wider fun k h => .inl h)
    have hq3 : Row w3 73 1 (fun k => (if k < w2.heap.size then r k else 2) = 2) (.slice (some ⟨B', off', none⟩) (σ.stk.length + 1) cap') (σ.stk ++ [n]).length ((σ.stk ++ [n]).map (nptr NB)) := by
      rw [List.length_append, List.map_append]
      refine .inr (hq'.kept (Keeps.refl _ _) fun k _ hk => ?_)
      rcases hk with hk | hk
      · by_cases hl : k < w2.heap.size
        · rw [if_pos hl]; exact hk
        · rw [if_neg hl]
      · rw [hs2] at hk
        rw [if_neg (by omega)]
    have hA4 := HA2.out.putStk T3 hq3
    have f28 : w3.frozen? ⟨FB, 28, none⟩ = false := by
      obtain ⟨cs, hb, _⟩ := HA2.out.blk
      exact Blk.frozen ((T3.block _ hb.lt (by rw [hrf]; decide)).trans hb) 28
    have cc28 : ∃ z, w3.cell? ⟨FB, 28, none⟩ = some z := by
      obtain ⟨cs, hb, hs, _⟩ := HA2.out.blk
      exact Blk.some_cell (i := 28) ((T3.block _ hb.lt (by rw [hrf]; decide)).trans hb) (by omega)
    obtain ⟨z28, cz28⟩ := cc28
    have hK4 : Kept B0 r (fun k => if k < w2.heap.size then r k else 2) w (w3.setCell ⟨FB, 28, none⟩ (.slice (some ⟨B', off', none⟩) (σ.stk.length + 1) cap')) :=
      (HK2.out.trans (Kept.of_turns 2 T3 (by omega) fun k hk => ⟨by omega, by
        by_cases hl : k < w2.heap.size
        · exact HA2.out.lo k hl (by omega)
        · omega⟩)).trans (Kept.set w3 28 _ (by rw [if_pos hlt2, hrf]; decide) hlow)
    have hN4 := HN.out.under hNB hK4.below
    have x2 : (w3.setCell ⟨FB, 28, none⟩ (.slice (some ⟨B', off', none⟩) (σ.stk.length + 1) cap')).cell? ⟨nb NB n, 2, none⟩ = some (.iface T tv) := by have := (hN4 n hng).cell 2; rw [HD.out.val] at this; simpa using this
    have hlook := HD.out.look
    have hent := HD.out.enter
    have HA4 := Lib.hid hA4
    have HK4 := Lib.hid hK4
    clear hA4 hK4 hN4 hq3 T3 hT' hq' c28 HA2 HK2 HROW HNEW hs2
    go_wp2_with fail
    obtain ⟨w4, hw4⟩ : ∃ w4, w4 = w3.setCell ⟨FB, 28, none⟩ (.slice (some ⟨B', off', none⟩) (σ.stk.length + 1) cap') := ⟨_, rfl⟩
    rw [← hw4] at HA4 HK4 ⊢
    clear hw4 x2 f28 cz28
    obtain ⟨r4, hr4⟩ : ∃ r4 : Nat → Nat, r4 = fun k => if k < w2.heap.size then r k else 2 := ⟨_, rfl⟩
    rw [← hr4] at HA4 HK4
    have hrf4 : r4 FB = 1 := HA4.out.rf
    clear hr4 hlt2
    refine (HD.out.goes _).mono ?_
    rintro e w5 ⟨A5, rfl, hB5, hrow5⟩
    have hlow4 : B0 ≤ w4.heap.size := by have := HA4.out.lt; omega
    have hA5 := HA4.out.below hB5 0
    have hK5 := HK4.out.trans (Kept.of_below r4 0 hB5 hlow4)
    obtain ⟨r5, hr5⟩ : ∃ r5 : Nat → Nat, r5 = fun k => if k < w4.heap.size then r4 k else 0 := ⟨_, rfl⟩
    rw [← hr5] at hA5 hK5
    have HP5 : Hid (0 < (nxt g n).length → ∃ b, A5 = some ⟨b, 0, none⟩ ∧ b < w5.heap.size ∧ r5 b = 0 ∧ ∀ j (h : j < (nxt g n).length), w5.cell? ⟨b, j, none⟩ = some (nptr NB (nxt g n)[j])) := fun hp => by
      obtain ⟨b, rfl, hb, hk⟩ := hrow5 hp
      refine ⟨b, rfl, hk.lt, by rw [hr5]; exact if_neg (by omega), fun j hj => ?_⟩
      rw [hk.cell, List.getElem?_toArray, List.getElem?_map, List.getElem?_eq_getElem hj]; rfl
    have hn2 : (nxt g n).length ≤ 2 := nxt_two hv hng
    have HS5 : Hid (FindS w5 B0 r5 FB NB q (tl g S m n σ 0).2) := ⟨_, _, hA5⟩
    have HK5 := Lib.hid hK5
    have hrf5 := hA5.rf
    have hnxS : ∀ t ∈ nxt g n, t < g.length := fun t ht => nxt_lt hv hng ht
    have HNX := Lib.hid hnxS
    clear hr5 hA5 hK5 hrow5 hlook hent HA4 HK4 hB5 hnxS
    go_wp2_with fail
    go_loopw [6, 46] (fun lv i wr => ∃ (j : Nat) (r' : Nat → Nat), j ≤ (nxt g n).length ∧ i = .int .i64 j ∧ lv = .int .i64 (tl g S m n σ j).1 ∧ Hid (FindS wr B0 r' FB NB q (tl g S m n σ j).2) ∧ Hid (Kept B0 r5 r' w5 wr)) (fun _ i _ => (nxt g n).length - (intOf i).toNat)
    case atStart => exact ⟨0, r5, Nat.zero_le _, rfl, rfl, HS5.out, Kept.refl _ _ _⟩
    case round =>
      obtain ⟨j, r', hj, rfl, rfl, HF, HKR⟩ := hrel
      have hLP := HTL.out j hj
      have hNR := (HN.out.under hNB HK5.out.below).under hNB HKR.out.below
      obtain ⟨v6, u6, hF6⟩ := HF.out
      have hcnt6 : (tl g S m n σ j).2.cnt ≤ 26 := hLP.inv.small h26
      have hpl6 : (tl g S m n σ j).2.parts.length ≤ (tl g S m n σ j).2.cnt := by have := tl_parts (g := g) (S := S) (m := m) (n := n) (σ := σ) j; omega
      by_cases hlt : j < (nxt g n).length
      · obtain ⟨b5, hA5e, hb5, hrb5, hc5⟩ := HP5.out (by omega)
        subst hA5e
        obtain ⟨t, ht⟩ : ∃ t, t = (nxt g n)[j] := ⟨_, rfl⟩
        have htm : t ∈ nxt g n := ht ▸ List.getElem_mem hlt
        have htl := HNX.out t htm
        have ht26 : t < 26 := by have := (valid_iff.1 hv).2.1; omega
        have xt : wr.cell? ⟨b5, j, none⟩ = some (nptr NB t) := by
          rw [World.cell?_of_block (HKR.out.wider hb5 hrb5).1, hc5 j hlt, ht]
        have x0 : wr.cell? ⟨nb NB t, 0, none⟩ = some (.int .i64 t) := by have := (hNR t htl).cell 0; simpa using this
        have c0 := hF6.c0
        have HSU := Lib.hid (tl_succ (g := g) (S := S) (m := m) (σ := σ) hlt)
        rw [← ht] at HSU
        have HH := Lib.hid (has_any q (nb NB t) t wr hq.1 x0 ht26)
        have HNR := Lib.hid hNR
        have HF6 := Lib.hid hF6
        have HLP := Lib.hid hLP
        obtain ⟨a, ha⟩ : ∃ a, a = tl g S m n σ j := ⟨_, rfl⟩
        rw [← ha] at HSU HF6 HLP hcnt6 hpl6 ⊢
        clear ht hc5 hNR hF6 hLP ha HF HS5
        by_cases hts : t ∈ S
        · have hbt : q.testBit t = true := (hq.2 t ht26).2 hts
          rw [hbt] at HH
          have cn := HF6.out.cn ht26
          have hx0 : (0 : Int) ≤ (t : Int) := by omega
          have hx1 : (t : Int) < 26 := by omega
          clear hbt
          by_cases hvz : a.2.num t = 0
          · have q1 : ((a.2.num t : Int) == 0) = true := by rw [hvz]; rfl
            have HIT := Lib.hid (HIH.out t (γ ++ [n]) a.2 r' wr.drew HLP.out.inv hts hvz (fun x hx => by
              have hjx : t ∈ nxS g S n := mem_nxS.2 ⟨htm, hts⟩
              rcases List.mem_append.1 hx with hx | hx
              · exact .step (hto x hx) hjx
              · rw [List.mem_singleton.1 hx]; exact .step (.refl _) hjx) (by have := HLP.out.more; omega) hpl6 ⟨_, _, HF6.out.drew⟩ (fun i h => HNR.out i h))
            have HSV := Lib.hid (show tl g S m n σ (j + 1) = (min a.1 (tvisit g S m t a.2).1, (tvisit g S m t a.2).2) by rw [HSU.out]; unfold tstep; rw [if_pos hts, if_pos hvz])
            have hmin : min (a.1 : Int) ((tvisit g S m t a.2).1 : Int) = ((min a.1 (tvisit g S m t a.2).1 : Nat) : Int) := by omega
            have HMIN := Lib.hid hmin
            clear hvz hmin
            go_wp2_with fail
            refine HH.out.mono ?_
            rintro e w6 ⟨rfl, rfl⟩
            go_wp2_with fail
            go_region
            go_wp2_with fail
            refine HIT.out.mono ?_
            rintro e w7 ⟨rfl, r7, hF7, hK7⟩
            have HF7 := Lib.hid hF7
            have HK7 := Lib.hid (HKR.out.drew.trans hK7)
            clear hF7 hK7
            go_wp2_with fail
            go_roundw
            case rel => exact ⟨j + 1, r7, by omega, by go_num, by rw [HSV.out, ← HMIN.out], by rw [HSV.out]; exact HF7.out, HK7.out⟩
            case measure => simp [intOf]; omega
          · have q1 : ((a.2.num t : Int) == 0) = false := by simpa using hvz
            have HSV := Lib.hid (show tl g S m n σ (j + 1) = (min a.1 (a.2.num t), a.2) by rw [HSU.out]; unfold tstep; rw [if_pos hts, if_neg hvz])
            have HMIN := Lib.hid (show min (a.1 : Int) (a.2.num t : Int) = ((min a.1 (a.2.num t) : Nat) : Int) by omega)
            clear hvz
            go_wp2_with fail
            refine HH.out.mono ?_
            rintro e w6 ⟨rfl, rfl⟩
            go_wp2_with fail
            go_region
            go_wp2_with fail
            go_region
            go_wp2_with fail
            go_roundw
            case rel => exact ⟨j + 1, r', by omega, by go_num, by rw [HSV.out, ← HMIN.out], by rw [HSV.out]; exact ⟨_, _, HF6.out.drew.drew⟩, HKR.out.drew.drew⟩
            case measure => simp [intOf]; omega
        · have hbt : q.testBit t = false := Bool.eq_false_iff.2 fun e => hts ((hq.2 t ht26).1 e)
          rw [hbt] at HH
          have HSV := Lib.hid (show tl g S m n σ (j + 1) = a by rw [HSU.out]; unfold tstep; rw [if_neg hts])
          clear hbt hts
          go_wp2_with fail
          refine HH.out.mono ?_
          rintro e w6 ⟨rfl, rfl⟩
          go_wp2_with fail
          go_roundw
          case rel => exact ⟨j + 1, r', by omega, by go_num, by rw [HSV.out], by rw [HSV.out]; exact ⟨_, _, HF6.out⟩, HKR.out⟩
          case measure => simp [intOf]; omega
      · have hjl : j = (nxt g n).length := by omega
        subst hjl
        rw [List.take_length] at hLP
        have HTV := Lib.hid (tvisit_tl g S m n σ)
        obtain ⟨a, ha⟩ : ∃ a, a = tl g S m n σ (nxt g n).length := ⟨_, rfl⟩
        rw [← ha] at HTV hLP hcnt6 hpl6 hF6 ⊢
        have HF6 := Lib.hid hF6
        have HLP := Lib.hid hLP
        have HKE := Lib.hid (HK5.out.trans HKR.out)
        clear ha hF6 HF HS5
        by_cases hc : a.1 = σ.cnt + 1
        · have q1 : ((a.1 : Int) == (σ.cnt : Int) + 1) = true := by rw [hc]; simp
          obtain ⟨rest, hrest⟩ := hLP.pre
          have hst : a.2.stk = σ.stk ++ (n :: rest) := by rw [← hrest, List.append_assoc]; rfl
          have HTK := Lib.hid (takeP_any NB FB q B0 n σ.stk.length g a.2 r' wr hv hNB ⟨_, _, HF6.out⟩ hNR (fun x hx => hS x (hLP.inv.sub x hx)) hLP.inv.nodup (by rw [hst]; simp) (by simp [hst]) (by omega))
          have HR := Lib.hid (show tvisit g S (m + 1) n σ = (a.1, a.2.take g n σ.stk.length) by rw [HTV.out, if_pos hc])
          clear hc hrest hst hLP hNR
          go_wp2_with fail
          refine HTK.out.mono ?_
          rintro e w6 ⟨rfl, r6, hF7, hK7⟩
          have HF7 := Lib.hid hF7
          have HK7 := Lib.hid (HKE.out.trans hK7)
          clear hF7 hK7
          go_wp2_with fail
          go_ret
          exact ⟨ret_int (show (a.1 : Int) = ((tvisit g S (m + 1) n σ).1 : Int) by rw [HR.out]), r6, by rw [HR.out]; exact HF7.out, HK7.out⟩
        · have q1 : ((a.1 : Int) == (σ.cnt : Int) + 1) = false := by simpa using fun e => hc (by omega)
          have HR := Lib.hid (show tvisit g S (m + 1) n σ = a by rw [HTV.out, if_neg hc])
          clear hc hLP hNR
          go_wp2_with fail
          go_ret
          exact ⟨ret_int (show (a.1 : Int) = ((tvisit g S (m + 1) n σ).1 : Int) by rw [HR.out]), r', by rw [HR.out]; exact ⟨_, _, HF6.out⟩, HKE.out⟩
end Go.Proofs.YtdpjdhllaokbfaaGreat
