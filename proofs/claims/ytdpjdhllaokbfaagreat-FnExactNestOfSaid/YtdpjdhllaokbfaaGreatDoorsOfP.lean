/-
  The program's doors of a part.
-/
import Derived.Test.YtdpjdhllaokbfaaGreatNestAt
namespace Go.Proofs.YtdpjdhllaokbfaaGreat
open Go.RowKit Go.Sort Go.Shelf

/-- What is entered when the first k of the reached blocks have been looked at. -/
def entL (g : List Bl) (P : List Nat) (k : Nat) : List Nat := [0] ++ ((reachS g).take k).flatMap fun x => if x ∈ P then [] else nxt g x
theorem entL_succ {g : List Bl} {P : List Nat} {k : Nat} (hk : k < (reachS g).length) : entL g P (k + 1) = entL g P k ++ (if (reachS g)[k] ∈ P then [] else nxt g (reachS g)[k]) := by
  unfold entL; rw [List.take_succ_eq_append_getElem hk, List.flatMap_append, ← List.append_assoc]; simp
theorem mem_entL {g : List Bl} {P : List Nat} {x : Nat} : x ∈ entL g P (reachS g).length ↔ doorB g P x = true := by
  unfold entL doorB
  rw [List.take_length, List.mem_append, List.mem_singleton, List.mem_flatMap, Bool.or_eq_true, decide_eq_true_eq, List.any_eq_true]
  refine or_congr Iff.rfl ⟨?_, ?_⟩
  · rintro ⟨k, hk, h⟩
    by_cases e : k ∈ P
    · rw [if_pos e] at h; cases h
    · rw [if_neg e] at h; exact ⟨k, hk, by simp [e, h]⟩
  · rintro ⟨k, hk, h⟩
    rw [Bool.and_eq_true, Bool.not_eq_true', decide_eq_false_iff_not, decide_eq_true_eq] at h
    exact ⟨k, hk, by rw [if_neg h.1]; exact h.2⟩
theorem BitsOf.app {q : Nat} {S : List Nat} {S' : List Nat} (h : BitsOf q S) (e : S = S') : BitsOf q S' := e ▸ h
theorem reachS_zero {g : List Bl} (hv : validB g = true) : (reachS g)[0]? = some 0 := by
  have h0 : 0 ∈ reachS g := (mem_reachP hv).2 (.start (by simp))
  obtain ⟨k, hk, e⟩ := List.getElem_of_mem h0
  rcases Nat.eq_zero_or_pos k with rfl | hk0
  · rw [List.getElem?_eq_getElem hk, e]
  · have := List.pairwise_iff_getElem.1 (reachS_up g) 0 k (by omega) hk hk0
    omega
theorem reachS_lt {g : List Bl} (hv : validB g = true) {x : Nat} (h : x ∈ reachS g) : x < g.length := reach_lt hv ((mem_reach hv).2 ((mem_reachP hv).1 h))
theorem reachS_len {g : List Bl} (hv : validB g = true) : (reachS g).length ≤ 26 := by have := srt_len g (reach g) g.length; rw [← reachS_srt] at this; have := (valid_iff.1 hv).2.1; omega

/-- The closure: is a block not entered? -/
theorem doorsOf1_pred (NB E B q : Nat) (g : List Bl) (L : List Nat) (w0 : World) (hg26 : g.length ≤ 26) (hq : q < 4294967296) (hE : w0.cell? ⟨E, 0, none⟩ = some (.int .u32 q)) (hEl : E < w0.heap.size) (hEB : E ≠ B) (hN : NodesIn w0 NB g) (hNB : ∀ i, i < g.length → nb NB i ≠ B) (hL : ∀ x ∈ L, x < g.length) :
    PredN 106 #[.pointer (some ⟨E, 0, none⟩)] NB (fun x => !q.testBit x) L B w0 where
  enter := enters_of Tryz.func106 (by kernel_rfl) rfl
  goes := by
    intro W hT x hx
    have hxl := hL x hx
    have cE : W.cell? ⟨E, 0, none⟩ = some (.int .u32 q) := by rw [World.cell?_of_block (hT.block E hEl hEB)]; exact hE
    have x0 : W.cell? ⟨nb NB x, 0, none⟩ = some (.int .i64 x) := by
      rw [World.cell?_of_block (hT.block _ (hN x hxl).lt (hNB x hxl))]; have := (hN x hxl).cell 0; simpa using this
    have HH := Lib.hid (has_any q (nb NB x) x W hq x0 (by omega))
    clear hT hN hE x0
    show Calls Tryz.prog 106 #[nptr NB x, .pointer (some ⟨E, 0, none⟩)] W _
    go_enter Tryz.func106, Tryz.ntmps106
    go_wp2_with fail
    refine HH.out.mono ?_
    rintro e w2 ⟨rfl, rfl⟩
    go_wp2_with fail
    go_ret
    exact ⟨rfl, rfl⟩

set_option maxRecDepth 100000 in
set_option maxHeartbeats 4000000 in
theorem doorsOf_any (TB NB cap : Nat) (A : Option Addr) (g : List Bl) (P : List Nat) (w : World) (hv : validB g = true) (hT : NestT w TB NB g) (hP : PtsI w A NB P) (hPg : ∀ x ∈ P, x < g.length) (hPn : P.Nodup) (h0 : 0 < P.length) :
    Calls Tryz.prog 91 #[.pointer (some ⟨TB, 0, none⟩), .slice A P.length cap] w fun e w' => ∃ B off c, e = .returned (.slice (some ⟨B, off, none⟩) (doorsL g P).length c) ∧ w.heap.size ≤ B ∧ RowN w' B off NB (doorsL g P) ∧ Below w.heap.size w w' := by
  have hg26 := (valid_iff.1 hv).2.1
  have hg0 := (valid_iff.1 hv).1
  have hPl : P.length ≤ 26 := Nat.le_trans (nodup_lt_len _ _ hPn hPg) hg26
  obtain ⟨RA, rc, u, hB, hR, hrc⟩ := hT.blk
  have hr0 := reachS_zero hv
  have hrl := reachS_len hv
  have hrpos : 0 < (reachS g).length := by
    rcases Nat.eq_zero_or_pos (reachS g).length with h | h
    · rw [List.eq_nil_of_length_eq_zero h] at hr0; cases hr0
    · exact h
  obtain ⟨rb, roff, rfl, hrb, hrow⟩ := hR hrpos
  have hr00 : (reachS g)[0] = 0 := by rw [List.getElem?_eq_getElem hrpos] at hr0; exact Option.some.inj hr0
  have cT := hB.cell 0
  have hrcI : (1 : Int) ≤ rc := by omega
  have HS1 := Lib.hid (setOf_any A NB cap g P w hP hT.nodes hPg hg26 (by omega))
  have HS2 := Lib.hid (setOf_any (some ⟨rb, roff, none⟩) NB rc g [0] w (fun _ => ⟨rb, roff, rfl, hrb, fun k hk => by
    have e : k = 0 := by simp at hk; omega
    subst e
    have := hrow 0 hrpos
    rw [hr00] at this
    simpa using this⟩) hT.nodes (fun x hx => by rw [List.mem_singleton.1 hx]; exact hg0) hg26 (by simp))
  have HROW := Lib.hid hrow
  have HN := Lib.hid hT.nodes
  have HB := Lib.hid hB
  have HP := Lib.hid hP
  have HRL := Lib.hid (fun x hx => reachS_lt (x := x) hv hx)
  clear hB hR hr0 hrow hr00 hT hP
  go_enter Tryz.func91, Tryz.ntmps91
  go_wp2_with fail
  refine HS1.out.mono ?_
  rintro e w1 ⟨q, rfl, hq, rfl⟩
  go_wp2_with fail
  refine HS2.out.mono ?_
  rintro e w1 ⟨q0, rfl, hq0, rfl⟩
  have HQ := Lib.hid hq
  have HQ0 := Lib.hid hq0
  clear hq hq0
  have cT2 : (w.alloc (.cells #[.int .u32 q0] 120)).cell? ⟨TB, 0, none⟩ = some (.slice (some ⟨rb, roff, none⟩) (reachS g).length rc) := by
    have := ((Below.refl _ w).alloc (Nat.le_refl _) (.cells #[.int .u32 q0] 120)).cell (p := ⟨TB, 0, none⟩) HB.out.lt
    rw [this]; exact cT
  go_wp2_with fail
  obtain ⟨w2, hw2⟩ : ∃ w2, w2 = w.alloc (.cells #[.int .u32 q0] 120) := ⟨_, rfl⟩
  rw [← hw2]
  have hb2 : Below w.heap.size w w2 := by rw [hw2]; exact (Below.refl _ w).alloc (Nat.le_refl _) _
  have hs2 : w2.heap.size = w.heap.size + 1 := by rw [hw2]; simp
  have hE2 : Boxed w2 w.heap.size 120 (.int .u32 q0) := by rw [hw2]; exact Boxed.new w _ _
  have HB2 := Lib.hid hb2
  have HE2 := Lib.hid hE2
  clear hw2 hb2 hE2 cT2 cT
  go_loopw [24] (fun i wr => ∃ (j q' : Nat), j ≤ (reachS g).length ∧ i = .int .i64 j ∧ Hid (Boxed wr w.heap.size 120 (.int .u32 q')) ∧ Hid (BitsOf q' (entL g P j)) ∧ Hid (Below w.heap.size w wr)) (fun i _ => (reachS g).length - (intOf i).toNat)
  case atStart => exact ⟨0, q0, Nat.zero_le _, rfl, HE2.out, HQ0.out, HB2.out⟩
  case round =>
    obtain ⟨j, q', hj, rfl, HE, HQE, HBR⟩ := hrel
    have HNR := Lib.hid (HN.out.below HBR.out)
    by_cases hlt : j < (reachS g).length
    · obtain ⟨x, hx⟩ : ∃ x, x = (reachS g)[j] := ⟨_, rfl⟩
      have hxg := HRL.out x (hx ▸ List.getElem_mem hlt)
      have cx : wr.cell? ⟨rb, roff + j, none⟩ = some (nptr NB x) := by
        rw [HBR.out.cell (p := ⟨rb, roff + j, none⟩) hrb, hx]; exact HROW.out j hlt
      have x0 : wr.cell? ⟨nb NB x, 0, none⟩ = some (.int .i64 x) := by have := (HNR.out x hxg).cell 0; simpa using this
      have HH := Lib.hid (has_any q (nb NB x) x wr HQ.out.1 x0 (by omega))
      have HES := Lib.hid (entL_succ (P := P) hlt)
      rw [← hx] at HES
      clear hx x0
      by_cases hxP : x ∈ P
      · have hbt : q.testBit x = true := (HQ.out.2 x (by omega)).2 hxP
        rw [hbt] at HH
        have HE3 := Lib.hid (show entL g P (j + 1) = entL g P j by rw [HES.out, if_pos hxP, List.append_nil])
        clear hbt hxP
        go_wp2_with fail
        refine HH.out.mono ?_
        rintro e w5 ⟨rfl, rfl⟩
        go_wp2_with fail
        go_roundw
        case rel => exact ⟨j + 1, q', by omega, by go_num, HE.out, HE3.out ▸ HQE.out, HBR.out⟩
        case measure => simp [intOf]; omega
      · have hbt : q.testBit x = false := Bool.eq_false_iff.2 fun e => hxP ((HQ.out.2 x (by omega)).1 e)
        rw [hbt] at HH
        have HE3 := Lib.hid (show entL g P (j + 1) = entL g P j ++ nxt g x by rw [HES.out, if_neg hxP])
        obtain ⟨T, tv, F2, hd⟩ := disp2 (NB := NB) hv hxg
        have x2 : wr.cell? ⟨nb NB x, 2, none⟩ = some (.iface T tv) := by have := (HNR.out x hxg).cell 2; rw [hd.val] at this; simpa using this
        have hlook := hd.look
        have hent := hd.enter
        have HD := Lib.hid hd.goes
        have HNX := Lib.hid (show ∀ t ∈ nxt g x, t < g.length from fun t ht => nxt_lt hv hxg ht)
        have hn2 : (nxt g x).length ≤ 2 := nxt_two hv hxg
        clear hbt hxP hd
        go_wp2_with fail
        refine HH.out.mono ?_
        rintro e w5 ⟨rfl, rfl⟩
        go_wp2_with fail
        refine (HD.out _).mono ?_
        rintro e w6 ⟨A6, rfl, hB6, hrow6⟩
        have HP6 : Hid (0 < (nxt g x).length → ∃ b, A6 = some ⟨b, 0, none⟩ ∧ w.heap.size < b ∧ b < w6.heap.size ∧ ∀ k (h : k < (nxt g x).length), w6.cell? ⟨b, k, none⟩ = some (nptr NB (nxt g x)[k])) := fun hp => by
          obtain ⟨b, rfl, hb, hk⟩ := hrow6 hp
          refine ⟨b, rfl, Nat.lt_of_lt_of_le HE.out.lt hb, hk.lt, fun k hkk => ?_⟩
          rw [hk.cell, List.getElem?_toArray, List.getElem?_map, List.getElem?_eq_getElem hkk]; rfl
        have HE6 : Hid (Boxed w6 w.heap.size 120 (.int .u32 q')) := (hB6.block _ HE.out.lt).trans HE.out
        have HB6 := Lib.hid (HBR.out.trans (hB6.mono HBR.out.size))
        clear hrow6 hB6
        go_wp2_with fail
        go_loopw [38] (fun i wr => ∃ (k q'' : Nat), k ≤ (nxt g x).length ∧ i = .int .i64 k ∧ Hid (Boxed wr w.heap.size 120 (.int .u32 q'')) ∧ Hid (BitsOf q'' (entL g P j ++ (nxt g x).take k)) ∧ Hid (Turns (fun k => k = w.heap.size) w6 wr)) (fun i _ => (nxt g x).length - (intOf i).toNat)
        case atStart => exact ⟨0, q', Nat.zero_le _, rfl, HE6.out, by rw [List.take_zero, List.append_nil]; exact HQE.out, Turns.refl _ _⟩
        case round =>
          obtain ⟨k, q'', hk, rfl, HE7, HQ7, HT7⟩ := hrel
          have hB7 : Below w.heap.size w wr := HB6.out.trans (HT7.out.below HB6.out.size fun k h => by omega)
          by_cases hlk : k < (nxt g x).length
          · obtain ⟨b, hAe, hbE, hbl, hc⟩ := HP6.out (by omega)
            subst hAe
            obtain ⟨t, ht⟩ : ∃ t, t = (nxt g x)[k] := ⟨_, rfl⟩
            have htg := HNX.out t (ht ▸ List.getElem_mem hlk)
            have ct : wr.cell? ⟨b, k, none⟩ = some (nptr NB t) := by
              rw [World.cell?_of_block (HT7.out.block b hbl (by omega)), ht]; exact hc k hlk
            have t0 : wr.cell? ⟨nb NB t, 0, none⟩ = some (.int .i64 t) := by have := ((HN.out.below hB7) t htg).cell 0; simpa using this
            have cE := HE7.out.cell
            have fE := HE7.out.frozen
            have HW := Lib.hid (with_any q'' (nb NB t) t wr HQ7.out.1 t0 (by omega))
            have HS7 := Lib.hid (show BitsOf (q'' ||| 2 ^ t) (entL g P j ++ (nxt g x).take (k + 1)) by
              have := HQ7.out.snoc (k := t) (by omega)
              rw [List.take_succ_eq_append_getElem hlk, ← ht, ← List.append_assoc]; exact this)
            have HE8 := Lib.hid (HE7.out.set (.int .u32 ((q'' ||| 2 ^ t : Nat) : Int)))
            clear ht hc t0 hB7
            go_wp2_with fail
            refine HW.out.mono ?_
            rintro e w8 ⟨rfl, rfl⟩
            go_wp2_with fail
            go_roundw
            case rel => exact ⟨k + 1, q'' ||| 2 ^ t, by omega, by go_num, HE8.out, HS7.out, HT7.out.trans ((Turns.setCell (O := fun k => k = w.heap.size) (A := wr) (p := ⟨w.heap.size, 0, none⟩) rfl (.int .u32 ((q'' ||| 2 ^ t : Nat) : Int))).wider fun k h => .inl h)⟩
            case measure => simp [intOf]; omega
          · have HQ8 := Lib.hid (show BitsOf q'' (entL g P (j + 1)) by have := HQ7.out; rw [List.take_of_length_le (by omega)] at this; rw [HE3.out]; exact this)
            have HB8 := Lib.hid hB7
            clear hB7
            go_wp2_with fail
            go_roundw
            case rel => exact ⟨j + 1, q'', by omega, by go_num, HE7.out, HQ8.out, HB8.out⟩
            case measure => simp [intOf]; omega
    · have HQ9 := Lib.hid (show BitsOf q' (entL g P (reachS g).length) by have := HQE.out; rwa [show j = (reachS g).length by omega] at this)
      have HCL := Lib.hid (cloneN_any A NB cap P wr (HP.out.below HBR.out) (by omega) h0)
      clear HQE
      go_wp2_with fail
      refine HCL.out.mono ?_
      rintro e w5 ⟨B5, off5, c5, rfl, hB5, hc5, hR5, hb5⟩
      have hE5 : Boxed w5 w.heap.size 120 (.int .u32 q') := (hb5.block _ HE.out.lt).trans HE.out
      have hB5w : Below w.heap.size w w5 := HBR.out.trans (hb5.mono HBR.out.size)
      have hEl := HE.out.lt
      have hNl : ∀ i, i < g.length → nb NB i < w.heap.size := fun i hi => (HN.out i hi).lt
      have HDF := Lib.hid (deleteFuncN_any NB c5 B5 off5 106 #[.pointer (some ⟨w.heap.size, 0, none⟩)] (fun x => !q'.testBit x) P w5 hR5
        (doorsOf1_pred NB w.heap.size B5 q' g P w5 hg26 HQ9.out.1 hE5.cell hE5.lt (by omega) (HN.out.below hB5w) (fun i hi => by have := hNl i hi; omega) hPg) (by omega) hc5 h0)
      have HDL := Lib.hid (show (P.filter fun x => !(!q'.testBit x)) = doorsL g P by
        unfold doorsL
        refine List.filter_congr fun x hx => ?_
        rw [Bool.not_not, Bool.eq_iff_iff, HQ9.out.2 x (by have := hPg x hx; omega), mem_entL])
      have HB5w := Lib.hid hB5w
      have hB5' : w.heap.size ≤ B5 := by omega
      clear hR5 hb5 hE5 hB5w hNl
      go_wp2_with fail
      refine HDF.out.mono ?_
      rintro e w6 ⟨rfl, hR6, hT6⟩
      have HR6 := Lib.hid hR6
      have HT6 := Lib.hid hT6
      clear hR6 hT6
      go_wp2_with fail
      go_ret
      exact ⟨B5, off5, c5, ret_slN (by rw [← HDL.out]; simp only [Bool.not_not]), hB5', by rw [← HDL.out]; exact HR6.out, HB5w.out.trans (HT6.out.below HB5w.out.size fun k h => by omega)⟩
end Go.Proofs.YtdpjdhllaokbfaaGreat
