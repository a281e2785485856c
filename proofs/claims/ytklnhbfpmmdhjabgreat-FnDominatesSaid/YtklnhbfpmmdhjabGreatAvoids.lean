/-
  Contracts of AvoidsIn, the model's and the program's.
-/
import Derived.Test.YtklnhbfpmmdhjabGreatL3Ways
import Derived.Test.YtklnhbfpmmdhjabGreatImplWays
import Derived.Test.YtklnhbfpmmdhjabGreatTrace
import Derived.Test.YtklnhbfpmmdhjabGreatNamedLive
import Derived.Test.YtklnhbfpmmdhjabGreatReachedNodes
namespace Go.Proofs.YtklnhbfpmmdhjabGreat
open Go.RowKit Go.Sort Go.Shelf

/-- The best choices to a block with one name that avoid a reached one with another. -/
def AvoidAns (g : List Bl) (sa sb : ByteArray) (s : ByteArray) (ok : Bool) : Prop :=
  (∃ a, liveOf g sa = some a ∧ FirstWay g [a] (Named g sb) s ok) ∨ (liveOf g sa = none ∧ s = ⟨#[]⟩ ∧ ok = false)

theorem AvoidAns.unique {g : List Bl} {sa sb s s' : ByteArray} {ok ok' : Bool} (h : AvoidAns g sa sb s ok) (h' : AvoidAns g sa sb s' ok') : s = s' ∧ ok = ok' := by
  rcases h with ⟨a, v, h⟩ | ⟨v, rfl, rfl⟩ <;> rcases h' with ⟨a', v', h'⟩ | ⟨v', rfl, rfl⟩
  · rw [v] at v'
    obtain rfl := Option.some.inj v'
    exact h.unique h'
  · rw [v] at v'; cases v'
  · rw [v] at v'; cases v'
  · exact ⟨rfl, rfl⟩

def AvoidPost (g : List Bl) (sa sb : ByteArray) (w : World) (e : Ending) (w' : World) : Prop :=
  ∃ s ok, e = .returned (.tuple #[.string s, .bool ok]) ∧ AvoidAns g sa sb s ok ∧ Below w.heap.size w w'

/-- A run with these choices comes there soon. -/
def AvoidSoon (g : List Bl) (sa sb : ByteArray) (s : ByteArray) (ok : Bool) : Prop := ∀ a, liveOf g sa = some a → SoonAt g [a] (Named g sb) s ok

def AvoidSoonPost (g : List Bl) (sa sb : ByteArray) (w : World) (e : Ending) (w' : World) : Prop :=
  ∃ s ok, e = .returned (.tuple #[.string s, .bool ok]) ∧ AvoidAns g sa sb s ok ∧ AvoidSoon g sa sb s ok ∧ Below w.heap.size w w'

theorem avoid_dead {g : List Bl} {sa sb : ByteArray} {a : Nat} (ha : liveOf g sa = some a) (hb : liveOf g sb = none) : AvoidAns g sa sb ⟨#[]⟩ false := by
  refine .inl ⟨a, ha, .inr ⟨rfl, rfl, fun j c hj hl => ?_⟩⟩
  obtain ⟨hv, _, _⟩ := liveOf_is ha
  have hr : j ∈ reach g := (mem_reach hv).2 (hl.rch.mono (by simp))
  have hp : posOf g sb = some j := by rw [← hj.2, nthName_at hj.1]; exact posOf_name hv hj.1
  rw [liveOf_some hv hp hr] at hb
  cases hb

theorem avoid_dom {g : List Bl} {sa sb : ByteArray} {a b : Nat} (ha : liveOf g sa = some a) (hb : liveOf g sb = some b) (hd : dmB g a b = true) : AvoidAns g sa sb ⟨#[]⟩ false := by
  refine .inl ⟨a, ha, .inr ⟨rfl, rfl, fun j c hj hl => ?_⟩⟩
  obtain ⟨hv, hp, _⟩ := liveOf_is hb
  have e : j = b := (named_one hv hp j).2 hj
  subst e
  unfold dmB at hd
  rcases Bool.or_eq_true_iff.1 hd with h | h
  · have e := of_decide_eq_true h
    subst e
    exact hl.out (by simp)
  · exact of_decide_eq_true h ((mem_reachW hv).2 hl.rch)

set_option maxRecDepth 100000 in
set_option maxHeartbeats 1000000 in
theorem specAvoids_any (A : Option Addr) (cap : Nat) (g : List Bl) (sa sb : ByteArray) (w : World) (hg : Gr w A g) (hn : g.length + tot g ≤ 1048576) (hcap : g.length ≤ cap) :
    Calls Tryz.prog 26 #[.slice A g.length cap, .string sa, .string sb] w (AvoidPost g sa sb w) := by
  have hL1 := l3Live_any A cap g sa w hg hn hcap
  have hL2 := fun w h => l3Live_any A cap g sb w h hn hcap
  have HG := Lib.hid hg
  cases ha : liveOf g sa with
  | none =>
    rw [ha] at hL1
    have HL1 : Hid (Calls Tryz.prog 72 #[.slice A g.length cap, .string sa] w fun e w' => e = .returned (.int .i64 (-1)) ∧ Below w.heap.size w w') := hL1
    have HA : Hid (AvoidAns g sa sb ⟨#[]⟩ false) := .inr ⟨ha, rfl, rfl⟩
    clear hL1 hL2 ha hg
    go_enter Tryz.func26, Tryz.ntmps26
    go_wp2_with fail
    refine HL1.out.mono ?_
    rintro e w1 ⟨rfl, b1⟩
    go_wp2_with fail
    go_ret2
    exact ⟨_, _, rfl, HA.out, b1⟩
  | some a =>
    rw [ha] at hL1
    have HL1 : Hid (Calls Tryz.prog 72 #[.slice A g.length cap, .string sa] w fun e w' => e = .returned (.int .i64 (a : Int)) ∧ Below w.heap.size w w') := hL1
    obtain ⟨hv, hpa, _⟩ := liveOf_is ha
    obtain ⟨hal, hna⟩ := posOf_is hpa
    have qa : decide ((a : Int) < 0) = false := decide_eq_false (by omega)
    cases hb : liveOf g sb with
    | none =>
      rw [hb] at hL2
      have HL2 : Hid (∀ w, Gr w A g → Calls Tryz.prog 72 #[.slice A g.length cap, .string sb] w fun e w' => e = .returned (.int .i64 (-1)) ∧ Below w.heap.size w w') := hL2
      have HA := Lib.hid (avoid_dead ha hb)
      clear hL1 hL2 ha hb hg hv hpa hna
      go_enter Tryz.func26, Tryz.ntmps26
      go_wp2_with fail
      refine HL1.out.mono ?_
      rintro e w1 ⟨rfl, b1⟩
      go_wp2_with fail
      refine (HL2.out w1 (HG.out.below b1)).mono ?_
      rintro e w2 ⟨rfl, b2⟩
      go_wp2_with fail
      go_ret2
      exact ⟨_, _, rfl, HA.out, below_trans_self b1 b2⟩
    | some b =>
      rw [hb] at hL2
      have HL2 : Hid (∀ w, Gr w A g → Calls Tryz.prog 72 #[.slice A g.length cap, .string sb] w fun e w' => e = .returned (.int .i64 (b : Int)) ∧ Below w.heap.size w w') := hL2
      obtain ⟨_, hpb, _⟩ := liveOf_is hb
      obtain ⟨hbl, hnb⟩ := posOf_is hpb
      have qb : decide ((b : Int) < 0) = false := decide_eq_false (by omega)
      have HDM := Lib.hid (fun w (h : Gr w A g) => l3Dominates_any A cap g sa sb a b w h (by omega) hv hal hbl (by rw [nthName_at hal, hna]) (by rw [nthName_at hbl, hnb]))
      cases hd : dmB g a b with
      | true =>
        rw [hd] at HDM
        have HA := Lib.hid (avoid_dom ha hb hd)
        clear hL1 hL2 ha hb hg hv hpa hna hpb hnb hd
        go_enter Tryz.func26, Tryz.ntmps26
        go_wp2_with fail
        refine HL1.out.mono ?_
        rintro e w1 ⟨rfl, b1⟩
        go_wp2_with fail
        refine (HL2.out w1 (HG.out.below b1)).mono ?_
        rintro e w2 ⟨rfl, b2⟩
        have g2 := (HG.out.below b1).below b2
        go_wp2_with fail
        refine (HDM.out w2 g2).mono ?_
        rintro e w3 ⟨rfl, b3⟩
        go_wp2_with fail
        go_ret2
        exact ⟨_, _, rfl, HA.out, below_trans_self (below_trans_self b1 b2) b3⟩
      | false =>
        rw [hd] at HDM
        have HW := Lib.hid (fun w (h : Gr w A g) => l3Ways_any A cap g sa a w h (by omega) hv hal (by rw [nthName_at hal, hna]))
        have hx := fun w (h : Gr w A g) => index_any A cap g sb w h (by omega)
        rw [hpb] at hx
        have HX : Hid (∀ w, Gr w A g → Calls Tryz.prog 88 #[.slice A g.length cap, .string sb] w fun e w' => e = .returned (.int .i64 (b : Int)) ∧ Below w.heap.size w w') := hx
        have HO := Lib.hid (named_one hv hpb)
        have HAA := Lib.hid ha
        clear hL1 hL2 ha hb hg hv hpa hna hpb hnb hd hx
        go_enter Tryz.func26, Tryz.ntmps26
        go_wp2_with fail
        refine HL1.out.mono ?_
        rintro e w1 ⟨rfl, b1⟩
        go_wp2_with fail
        refine (HL2.out w1 (HG.out.below b1)).mono ?_
        rintro e w2 ⟨rfl, b2⟩
        have g2 := (HG.out.below b1).below b2
        go_wp2_with fail
        refine (HDM.out w2 g2).mono ?_
        rintro e w3 ⟨rfl, b3⟩
        have g3 := g2.below b3
        have HB3 := Lib.hid (below_trans_self (below_trans_self b1 b2) b3)
        clear b1 b2 b3
        go_wp2_with fail
        refine (HW.out w3 g3).mono ?_
        rintro e w4 ⟨WB, TB, σ, rfl, hW, hT, hF, b4⟩
        have HW4 := Lib.hid hW
        have HT4 := Lib.hid hT
        have HF4 := Lib.hid hF
        have HB4 := Lib.hid (below_trans_self HB3.out b4)
        have g4 := g3.below b4
        clear hW hT hF b4
        go_wp2_with fail
        refine (HX.out w4 g4).mono ?_
        rintro e w5 ⟨rfl, b5⟩
        have x1 := (HW4.out.below b5 HW4.out.lt).cell b
        have x2 := (HT4.out.below b5 HT4.out.lt).cell b
        rw [waysC_get _ hbl] at x1
        rw [thereC_get _ hbl] at x2
        have HB5 := Lib.hid (below_trans_self HB4.out b5)
        have q0 : (0 : Int) ≤ b := by omega
        clear b5
        go_wp2_with fail
        go_quiet (fail)
        go_wp2_with fail
        go_ret2
        exact ⟨_, _, rfl, .inl ⟨a, HAA.out, (HF4.out.one b).same fun j _ => HO.out j⟩, below_trans_self HB5.out (below_drewN _ nq)⟩

/-! ### The program -/

theorem wants_name2 (NB MB : Nat) (g : List Bl) (nm : ByteArray) (w : World) (hM : w.cell? ⟨MB, 0, none⟩ = some (.string nm)) (hl : MB < w.heap.size) : Wants (nameIs g nm) NB g 86 #[.pointer (some ⟨MB, 0, none⟩)] w where
  enter := enters_of Tryz.func86 (by kernel_rfl) rfl
  goes := by
    intro W i hi hB hN
    have x1 : W.cell? ⟨nb NB i, 1, none⟩ = some (.string g[i].1) := by have := (hN i hi).cell 1; simpa using this
    have x2 := (hB.cell (p := ⟨MB, 0, none⟩) hl).trans hM
    rw [← nthName_at hi] at x1
    show Calls Tryz.prog 86 #[nptr NB i, .pointer (some ⟨MB, 0, none⟩)] W _
    clear hB hN hM
    go_enter Tryz.func86, Tryz.ntmps86
    go_wp2_with fail
    go_quiet (fail)
    go_wp2_with fail
    go_ret
    exact ⟨rfl, below_drewN W _⟩

set_option maxRecDepth 100000 in
set_option maxHeartbeats 1000000 in
theorem implAvoidsSoon_any (A : Option Addr) (cap : Nat) (g : List Bl) (sa sb : ByteArray) (w : World) (hg : Gr w A g) (hn : g.length + tot g ≤ 1048576) :
    Calls Tryz.prog 25 #[.slice A g.length cap, .string sa, .string sb] w (AvoidSoonPost g sa sb w) := by
  have hg0 := hg.below ((Below.refl _ w).alloc (Nat.le_refl _) (.cells #[.string sb] 9))
  cases hv : validB g with
  | false =>
    have HC := Lib.hid (reachedNodes_no A cap g _ hg0 hn hv)
    have HA : Hid (AvoidAns g sa sb ⟨#[]⟩ false) := .inr ⟨liveOf_no hv, rfl, rfl⟩
    have HNM := Lib.hid (fun W => namedAt_any none 0 0 [] [] sa W (fun h => absurd h (by simp)) (fun i hi => absurd hi (by simp)) (by simp) (by simp))
    clear hv
    go_enter Tryz.func25, Tryz.ntmps25
    go_wp2_with fail
    refine HC.out.mono ?_
    rintro e w1 ⟨rfl, b1⟩
    have HB1 := Lib.hid (((Below.refl _ w).alloc (Nat.le_refl _) (.cells #[.string sb] 9)).trans (b1.mono (by simp)))
    clear b1
    go_wp2_with fail
    refine (named_nil sa w1 none 0).mono ?_
    rintro e w2 ⟨rfl, rfl⟩
    go_wp2_with fail
    go_ret2
    exact ⟨_, _, rfl, HA.out, fun _ _ => soon_none _ _ _ _, HB1.out⟩
  | true =>
    have HC := Lib.hid (reachedNodes_yes A cap g _ hg0 hn hv)
    have HV := Lib.hid hv
    have hrl : ∀ j ∈ reachS g, j < g.length := fun j hj => reach_lt hv ((reachS_perm hv).subset hj)
    have hlen : (reachS g).length ≤ 26 := by rw [(reachS_perm hv).length_eq]; have := reach_len hv; have := (valid_iff.1 hv).2.1; omega
    have hfirst : ∃ h : 0 < (reachS g).length, (reachS g)[0] = 0 := by
      have h0 : 0 ∈ reachS g := (reachS_perm hv).symm.subset ((mem_reach hv).2 (.start (by simp)))
      have hp : 0 < (reachS g).length := List.length_pos_of_mem h0
      refine ⟨hp, ?_⟩
      obtain ⟨k, hk, e⟩ := List.getElem_of_mem h0
      rcases Nat.eq_zero_or_pos k with rfl | hk0
      · exact e
      · have := List.pairwise_iff_getElem.1 (reachS_up g) 0 k hp hk hk0
        omega
    obtain ⟨h0, e0⟩ := hfirst
    clear hv
    go_enter Tryz.func25, Tryz.ntmps25
    go_wp2_with fail
    refine HC.out.mono ?_
    rintro e w1 ⟨NB, A', cap', hle, rfl, hP, hN, b1⟩
    have hPI := pts_idx hP
    obtain ⟨bb, off, rfl, hbb, hcell⟩ := hPI h0
    have x0 := hcell 0 h0
    rw [e0] at x0
    have x0' : w1.cell? ⟨bb, off, none⟩ = some (nptr NB 0) := by simpa using x0
    have HN := Lib.hid hN
    have HPI := Lib.hid hPI
    have hmk : (w.alloc (.cells #[.string sb] 9)).cell? ⟨w.heap.size, 0, none⟩ = some (.string sb) := (Blk.new w 9 #[.string sb]).cell 0
    have HM := Lib.hid ((b1.cell (p := ⟨w.heap.size, 0, none⟩) (by simp)).trans hmk)
    have HML := Lib.hid (show w.heap.size < w1.heap.size by have := b1.size; simp at this; omega)
    have HB1 := Lib.hid (((Below.refl _ w).alloc (Nat.le_refl _) (.cells #[.string sb] 9)).trans (b1.mono (by simp)))
    have HNA := Lib.hid (namedAt_any (some ⟨bb, off, none⟩) NB cap' g (reachS g) sa w1 hPI hN hrl (by omega))
    rw [named_live HV.out] at HNA
    clear hP hN b1 hmk hPI hcell x0
    cases ha : liveOf g sa with
    | none =>
      rw [ha] at HNA
      have HA : Hid (AvoidAns g sa sb ⟨#[]⟩ false) := .inr ⟨ha, rfl, rfl⟩
      have HNA2 : Hid (Calls Tryz.prog 83 #[.slice (some ⟨bb, off, none⟩) (reachS g).length cap', .string sa] w1 fun e w' => e = .returned (.pointer none) ∧ w1 = w') := HNA
      clear ha HNA
      go_wp2_with fail
      refine HNA2.out.mono ?_
      rintro e w2 ⟨rfl, rfl⟩
      go_wp2_with fail
      go_ret2
      exact ⟨_, _, rfl, HA.out, fun _ _ => soon_none _ _ _ _, HB1.out⟩
    | some a =>
      rw [ha] at HNA
      have HNA2 : Hid (Calls Tryz.prog 83 #[.slice (some ⟨bb, off, none⟩) (reachS g).length cap', .string sa] w1 fun e w' => e = .returned (nptr NB a) ∧ w1 = w') := HNA
      obtain ⟨_, hpa, _⟩ := liveOf_is ha
      obtain ⟨hal, _⟩ := posOf_is hpa
      have HAA := Lib.hid ha
      clear ha HNA hpa
      go_wp2_with fail
      refine HNA2.out.mono ?_
      rintro e w2 ⟨rfl, rfl⟩
      go_wp2_with fail
      refine (firstWay_any (nameIs g sb) NB g (some a) 86 #[.pointer (some ⟨w.heap.size, 0, none⟩)] w1 HV.out (fun x h => by cases h; exact hal) HN.out (wants_name2 NB w.heap.size g sb w1 HM.out HML.out)).mono ?_
      rintro e w3 ⟨s, ok, rfl, hF, hS, b3⟩
      have HF := Lib.hid hF
      have HS := Lib.hid hS
      clear hF hS
      go_wp2_with fail
      go_ret2
      exact ⟨s, ok, rfl, .inl ⟨a, HAA.out, HF.out.same fun i h => name_wanted HV.out i h⟩, fun a' ha' => by
        rw [HAA.out] at ha'
        obtain rfl := Option.some.inj ha'
        exact HS.out.same fun i h => name_wanted HV.out i h, below_trans_self HB1.out b3⟩

theorem implAvoids_any (A : Option Addr) (cap : Nat) (g : List Bl) (sa sb : ByteArray) (w : World) (hg : Gr w A g) (hn : g.length + tot g ≤ 1048576) :
    Calls Tryz.prog 25 #[.slice A g.length cap, .string sa, .string sb] w (AvoidPost g sa sb w) :=
  (implAvoidsSoon_any A cap g sa sb w hg hn).mono fun _ _ ⟨s, ok, he, ha, _, hb⟩ => ⟨s, ok, he, ha, hb⟩

end Go.Proofs.YtklnhbfpmmdhjabGreat
