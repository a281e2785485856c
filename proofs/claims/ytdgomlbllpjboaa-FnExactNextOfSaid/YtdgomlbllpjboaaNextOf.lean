/-
  Contracts of NextOf, the program's and the model's.
-/
import Derived.Test.YtdgomlbllpjboaaTargets
namespace Go.Proofs.Ytdgomlbllpjboaa
open Go.RowKit Go.Sort

def nextVal (g : List Bl) (s : ByteArray) : ByteArray := if validB g then (match posOf g s with | some i => nthNext g i | none => ⟨#[]⟩) else ⟨#[]⟩
def nextHas (g : List Bl) (s : ByteArray) : Bool := validB g && (posOf g s).isSome

theorem nextVal_no {g : List Bl} {s : ByteArray} (h : validB g = false) : nextVal g s = ⟨#[]⟩ := by unfold nextVal; rw [h]; rfl
theorem nextHas_no {g : List Bl} {s : ByteArray} (h : validB g = false) : nextHas g s = false := by unfold nextHas; rw [h]; rfl
theorem nextVal_none {g : List Bl} {s : ByteArray} (hp : posOf g s = none) : nextVal g s = ⟨#[]⟩ := by unfold nextVal; rw [hp]; split <;> rfl
theorem nextHas_none {g : List Bl} {s : ByteArray} (hp : posOf g s = none) : nextHas g s = false := by unfold nextHas; rw [hp]; simp
theorem nextVal_some {g : List Bl} {s : ByteArray} {i : Nat} (h : validB g = true) (hp : posOf g s = some i) (hi : i < g.length) : nextVal g s = g[i].2 := by unfold nextVal; rw [if_pos h, hp]; exact nthNext_at hi
theorem nextHas_some {g : List Bl} {s : ByteArray} {i : Nat} (h : validB g = true) (hp : posOf g s = some i) : nextHas g s = true := by unfold nextHas; rw [h, hp]; rfl

def idxInt : Option Nat → Int
  | some i => i
  | none => -1

theorem index_any (A : Option Addr) (cap : Nat) (g : List Bl) (s : ByteArray) (w : World) (hg : Gr w A g) (hn : g.length ≤ 1048576) :
    Calls Try.prog 45 #[.slice A g.length cap, .string s] w fun e w' => e = .returned (.int .i64 (idxInt (posOf g s))) ∧ Below w.heap.size w w' := by
  go_enter Try.func45, Try.ntmps45
  go_wp2_with fail
  go_loopw [9] (fun i wr => ∃ k : Nat, k ≤ g.length ∧ i = .int .i64 k ∧ Hid (∀ j (h : j < g.length), j < k → g[j].1 ≠ s) ∧ Below w.heap.size w wr) (fun i _ => g.length - (intOf i).toNat)
  case atStart => exact ⟨0, Nat.zero_le _, rfl, fun j _ h => absurd h (by omega), Below.refl _ _⟩
  case round =>
    obtain ⟨k, hk, rfl, HK, hB⟩ := hrel
    by_cases hlt : k < g.length
    · obtain ⟨b, off, t, t2, rfl, hb, hc0, hc1, he, he2⟩ := gr_at (hg.below hB) hlt
      have HE := Lib.hid he
      clear he he2
      by_cases hq : (t.toList == s.toList) = true
      · have HP := Lib.hid (show posOf g s = some k from posOf_some hlt (HE.out.trans (beq_toList.1 hq)) HK.out)
        go_wp2_with fail
        go_ret
        exact ⟨ret_int (by rw [HP.out]; rfl), hB.alloc hB.size _⟩
      · have hq' : (t.toList == s.toList) = false := by simpa using hq
        have HNE := Lib.hid (show g[k].1 ≠ s from fun e => hq (beq_toList.2 (HE.out.symm.trans e)))
        clear hq
        go_wp2_with fail
        go_roundw
        case rel =>
          refine ⟨k + 1, by omega, by go_num, fun j h hj => ?_, hB.alloc hB.size _⟩
          rcases Nat.lt_succ_iff_lt_or_eq.1 hj with hj | rfl
          · exact HK.out j h hj
          · exact HNE.out
        case measure => simp [intOf]; omega
    · have HP := Lib.hid (show posOf g s = none from posOf_none fun j h => HK.out j h (by omega))
      go_wp2_with fail
      go_ret
      exact ⟨ret_int (by rw [HP.out]; rfl), hB⟩

theorem l1Next_any (A : Option Addr) (cap : Nat) (g : List Bl) (s : ByteArray) (i : Nat) (w : World) (hg : Gr w A g) (hn : g.length ≤ 1048576) (hp : posOf g s = some i) (hi : i < g.length) :
    Calls Try.prog 46 #[.slice A g.length cap, .string s] w fun e w' => e = .returned (.string g[i].2) ∧ Below w.heap.size w w' := by
  have hc := index_any A cap g s w hg hn
  rw [hp] at hc
  have HC : Hid (Calls Try.prog 45 #[.slice A g.length cap, .string s] w fun e w' => e = .returned (.int .i64 (i : Int)) ∧ Below w.heap.size w w') := hc
  clear hc hp
  obtain ⟨b, off, t, t2, rfl, hb, hc0, hc1, he, he2⟩ := gr_at hg hi
  have HE := Lib.hid he2
  clear he he2
  go_enter Try.func46, Try.ntmps46
  go_wp2_with fail
  refine HC.out.mono ?_
  rintro e w1 ⟨rfl, b1⟩
  have c1 := (b1.cell (p := ⟨b, off + i * 2 + 1, none⟩) hb).trans hc1
  go_wp2_with fail
  go_ret
  exact ⟨by rw [HE.out]; rfl, b1⟩

theorem specNext_any (A : Option Addr) (cap : Nat) (g : List Bl) (s : ByteArray) (w : World) (hg : Gr w A g) (hn : g.length + tot g ≤ 1048576) (hcap : g.length ≤ cap) :
    Calls Try.prog 16 #[.slice A g.length cap, .string s] w fun e w' => e = .returned (.tuple #[.string (nextVal g s), .bool (nextHas g s)]) ∧ Below w.heap.size w w' := by
  have hc := specValid_any A cap g w hg hn hcap
  by_cases hv : validB g = true
  · rw [hv] at hc
    have HC := Lib.hid hc
    clear hc
    have hx := index_any A cap g s
    cases hp : posOf g s with
    | none =>
      have H1 := Lib.hid (nextVal_none (g := g) hp)
      have H2 := Lib.hid (nextHas_none (g := g) hp)
      rw [hp] at hx
      have HX : Hid (∀ w, Gr w A g → g.length ≤ 1048576 → Calls Try.prog 45 #[.slice A g.length cap, .string s] w fun e w' => e = .returned (.int .i64 (-1)) ∧ Below w.heap.size w w') := hx
      clear hx hp hv
      go_enter Try.func16, Try.ntmps16
      go_wp2_with fail
      refine HC.out.mono ?_
      rintro e w1 ⟨rfl, b1⟩
      go_wp2_with fail
      refine (HX.out w1 (hg.below b1) (by omega)).mono ?_
      rintro e w2 ⟨rfl, b2⟩
      go_wp2_with fail
      go_ret2
      exact ⟨ret_sb H1.out.symm H2.out.symm, below_trans_self b1 b2⟩
    | some i =>
      obtain ⟨hi, _⟩ := posOf_is hp
      have H1 := Lib.hid (nextVal_some hv hp hi)
      have H2 := Lib.hid (nextHas_some hv hp)
      have HN := Lib.hid (fun w h1 h2 => l1Next_any A cap g s i w h1 h2 hp hi)
      rw [hp] at hx
      have HX : Hid (∀ w, Gr w A g → g.length ≤ 1048576 → Calls Try.prog 45 #[.slice A g.length cap, .string s] w fun e w' => e = .returned (.int .i64 (i : Int)) ∧ Below w.heap.size w w') := hx
      clear hx hp hv
      go_enter Try.func16, Try.ntmps16
      go_wp2_with fail
      refine HC.out.mono ?_
      rintro e w1 ⟨rfl, b1⟩
      go_wp2_with fail
      refine (HX.out w1 (hg.below b1) (by omega)).mono ?_
      rintro e w2 ⟨rfl, b2⟩
      go_wp2_with fail
      refine (HN.out w2 ((hg.below b1).below b2) (by omega)).mono ?_
      rintro e w3 ⟨rfl, b3⟩
      go_wp2_with fail
      go_ret2
      exact ⟨ret_sb H1.out.symm H2.out.symm, below_trans_self (below_trans_self b1 b2) b3⟩
  · have hv' : validB g = false := by simpa using hv
    rw [hv'] at hc
    have HC := Lib.hid hc
    have H1 := Lib.hid (nextVal_no (s := s) hv')
    have H2 := Lib.hid (nextHas_no (s := s) hv')
    clear hc hv hv'
    go_enter Try.func16, Try.ntmps16
    go_wp2_with fail
    refine HC.out.mono ?_
    rintro e w1 ⟨rfl, b1⟩
    go_wp2_with fail
    go_ret2
    exact ⟨ret_sb H1.out.symm H2.out.symm, b1⟩

set_option maxRecDepth 100000 in
theorem implNext_any (A : Option Addr) (cap : Nat) (g : List Bl) (s : ByteArray) (w : World) (hg : Gr w A g) (hn : g.length + tot g ≤ 1048576) :
    Calls Try.prog 14 #[.slice A g.length cap, .string s] w fun e w' => e = .returned (.tuple #[.string (nextVal g s), .bool (nextHas g s)]) ∧ Below w.heap.size w w' := by
  by_cases hv : validB g = true
  · have HC := Lib.hid (nodesOf_yes A cap g w hg hn hv)
    have h26 := (valid_iff.1 hv).2.1
    cases hp : posOf g s with
    | none =>
      have H1 := Lib.hid (nextVal_none (g := g) hp)
      have H2 := Lib.hid (nextHas_none (g := g) hp)
      have HP := Lib.hid hp
      clear hp hv
      go_enter Try.func14, Try.ntmps14
      go_wp2_with fail
      refine HC.out.mono ?_
      rintro e w1 ⟨NB, hle, rfl, hN, b1⟩
      have hx := named_any NB g _ g.length s w1 hN h26
      rw [HP.out] at hx
      have HX : Hid (Calls Try.prog 42 #[.slice (some ⟨NB, 0, none⟩) g.length g.length, .string s] w1 fun e w' => e = .returned (.pointer none) ∧ w1 = w') := hx
      clear hx hN
      go_wp2_with fail
      refine HX.out.mono ?_
      rintro e w2 ⟨rfl, rfl⟩
      go_wp2_with fail
      go_ret2
      exact ⟨ret_sb H1.out.symm H2.out.symm, b1⟩
    | some i =>
      obtain ⟨hi, _⟩ := posOf_is hp
      have H1 := Lib.hid (nextVal_some hv hp hi)
      have H2 := Lib.hid (nextHas_some hv hp)
      have HP := Lib.hid hp
      have HT := Lib.hid hv
      clear hp hv
      go_enter Try.func14, Try.ntmps14
      go_wp2_with fail
      refine HC.out.mono ?_
      rintro e w1 ⟨NB, hle, rfl, hN, b1⟩
      have hx := named_any NB g _ g.length s w1 hN h26
      rw [HP.out] at hx
      have HX : Hid (Calls Try.prog 42 #[.slice (some ⟨NB, 0, none⟩) g.length g.length, .string s] w1 fun e w' => e = .returned (.pointer (some ⟨nb NB i, 0, none⟩)) ∧ w1 = w') := hx
      have x2 := (hN.node i hi).cell 2
      obtain ⟨T, v, F, hd⟩ := disp (NB := NB) HT.out hi
      have hE : ends NB g i = .iface T v := by unfold ends; rw [nthNext_at hi]; exact hd.val
      rw [hE] at x2
      have hlook := hd.look
      have hent := hd.enter
      have HD := Lib.hid hd.goes
      have hs2 := (nextB_iff.1 (nextsB_iff.1 (valid_iff.1 HT.out).2.2.2 i hi)).1
      have HS2 := Lib.hid hs2
      have HNN := Lib.hid hN
      clear hE hd hN hs2 hx
      go_wp2_with fail
      refine HX.out.mono ?_
      rintro e w2 ⟨rfl, rfl⟩
      go_wp2_with fail
      refine (HD.out _ _ HNN.out).mono ?_
      rintro e w3 ⟨A3, rfl, hp3, b3⟩
      have hj := join_any A3 g[i].2.size (goList NB g g[i].2) w3 hp3 (by rw [goList_length NB g HS2.out]; have := HS2.out; omega) (by rw [joined_goes NB g HS2.out]; have := HS2.out; omega)
      rw [joined_goes NB g HS2.out, goList_length NB g HS2.out] at hj
      have HJ := Lib.hid hj
      clear hlook hent hj hp3
      go_wp2_with fail
      refine HJ.out.mono ?_
      rintro e w4 ⟨rfl, b4⟩
      go_wp2_with fail
      go_ret2
      exact ⟨ret_sb H1.out.symm H2.out.symm, below_trans_self (below_trans_self b1 b3) b4⟩
  · have hv' : validB g = false := by simpa using hv
    have HC := Lib.hid (nodesOf_no A cap g w hg hn hv')
    have H1 := Lib.hid (nextVal_no (s := s) hv')
    have H2 := Lib.hid (nextHas_no (s := s) hv')
    clear hv hv'
    go_enter Try.func14, Try.ntmps14
    go_wp2_with fail
    refine HC.out.mono ?_
    rintro e w1 ⟨rfl, b1⟩
    go_wp2_with fail
    refine (named_nil s w1 none 0).mono ?_
    rintro e w2 ⟨rfl, rfl⟩
    go_wp2_with fail
    go_ret2
    exact ⟨ret_sb H1.out.symm H2.out.symm, b1⟩
end Go.Proofs.Ytdgomlbllpjboaa
