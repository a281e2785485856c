/-
  Contracts of the program's HeadersOf and MeetsOf.
-/
import Derived.Test.YtdolbmonmkjajaaOrders
namespace Go.Proofs.Ytdolbmonmkjajaa
open Go.RowKit Go.Sort Go.Shelf Go.Maps Go.WideMaps

attribute [local go_sem] Oper.semAt_some

/-- No order, no goals. -/
theorem goalsOf_no (WB tb : Nat) (m : Nat) (mv kv : Value) (w : World) (hW : Blk w WB 66 #[.pointer (some ⟨tb, 0, none⟩), .slice none 0 0, mv]) (hT : TreeIn w tb (.slice none 0 0) (fun _ => 0) (fun _ => .pointer none)) :
    Calls Try.prog 63 #[.pointer (some ⟨WB, 0, none⟩), .int .i64 m, kv] w fun e w' => e = .returned (.slice none 0 0) ∧ w = w' := by
  have cW := hW.cell 0
  have cT := hT.nodes
  clear hW hT
  go_enter Try.func63, Try.ntmps63
  go_wp2_with fail
  go_loop [7, 18] (fun s i => s = .slice none 0 0 ∧ i = .int .i64 0) (fun _ _ => 0)
  case atStart => exact ⟨rfl, rfl⟩
  case round =>
    obtain ⟨rfl, rfl⟩ := hrel
    go_wp2_with fail
    go_ret
    exact ⟨rfl, rfl⟩

theorem headers_no (WB tb : Nat) (mv : Value) (w : World) (hW : Blk w WB 66 #[.pointer (some ⟨tb, 0, none⟩), .slice none 0 0, mv]) (hT : TreeIn w tb (.slice none 0 0) (fun _ => 0) (fun _ => .pointer none)) :
    Calls Try.prog 39 #[.pointer (some ⟨WB, 0, none⟩)] w fun e w' => e = .returned (.slice none 0 0) ∧ Below w.heap.size w w' := by
  have bk := (Below.refl w.heap.size w).alloc (Nat.le_refl _) (.cells #[.int .i64 1, .int .i64 2] 53)
  have HG := Lib.hid (goalsOf_no WB tb 1 mv (.slice (some ⟨w.heap.size, 0, none⟩) 2 2) (w.alloc (.cells #[.int .i64 1, .int .i64 2] 53)) (hW.alloc _) (hT.below bk))
  have HB := Lib.hid bk
  clear hW hT bk
  go_enter Try.func39, Try.ntmps39
  go_wp2_with fail
  refine HG.out.mono ?_
  rintro e w2 ⟨rfl, rfl⟩
  go_wp2_with fail
  go_ret
  exact ⟨rfl, HB.out⟩


theorem implHeaders_any (A : Option Addr) (cap : Nat) (g : List Bl) (w : World) (hg : Gr w A g) (hn : g.length + tot g ≤ 1048576) :
    Calls Try.prog 20 #[.slice A g.length cap] w fun e w' => e = .returned (.tuple #[.string (headV g), .bool (validB g)]) ∧ Below w.heap.size w w' := by
  unfold headV
  by_cases hv : validB g = true
  · rw [if_pos hv, hv]
    have HC := Lib.hid (wayOrderOf_yes A cap g w hg hn hv)
    have HV := Lib.hid hv
    have h26 := (valid_iff.1 hv).2.1
    clear hg hv
    go_enter Try.func20, Try.ntmps20
    go_wp2_with fail
    refine HC.out.mono ?_
    rintro e w1 ⟨WB, tb, NB, MB, A2, cap2, B, off, tcap, S, _, rfl, hO, hM, b1⟩
    have HO := Lib.hid hO
    have HB1 := Lib.hid b1
    have HG := Lib.hid (headers_own WB tb NB MB cap2 A2 g B off tcap S w1 HV.out hO hM)
    clear hO hM b1
    go_wp2_with fail
    refine HG.out.mono ?_
    rintro e w2 ⟨v, rfl, hown, b2⟩
    obtain ⟨A3, cap3, rfl, hP3, -⟩ := own_idx hown
    have HB2 := Lib.hid (HB1.out.trans (b2.mono HB1.out.size))
    have hll : (headL g).length ≤ 26 := by
      have h1 : (headL g).length ≤ (reachS g).length := goalL_len 1 backK
      have h2 := reachS_small HV.out
      omega
    have HJ := Lib.hid (joinIdx_any A3 NB cap3 g (headL g) w2 HV.out hP3 (HO.out.tree.nodes.below (b2)) (goalL_lt 1 backK) hll)
    clear hown hP3 b2 hll
    go_wp2_with fail
    refine HJ.out.mono ?_
    rintro e w3 ⟨rfl, b3⟩
    have HB3 := Lib.hid (HB2.out.trans (b3.mono HB2.out.size))
    clear b3
    go_wp2_with fail
    go_ret2
    exact ⟨rfl, HB3.out⟩
  · have hv : validB g = false := by simpa using hv
    rw [if_neg (by rw [hv]; simp), hv]
    have HC := Lib.hid (wayOrderOf_no A cap g w hg hn hv)
    clear hg hv
    go_enter Try.func20, Try.ntmps20
    go_wp2_with fail
    refine HC.out.mono ?_
    rintro e w1 ⟨WB, tb, mv, rfl, hW, hT, b1⟩
    have HB1 := Lib.hid b1
    have HG := Lib.hid (headers_no WB tb mv w1 hW hT)
    clear hW hT b1
    go_wp2_with fail
    refine HG.out.mono ?_
    rintro e w2 ⟨rfl, b2⟩
    have HB2 := Lib.hid (HB1.out.trans (b2.mono HB1.out.size))
    have HJ := Lib.hid (join_none none 0 w2)
    clear b2
    go_wp2_with fail
    refine HJ.out.mono ?_
    rintro e w3 ⟨rfl, b3⟩
    have HB3 := Lib.hid (HB2.out.trans (b3.mono HB2.out.size))
    clear b3
    go_wp2_with fail
    go_ret2
    exact ⟨rfl, HB3.out⟩

end Go.Proofs.Ytdolbmonmkjajaa

/-
  Contract of the program's IsTame.
-/
namespace Go.Proofs.Ytdolbmonmkjajaa
open Go.RowKit Go.Sort Go.Shelf

theorem implIsTame_any (A : Option Addr) (cap : Nat) (g : List Bl) (w : World) (hg : Gr w A g) (hn : g.length + tot g ≤ 1048576) :
    Calls Try.prog 18 #[.slice A g.length cap] w fun e w' => e = .returned (.bool (tameB g)) ∧ Below w.heap.size w w' := by
  have HC := Lib.hid (implWild_any A cap g w hg hn)
  clear hg
  go_enter Try.func18, Try.ntmps18
  go_wp2_with fail
  refine HC.out.mono ?_
  rintro e w1 ⟨v, rfl, hown, b1⟩
  have HB1 := Lib.hid b1
  by_cases hv : validB g = true
  · rw [if_pos hv] at hown
    obtain ⟨A2, cap2, rfl, -⟩ := own_strs hown
    rw [hv]
    have HV := Lib.hid hv
    clear b1 hown hv
    simp only [List.length_map]
    by_cases hz : (jumpL g wildK).length = 0
    · have hzI : (((jumpL g wildK).length : Int) == 0) = true := by rw [hz]; rfl
      have HZ := Lib.hid hz
      clear hz
      go_wp2_with fail
      go_ret
      exact ⟨ret_b (by unfold tameB; rw [HV.out, decide_eq_true HZ.out]; rfl), HB1.out⟩
    · have hzI : (((jumpL g wildK).length : Int) == 0) = false := beq_eq_false_iff_ne.2 fun e => hz (Int.ofNat.inj e)
      have HZ := Lib.hid hz
      clear hz
      go_wp2_with fail
      go_ret
      exact ⟨ret_b (by unfold tameB; rw [HV.out, decide_eq_false HZ.out]; rfl), HB1.out⟩
  · have hv : validB g = false := by simpa using hv
    rw [hv]
    have HV := Lib.hid hv
    clear b1 hown hv
    go_wp2_with fail
    go_ret
    exact ⟨ret_b (by unfold tameB; rw [HV.out]; rfl), HB1.out⟩
end Go.Proofs.Ytdolbmonmkjajaa
