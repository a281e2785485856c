/-
  Contracts of the program's OrderOf, BackJumps, WildJumps.
-/
import Derived.Test.YtdolbmonmkjajaaGreatJumpsOf
namespace Go.Proofs.YtdolbmonmkjajaaGreat
open Go.RowKit Go.Sort Go.Shelf Go.Maps Go.WideMaps

attribute [local go_sem] Oper.semAt_some

theorem joinIdx_any (A : Option Addr) (NB cap : Nat) (g : List Bl) (L : List Nat) (w : World) (hv : validB g = true) (hP : PtsI w A NB L) (hN : NodesIn w NB g) (hL : ∀ i ∈ L, i < g.length) (hl : L.length ≤ 26) :
    Calls Tryz.prog 60 #[.slice A L.length cap] w fun e w' => e = .returned (.string (namesAt g L)) ∧ Below w.heap.size w w' := by
  have hj := join_any A cap (nodesAt NB g L) w (pts_of_idx hP hN hL) (by rw [nodesAt_length]; omega) (by rw [joined_nodesAt, namesAt_size hv _ hL]; omega)
  rw [nodesAt_length, joined_nodesAt] at hj
  exact hj

/-- What OrderOf answers. -/
def orderV (g : List Bl) : ByteArray := if validB g = true then namesAt g (wayOrd g) else ⟨#[]⟩

theorem implOrder_any (A : Option Addr) (cap : Nat) (g : List Bl) (w : World) (hg : Gr w A g) (hn : g.length + tot g ≤ 1048576) :
    Calls Tryz.prog 21 #[.slice A g.length cap] w fun e w' => e = .returned (.tuple #[.string (orderV g), .bool (validB g)]) ∧ Below w.heap.size w w' := by
  unfold orderV
  by_cases hv : validB g = true
  · rw [if_pos hv, hv]
    have HC := Lib.hid (wayOrderOf_yes A cap g w hg hn hv)
    have HV := Lib.hid hv
    have h26 := (valid_iff.1 hv).2.1
    have hwl := wayOrd_len hv
    clear hg hv
    go_enter Tryz.func21, Tryz.ntmps21
    go_wp2_with fail
    refine HC.out.mono ?_
    rintro e w1 ⟨WB, tb, NB, MB, A2, cap2, B, off, tcap, S, _, rfl, hO, hM, b1⟩
    have cW := hO.store.cell 1
    have HJ := Lib.hid (joinIdx_any A2 NB cap2 g (wayOrd g) w1 HV.out hO.row hO.tree.nodes (wayOrd_lt HV.out) (by omega))
    have HB1 := Lib.hid b1
    clear hO hM b1
    go_wp2_with fail
    refine HJ.out.mono ?_
    rintro e w2 ⟨rfl, b2⟩
    have HB2 := Lib.hid (HB1.out.trans (b2.mono HB1.out.size))
    clear b2
    go_wp2_with fail
    go_ret2
    exact ⟨rfl, HB2.out⟩
  · have hv : validB g = false := by simpa using hv
    rw [if_neg (by rw [hv]; simp), hv]
    have HC := Lib.hid (wayOrderOf_no A cap g w hg hn hv)
    clear hg hv
    go_enter Tryz.func21, Tryz.ntmps21
    go_wp2_with fail
    refine HC.out.mono ?_
    rintro e w1 ⟨WB, tb, mv, rfl, hW, _, b1⟩
    have cW := hW.cell 1
    have HJ := Lib.hid (join_any none 0 [] w1 (fun h => absurd h (by simp)) (Nat.zero_le _) (Nat.zero_le _))
    have HB1 := Lib.hid b1
    clear hW b1
    go_wp2_with fail
    refine HJ.out.mono ?_
    rintro e w2 ⟨rfl, b2⟩
    have HB2 := Lib.hid (HB1.out.trans (b2.mono HB1.out.size))
    clear b2
    go_wp2_with fail
    go_ret2
    exact ⟨rfl, HB2.out⟩

/-- No order, no jumps. -/
theorem jumpsOf_no (WB : Nat) (tv mv : Value) (kv : Value) (w : World) (hW : Blk w WB 71 #[tv, .slice none 0 0, mv]) :
    Calls Tryz.prog 69 #[.pointer (some ⟨WB, 0, none⟩), kv] w fun e w' => e = .returned (.slice none 0 0) ∧ w = w' := by
  have cW := hW.cell 1
  clear hW
  go_enter Tryz.func69, Tryz.ntmps69
  go_wp2_with fail
  go_loop [5, 16] (fun s i => s = .slice none 0 0 ∧ i = .int .i64 0) (fun _ _ => 0)
  case atStart => exact ⟨rfl, rfl⟩
  case round =>
    obtain ⟨rfl, rfl⟩ := hrel
    go_wp2_with fail
    go_ret
    exact ⟨rfl, rfl⟩

theorem implBack_any (A : Option Addr) (cap : Nat) (g : List Bl) (w : World) (hg : Gr w A g) (hn : g.length + tot g ≤ 1048576) :
    Calls Tryz.prog 23 #[.slice A g.length cap] w (JumpsPost backK w g) := by
  unfold JumpsPost
  by_cases hv : validB g = true
  · rw [if_pos hv, hv]
    have HC := Lib.hid (wayOrderOf_yes A cap g w hg hn hv)
    have HV := Lib.hid hv
    clear hg hv
    go_enter Tryz.func23, Tryz.ntmps23
    go_wp2_with fail
    refine HC.out.mono ?_
    rintro e w1 ⟨WB, tb, NB, MB, A2, cap2, B, off, tcap, S, _, rfl, hO, hM, b1⟩
    have b2 := (Below.refl w1.heap.size w1).alloc (Nat.le_refl _) (.cells #[.int .i64 1, .int .i64 2] 78)
    have k2 : KindsAt (w1.alloc (.cells #[.int .i64 1, .int .i64 2] 78)) w1.heap.size [1, 2] := Blk.new w1 _ _
    have HJ := Lib.hid (jumpsOf_own backK [1, 2] w1.heap.size backK_mem (by decide) WB tb NB MB cap2 A2 g B off tcap S _ HV.out (hO.below b2) (hM.keep (b2.block MB hM.lt)) k2)
    have HB2 := Lib.hid (b1.trans (b2.mono b1.size))
    have hs1 := b1.size
    clear hO hM b1 b2 k2
    go_wp2_with fail
    refine HJ.out.mono ?_
    rintro e w3 ⟨v, rfl, hown, b3⟩
    have HW := Lib.hid (own_lower hown (by simp; omega : w.heap.size ≤ _))
    have HB3 := Lib.hid (HB2.out.trans (b3.mono HB2.out.size))
    clear hown b3
    go_wp2_with fail
    go_ret2
    exact ⟨v, rfl, HW.out, HB3.out⟩
  · have hv : validB g = false := by simpa using hv
    rw [if_neg (by rw [hv]; simp), hv]
    have HC := Lib.hid (wayOrderOf_no A cap g w hg hn hv)
    clear hg hv
    go_enter Tryz.func23, Tryz.ntmps23
    go_wp2_with fail
    refine HC.out.mono ?_
    rintro e w1 ⟨WB, tb, mv, rfl, hW, _, b1⟩
    have b2 := (Below.refl w1.heap.size w1).alloc (Nat.le_refl _) (.cells #[.int .i64 1, .int .i64 2] 78)
    have HJ := Lib.hid (fun kv => jumpsOf_no WB _ mv kv (w1.alloc (.cells #[.int .i64 1, .int .i64 2] 78)) (hW.alloc _))
    have HB2 := Lib.hid (b1.trans (b2.mono b1.size))
    clear hW b1 b2
    go_wp2_with fail
    refine (HJ.out _).mono ?_
    rintro e w3 ⟨rfl, rfl⟩
    go_wp2_with fail
    go_ret2
    exact ⟨_, rfl, World.ownsRow_nil _ _ _ _, HB2.out⟩

theorem implWild_any (A : Option Addr) (cap : Nat) (g : List Bl) (w : World) (hg : Gr w A g) (hn : g.length + tot g ≤ 1048576) :
    Calls Tryz.prog 36 #[.slice A g.length cap] w (JumpsPost wildK w g) := by
  unfold JumpsPost
  by_cases hv : validB g = true
  · rw [if_pos hv, hv]
    have HC := Lib.hid (wayOrderOf_yes A cap g w hg hn hv)
    have HV := Lib.hid hv
    clear hg hv
    go_enter Tryz.func36, Tryz.ntmps36
    go_wp2_with fail
    refine HC.out.mono ?_
    rintro e w1 ⟨WB, tb, NB, MB, A2, cap2, B, off, tcap, S, _, rfl, hO, hM, b1⟩
    have b2 := (Below.refl w1.heap.size w1).alloc (Nat.le_refl _) (.cells #[.int .i64 2] 78)
    have k2 : KindsAt (w1.alloc (.cells #[.int .i64 2] 78)) w1.heap.size [2] := Blk.new w1 _ _
    have HJ := Lib.hid (jumpsOf_own wildK [2] w1.heap.size wildK_mem (by decide) WB tb NB MB cap2 A2 g B off tcap S _ HV.out (hO.below b2) (hM.keep (b2.block MB hM.lt)) k2)
    have HB2 := Lib.hid (b1.trans (b2.mono b1.size))
    have hs1 := b1.size
    clear hO hM b1 b2 k2
    go_wp2_with fail
    refine HJ.out.mono ?_
    rintro e w3 ⟨v, rfl, hown, b3⟩
    have HW := Lib.hid (own_lower hown (by simp; omega : w.heap.size ≤ _))
    have HB3 := Lib.hid (HB2.out.trans (b3.mono HB2.out.size))
    clear hown b3
    go_wp2_with fail
    go_ret2
    exact ⟨v, rfl, HW.out, HB3.out⟩
  · have hv : validB g = false := by simpa using hv
    rw [if_neg (by rw [hv]; simp), hv]
    have HC := Lib.hid (wayOrderOf_no A cap g w hg hn hv)
    clear hg hv
    go_enter Tryz.func36, Tryz.ntmps36
    go_wp2_with fail
    refine HC.out.mono ?_
    rintro e w1 ⟨WB, tb, mv, rfl, hW, _, b1⟩
    have b2 := (Below.refl w1.heap.size w1).alloc (Nat.le_refl _) (.cells #[.int .i64 2] 78)
    have HJ := Lib.hid (fun kv => jumpsOf_no WB _ mv kv (w1.alloc (.cells #[.int .i64 2] 78)) (hW.alloc _))
    have HB2 := Lib.hid (b1.trans (b2.mono b1.size))
    clear hW b1 b2
    go_wp2_with fail
    refine (HJ.out _).mono ?_
    rintro e w3 ⟨rfl, rfl⟩
    go_wp2_with fail
    go_ret2
    exact ⟨_, rfl, World.ownsRow_nil _ _ _ _, HB2.out⟩

end Go.Proofs.YtdolbmonmkjajaaGreat
