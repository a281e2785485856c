/-
  The model's run of items: what it is in memory, its small steps.
-/
import Derived.Test.YtgkamcnbpiipoaaGreatRunMath
import Derived.Test.YtgkamcnbpiipoaaGreatMRead
import Derived.Test.YtgkamcnbpiipoaaGreatWithin
import Derived.Deep.RegionWith
import Derived.StillTailTactics
import Derived.Test.YtgkamcnbpiipoaaGreatRunVal
namespace Go.Proofs.YtgkamcnbpiipoaaGreat
open Go.RowKit Go.Sort
attribute [local go_sem] Oper.semAt_some

/-- The model's run, going on or being left; at its end. -/
def ms (s : RSt) (lv : Int) : Array Value := #[.string (tb s.left), .string (tb s.trace), .int .i64 (s.num : Nat), .int .i64 0, .bool false, .int .i64 lv, .int .i64 (s.idle : Nat)]
abbrev Mtr (w : World) (R : Nat) (s : RSt) (lv : Int) : Prop := Blk w R 98 (ms s lv)
def MFin (w : World) (R : Nat) (k : Nat) (t : List UInt8) (m : Nat) : Prop :=
  ∃ (c : List UInt8) (d : Int), Blk w R 98 #[.string (tb c), .string (tb t), .int .i64 (m : Nat), .int .i64 (k : Nat), .bool true, .int .i64 (-1), .int .i64 d]
/-- As it lies behind an outcome. -/
def MSt (w : World) (R : Nat) : ROut → Prop
  | .next s => Mtr w R s (-1)
  | .leave n s => Mtr w R s (n : Nat)
  | .fin k t m => MFin w R k t m

set_option maxRecDepth 100000 in
theorem mends (R : Nat) (a b c d g : Value) (o : Bool) (lv : Int) (w : World) (h : Blk w R 98 #[a, b, c, d, .bool o, .int .i64 lv, g]) :
    Calls Tryz.prog 87 #[.pointer (some ⟨R, 0, none⟩)] w fun e w' => e = .returned (.bool (o || decide (0 ≤ lv))) ∧ w' = w := by
  have c4 : w.cell? ⟨R, 4, none⟩ = some (.bool o) := h.cell 4
  have c5 : w.cell? ⟨R, 5, none⟩ = some (.int .i64 lv) := h.cell 5
  clear h
  go_enter Tryz.func87, Tryz.ntmps87
  cases o
  all_goals
    go_wp2_with fail
    go_ret
    exact ⟨rfl, rfl⟩

set_option maxRecDepth 100000 in
theorem mstop (R k : Nat) (s : RSt) (w : World) (h : Mtr w R s (-1)) :
    Calls Tryz.prog 69 #[.pointer (some ⟨R, 0, none⟩), .int .i64 (k : Nat)] w fun e w' => e = .returned (.tuple #[]) ∧ MFin w' R k s.trace s.num ∧ Only R w w' := by
  have c4 : w.cell? ⟨R, 4, none⟩ = some (.bool false) := h.cell 4
  have f4 := h.frozen 4
  have k1 := h.set_ 4 (.bool true)
  have c3 : (w.setCell ⟨R, 4, none⟩ (.bool true)).cell? ⟨R, 3, none⟩ = some (.int .i64 0) := k1.cell 3
  have f3 := k1.frozen 3
  have HN := Lib.hid (k1.set_ 3 (.int .i64 (k : Nat)))
  clear h k1
  go_enter Tryz.func69, Tryz.ntmps69
  go_wp2_with fail
  first | go_end0 | refine bodyPost_ret (results_none rfl _ _ _) rfl ?_
  exact ⟨rfl, ⟨s.left, _, HN.out⟩, (Only.set R w 4 _).trans (Only.set R _ 3 _)⟩
set_option maxRecDepth 100000 in
theorem mstop_over (R k j : Nat) (t : List UInt8) (m : Nat) (w : World) (h : MFin w R j t m) :
    Calls Tryz.prog 69 #[.pointer (some ⟨R, 0, none⟩), .int .i64 (k : Nat)] w fun e w' => e = .returned (.tuple #[]) ∧ w' = w := by
  obtain ⟨c, d, h⟩ := h
  have c4 : w.cell? ⟨R, 4, none⟩ = some (.bool true) := h.cell 4
  clear h
  go_enter Tryz.func69, Tryz.ntmps69
  go_wp2_with fail
  first | go_end0 | refine bodyPost_ret (results_none rfl _ _ _) rfl ?_
  exact ⟨rfl, rfl⟩

set_option maxRecDepth 100000 in
theorem mstep (R : Nat) (s : RSt) (w : World) (h : Mtr w R s (-1)) (hi : s.idle < 4000) :
    Calls Tryz.prog 88 #[.pointer (some ⟨R, 0, none⟩)] w fun e w' => e = .returned (.tuple #[]) ∧ Mtr w' R s.step (-1) ∧ Only R w w' := by
  have c6 : w.cell? ⟨R, 6, none⟩ = some (.int .i64 (s.idle : Nat)) := h.cell 6
  have f6 := h.frozen 6
  have s1 : IntKind.i64.wrap ((s.idle : Int) + 1) = (s.idle : Int) + 1 := IntWalk.i64_in _ (by omega)
  have k1 := h.set_ 6 (.int .i64 ((s.idle : Int) + 1))
  have c61 : (w.setCell ⟨R, 6, none⟩ (.int .i64 ((s.idle : Int) + 1))).cell? ⟨R, 6, none⟩ = some (.int .i64 ((s.idle : Int) + 1)) := k1.cell 6
  have g1 : decide ((4000 : Int) < (s.idle : Int) + 1) = false := decide_eq_false (by omega)
  have HN := Lib.hid k1
  have HI := Lib.hid hi
  clear h k1 
  go_enter Tryz.func88, Tryz.ntmps88
  go_wp2_with fail
  first | go_end0 | refine bodyPost_ret (results_none rfl _ _ _) rfl ?_
  exact ⟨rfl, HN.out, Only.set R w 6 _⟩

set_option maxRecDepth 100000 in
theorem mstep_long (R : Nat) (s : RSt) (w : World) (h : Mtr w R s (-1)) (hi : s.idle = 4000) :
    Calls Tryz.prog 88 #[.pointer (some ⟨R, 0, none⟩)] w fun e w' => e = .returned (.tuple #[]) ∧ MFin w' R 2 s.trace s.num ∧ Only R w w' := by
  have c6 : w.cell? ⟨R, 6, none⟩ = some (.int .i64 4000) := by have : w.cell? ⟨R, 6, none⟩ = some (.int .i64 (s.idle : Nat)) := h.cell 6; rw [hi] at this; exact this
  have f6 := h.frozen 6
  have k1 := h.set_ 6 (.int .i64 4001)
  have c61 : (w.setCell ⟨R, 6, none⟩ (.int .i64 4001)).cell? ⟨R, 6, none⟩ = some (.int .i64 4001) := k1.cell 6
  have HS := Lib.hid (mstop R 2 { s with idle := 4001 } _ (show Mtr (w.setCell ⟨R, 6, none⟩ (.int .i64 4001)) R { s with idle := 4001 } (-1) from k1))
  clear h k1 hi
  go_enter Tryz.func88, Tryz.ntmps88
  go_wp2_with fail
  refine HS.out.mono ?_
  rintro e w2 ⟨rfl, hf, ho⟩
  have HP := Lib.hid (And.intro hf ho)
  clear hf ho
  go_wp2_with fail
  first | go_end0 | refine bodyPost_ret (results_none rfl _ _ _) rfl ?_
  exact ⟨rfl, HP.out.1, (Only.set R w 6 _).trans HP.out.2⟩

set_option maxRecDepth 100000 in
theorem mblock_long (R : Nat) (s : RSt) (c : UInt8) (w : World) (h : Mtr w R s (-1)) (hl : s.trace.length = 60) :
    Calls Tryz.prog 104 #[.pointer (some ⟨R, 0, none⟩), .string (tb [c])] w fun e w' => e = .returned (.tuple #[]) ∧ MFin w' R 2 s.trace s.num ∧ Only R w w' := by
  have c1 : w.cell? ⟨R, 1, none⟩ = some (.string (tb s.trace)) := h.cell 1
  have hz : (tb s.trace).size = 60 := by rw [tb_size, hl]
  have HS := Lib.hid (mstop R 2 s w h)
  clear h hl
  go_enter Tryz.func104, Tryz.ntmps104
  go_wp2_with fail
  refine HS.out.mono ?_
  rintro e w2 ⟨rfl, hf, ho⟩
  have HP := Lib.hid (And.intro hf ho)
  clear hf ho
  go_wp2_with fail
  first | go_end0 | refine bodyPost_ret (results_none rfl _ _ _) rfl ?_
  exact ⟨rfl, HP.out⟩
theorem mtb_snoc (a : List UInt8) (c : UInt8) : tb a ++ tb [c] = tb (a ++ [c]) := by
  apply ba_ext
  rw [ByteArray.data_append, Array.toList_append, tb_data, tb_data, tb_data]
set_option maxRecDepth 100000 in
theorem mblock (R : Nat) (s : RSt) (c : UInt8) (w : World) (h : Mtr w R s (-1)) (hl : s.trace.length < 60) :
    Calls Tryz.prog 104 #[.pointer (some ⟨R, 0, none⟩), .string (tb [c])] w fun e w' => e = .returned (.tuple #[]) ∧ Mtr w' R (s.blk c) (-1) ∧ Only R w w' := by
  have c1 : w.cell? ⟨R, 1, none⟩ = some (.string (tb s.trace)) := h.cell 1
  have f1 := h.frozen 1
  have k1 := h.set_ 1 (.string (tb s.trace ++ tb [c]))
  have f6 : (w.setCell ⟨R, 1, none⟩ (.string (tb s.trace ++ tb [c]))).frozen? ⟨R, 6, none⟩ = false := k1.frozen 6
  have c6 : (w.setCell ⟨R, 1, none⟩ (.string (tb s.trace ++ tb [c]))).cell? ⟨R, 6, none⟩ = some (.int .i64 (s.idle : Nat)) := k1.cell 6
  have HN := Lib.hid (k1.set_ 6 (.int .i64 0))
  have hz : (tb s.trace).size = s.trace.length := tb_size _
  have hz1 : (tb [c]).size = 1 := rfl
  have g1 : decide ((60 : Int) ≤ (s.trace.length : Int)) = false := decide_eq_false (by omega)
  have g3 : ¬ 60 ≤ s.trace.length := by omega
  have g2 : ¬ 9223372036854775807 < s.trace.length + 1 := by omega
  clear h k1
  go_enter Tryz.func104, Tryz.ntmps104
  go_wp2_with fail
  first | go_end0 | refine bodyPost_ret (results_none rfl _ _ _) rfl ?_
  refine ⟨rfl, ?_, (Only.set R w 1 _).trans (Only.set R _ 6 _)⟩
  have := HN.out
  rw [mtb_snoc] at this ⊢
  exact this

/-- All blocks but the run's own. -/
abbrev MNotR (R : Nat) : Nat → Prop := fun b => b ≠ R
theorem mstay_run {R : Nat} {w w' : World} (h : Only R w w') : Stay w (MNotR R) w' (MNotR R) := ⟨h.size, fun b hb hr => ⟨hr, h.block b hr hb⟩⟩
/-- Items: what a call says; with so much to do at most. -/
abbrev MAllSays (R : Nat) (l : List It) (v : Value) (s : RSt) (w : World) : Prop :=
  Calls Tryz.prog 68 #[.pointer (some ⟨R, 0, none⟩), v] w fun e w' => e = .returned (.tuple #[]) ∧ Only R w w' ∧ ∃ o, Runs (.l l) s o ∧ MSt w' R o
abbrev MAllTo (R N : Nat) : Prop := ∀ (l : List It) (v : Value) (f : Nat) (s : RSt) (w : World), s.ok → s.room < N → (txL l).length ≤ 1048576 → MRowAt w (MNotR R) l v → OkL l f → Mtr w R s (-1) → MAllSays R l v s w
abbrev MOneSays (R : Nat) (i : It) (v : Value) (s : RSt) (w : World) : Prop :=
  Calls Tryz.prog 89 #[.pointer (some ⟨R, 0, none⟩), v] w fun e w' => e = .returned (.tuple #[]) ∧ Only R w w' ∧ ∃ o, Runs (.i i) s o ∧ MSt w' R o

set_option maxRecDepth 100000 in
theorem mbranch_over (R j : Nat) (t : List UInt8) (m : Nat) (a b c d : Value) (w : World) (h : MFin w R j t m) :
    Calls Tryz.prog 105 #[.pointer (some ⟨R, 0, none⟩), .agg #[a, b, c, d]] w fun e w' => e = .returned (.tuple #[]) ∧ MFin w' R j t m ∧ Only R w w' := by
  obtain ⟨u, v, h⟩ := h
  have k1 := h.alloc (.cells #[a, b, c, d] 157)
  have c4 : (w.alloc (.cells #[a, b, c, d] 157)).cell? ⟨R, 4, none⟩ = some (.bool true) := k1.cell 4
  have hlt := h.lt
  have HN := Lib.hid k1
  clear h k1
  go_enter Tryz.func105, Tryz.ntmps105
  go_wp2_with fail
  first | go_end0 | refine bodyPost_ret (results_none rfl _ _ _) rfl ?_
  exact ⟨rfl, ⟨u, v, HN.out⟩, (Only.refl R w).alloc _⟩

set_option maxRecDepth 100000 in
theorem mbranch_none (R : Nat) (s : RSt) (a b c d : Value) (w : World) (h : Mtr w R s (-1)) (hl : s.left = []) :
    Calls Tryz.prog 105 #[.pointer (some ⟨R, 0, none⟩), .agg #[a, b, c, d]] w fun e w' => e = .returned (.tuple #[]) ∧ MFin w' R 1 s.trace s.num ∧ Only R w w' := by
  have k1 : Mtr (w.alloc (.cells #[a, b, c, d] 157)) R s (-1) := Blk.alloc h _
  have c4 : (w.alloc (.cells #[a, b, c, d] 157)).cell? ⟨R, 4, none⟩ = some (.bool false) := k1.cell 4
  have c0 : (w.alloc (.cells #[a, b, c, d] 157)).cell? ⟨R, 0, none⟩ = some (.string (tb [])) := by have : (w.alloc (.cells #[a, b, c, d] 157)).cell? ⟨R, 0, none⟩ = some (.string (tb s.left)) := k1.cell 0; rw [hl] at this; exact this
  have t1 : (tb []).toList.isEmpty = true := by rw [tb_toList]; rfl
  have hlt := h.lt
  have HS := Lib.hid (mstop R 1 s _ k1)
  clear h k1 hl
  go_enter Tryz.func105, Tryz.ntmps105
  go_wp2_with fail
  refine HS.out.mono ?_
  rintro e w2 ⟨rfl, hf, ho⟩
  have HP := Lib.hid (And.intro hf ho)
  clear hf ho
  go_wp2_with fail
  first | go_end0 | refine bodyPost_ret (results_none rfl _ _ _) rfl ?_
  exact ⟨rfl, HP.out.1, ((Only.refl R w).alloc _).trans HP.out.2⟩

set_option maxRecDepth 100000 in
theorem mbranch_go (R N : Nat) (H : MAllTo R N) (l r : List It) (bl : Hid ((txL l).length ≤ 1048576)) (br : Hid ((txL r).length ≤ 1048576)) (f : Nat) (s : RSt) (x : UInt8) (t : List UInt8) (a b c u v : Value) (B off c2 : Nat) (w : World) (hs : s.ok) (hN : s.room < N)
    (h : Mtr w R s (-1)) (hx : s.left = x :: t) (hB : B < w.heap.size) (hBR : B ≠ R) (h0 : w.cell? ⟨B, off, none⟩ = some u) (h1 : w.cell? ⟨B, off + 1, none⟩ = some v)
    (hl : MRowAt w (MNotR R) l u) (hr : MRowAt w (MNotR R) r v) (ol : OkL l f) (or : OkL r f) :
    Calls Tryz.prog 105 #[.pointer (some ⟨R, 0, none⟩), .agg #[a, b, c, .slice (some ⟨B, off, none⟩) 2 c2]] w fun e w' => e = .returned (.tuple #[]) ∧ Only R w w' ∧ ∃ o, Runs (.l (if x = 108 then l else r)) { s with left := t } o ∧ MSt w' R o := by
  have hlt := h.lt
  obtain ⟨W, hW⟩ : ∃ W, W = w.alloc (.cells #[a, b, c, .slice (some ⟨B, off, none⟩) 2 c2] 157) := ⟨_, rfl⟩
  have hoW : Only R w W := by rw [hW]; exact (Only.refl R w).alloc _
  have k1 : Mtr W R s (-1) := by rw [hW]; exact Blk.alloc h _
  have c4 : W.cell? ⟨R, 4, none⟩ = some (.bool false) := k1.cell 4
  have c0 : W.cell? ⟨R, 0, none⟩ = some (.string (tb (x :: t))) := by have : W.cell? ⟨R, 0, none⟩ = some (.string (tb s.left)) := k1.cell 0; rw [hx] at this; exact this
  have f0 : W.frozen? ⟨R, 0, none⟩ = false := k1.frozen 0
  have k2 : Mtr (W.setCell ⟨R, 0, none⟩ (.string (tb t))) R { s with left := t } (-1) := k1.set_ 0 (.string (tb t))
  have ho2 : Only R w (W.setCell ⟨R, 0, none⟩ (.string (tb t))) := hoW.trans (Only.set R W 0 _)
  have e0 : (W.setCell ⟨R, 0, none⟩ (.string (tb t))).cell? ⟨B, off, none⟩ = some u := (cell_same (ho2.block B hBR hB) _).trans h0
  have e1 : (W.setCell ⟨R, 0, none⟩ (.string (tb t))).cell? ⟨B, off + 1, none⟩ = some v := (cell_same (ho2.block B hBR hB) _).trans h1
  have kb : Blk W w.heap.size 157 #[a, b, c, .slice (some ⟨B, off, none⟩) 2 c2] := by rw [hW]; exact Blk.new w _ _
  have x3 : (W.setCell ⟨R, 0, none⟩ (.string (tb t))).cell? ⟨w.heap.size, 3, none⟩ = some (.slice (some ⟨B, off, none⟩) 2 c2) := (kb.other (by omega) 0 _).cell 3
  have HD1 := Lib.hid (H l u f { s with left := t } _ (show RSt.ok { s with left := t } from hs) (show RSt.room { s with left := t } < N from hN) bl.out (hl.stay (mstay_run ho2)) ol k2)
  have HD2 := Lib.hid (H r v f { s with left := t } _ (show RSt.ok { s with left := t } from hs) (show RSt.room { s with left := t } < N from hN) br.out (hr.stay (mstay_run ho2)) or k2)
  have HO2 := Lib.hid ho2
  have HT := Lib.hid (tb_tail x t)
  obtain ⟨y, hy⟩ : ∃ y, y = tb (x :: t) := ⟨_, rfl⟩
  have hz : y.size = t.length + 1 := by rw [hy, tb_size]; rfl
  have t1 : y.toList.isEmpty = false := by rw [hy, tb_toList]; rfl
  have hp0 : 0 < y.size := by omega
  have hyx : y[0]'hp0 = x := by
    have : (tb (x :: t))[0]'(by rw [tb_size]; simp) = x := rfl
    simpa [hy] using this
  rw [← hy] at c0 HT
  have l1 : 1 ≤ y.size := by omega
  have l2 : (1 : Int) ≤ (y.size : Int) := by omega
  rw [← hz] at HT
  obtain ⟨z, hzz⟩ : ∃ z, z = y.extract 1 y.size := ⟨_, rfl⟩
  have HW := Lib.hid hW
  clear h hx hy hz hs hN H hB hBR h0 h1 hl hr ol or hoW k1 k2 ho2 kb hW hzz z
  have HTE : (tb t) = y.extract 1 y.size := HT.out.symm
  rw [HTE] at e0 e1 x3 HD1 HD2 HO2
  by_cases h108 : x = 108
  · have g1 : (((y[0]'hp0).toNat : Int) == 108) = true := by rw [hyx, h108]; rfl
    rw [if_pos h108]
    clear h108 hyx HTE
    go_enter Tryz.func105, Tryz.ntmps105
    go_wp2_with (rw [← HW.out])
    refine HD1.out.mono ?_
    rintro e w3 ⟨rfl, ho, hp⟩
    have HP := Lib.hid (And.intro (HO2.out.trans ho) hp)
    clear ho hp
    go_wp2_with fail
    first | go_end0 | refine bodyPost_ret (results_none rfl _ _ _) rfl ?_
    exact ⟨rfl, HP.out⟩
  · have g1 : (((y[0]'hp0).toNat : Int) == 108) = false := by
      have : x.toNat ≠ 108 := fun e => h108 (UInt8.toNat_inj.1 e)
      rw [hyx]; simp; omega
    rw [if_neg h108]
    clear h108 hyx HTE
    go_enter Tryz.func105, Tryz.ntmps105
    go_wp2_with (rw [← HW.out])
    refine HD2.out.mono ?_
    rintro e w3 ⟨rfl, ho, hp⟩
    have HP := Lib.hid (And.intro (HO2.out.trans ho) hp)
    clear ho hp
    go_wp2_with fail
    first | go_end0 | refine bodyPost_ret (results_none rfl _ _ _) rfl ?_
    exact ⟨rfl, HP.out⟩

set_option maxRecDepth 100000 in
theorem mrun_blk (R : Nat) (c : UInt8) (vb : Value) (s : RSt) (w : World) (hs : s.ok) (h : Mtr w R s (-1)) : MOneSays R (.blk c) (.agg #[.int .u8 88, .string (tb [c]), .int .i64 0, vb]) s w := by
  have k1 : Mtr (w.alloc (.cells #[.int .u8 88, .string (tb [c]), .int .i64 0, vb] 157)) R s (-1) := Blk.alloc h _
  have HA := Lib.hid ((Only.refl R w).alloc (.cells #[.int .u8 88, .string (tb [c]), .int .i64 0, vb] 157))
  by_cases hl : s.trace.length = 60
  · have HB := Lib.hid (mblock_long R s c _ k1 hl)
    have HR := Lib.hid (Runs.blkLong (c := c) hl)
    clear h k1 hl hs
    go_enter Tryz.func89, Tryz.ntmps89
    go_wp2_with fail
    refine HB.out.mono ?_
    rintro e w2 ⟨rfl, hf, ho⟩
    have HP := Lib.hid (And.intro hf ho)
    clear hf ho
    go_wp2_with fail
    first | go_end0 | refine bodyPost_ret (results_none rfl _ _ _) rfl ?_
    exact ⟨rfl, HA.out.trans HP.out.2, _, HR.out, HP.out.1⟩
  · have HB := Lib.hid (mblock R s c _ k1 (by have := hs.1; omega))
    have HR := Lib.hid (Runs.blk (c := c) hl)
    clear h k1 hl hs
    go_enter Tryz.func89, Tryz.ntmps89
    go_wp2_with fail
    refine HB.out.mono ?_
    rintro e w2 ⟨rfl, hf, ho⟩
    have HP := Lib.hid (And.intro hf ho)
    clear hf ho
    go_wp2_with fail
    first | go_end0 | refine bodyPost_ret (results_none rfl _ _ _) rfl ?_
    exact ⟨rfl, HA.out.trans HP.out.2, _, HR.out, HP.out.1⟩

set_option maxRecDepth 100000 in
theorem mrun_stop (R : Nat) (vb : Value) (s : RSt) (w : World) (h : Mtr w R s (-1)) : MOneSays R .stop (.agg #[.int .u8 46, .string (tb []), .int .i64 0, vb]) s w := by
  have k1 : Mtr (w.alloc (.cells #[.int .u8 46, .string (tb []), .int .i64 0, vb] 157)) R s (-1) := Blk.alloc h _
  have HA := Lib.hid ((Only.refl R w).alloc (.cells #[.int .u8 46, .string (tb []), .int .i64 0, vb] 157))
  have HB := Lib.hid (mstop R 0 s _ k1)
  clear h k1
  go_enter Tryz.func89, Tryz.ntmps89
  go_wp2_with fail
  refine HB.out.mono ?_
  rintro e w2 ⟨rfl, hf, ho⟩
  have HP := Lib.hid (And.intro hf ho)
  clear hf ho
  go_wp2_with fail
  first | go_end0 | refine bodyPost_ret (results_none rfl _ _ _) rfl ?_
  exact ⟨rfl, HA.out.trans HP.out.2, _, Runs.stop s, HP.out.1⟩

set_option maxRecDepth 100000 in
theorem mrun_leave (R n : Nat) (vb : Value) (s : RSt) (w : World) (h : Mtr w R s (-1)) : MOneSays R (.leave n) (.agg #[.int .u8 94, .string (tb []), .int .i64 (n : Nat), vb]) s w := by
  have k1 : Mtr (w.alloc (.cells #[.int .u8 94, .string (tb []), .int .i64 (n : Nat), vb] 157)) R s (-1) := Blk.alloc h _
  have HA := Lib.hid ((Only.set R w 5 (.int .i64 (n : Nat))).alloc (.cells #[.int .u8 94, .string (tb []), .int .i64 (n : Nat), vb] 157))
  have c5 : (w.alloc (.cells #[.int .u8 94, .string (tb []), .int .i64 (n : Nat), vb] 157)).cell? ⟨R, 5, none⟩ = some (.int .i64 (-1)) := k1.cell 5
  have f5 := k1.frozen 5
  have HN := Lib.hid (Blk.alloc (Blk.set_ h 5 (.int .i64 (n : Nat))) (.cells #[.int .u8 94, .string (tb []), .int .i64 (n : Nat), vb] 157))
  have hlt := h.lt
  clear h k1
  go_enter Tryz.func89, Tryz.ntmps89
  go_wp2_with fail
  first | go_end0 | refine bodyPost_ret (results_none rfl _ _ _) rfl ?_
  exact ⟨rfl, HA.out, _, Runs.leave n s, HN.out⟩

set_option maxRecDepth 100000 in
theorem mrun_set (R n : Nat) (vb : Value) (s : RSt) (w : World) (h : Mtr w R s (-1)) : MOneSays R (.set n) (.agg #[.int .u8 61, .string (tb []), .int .i64 (n : Nat), vb]) s w := by
  have k1 : Mtr (w.alloc (.cells #[.int .u8 61, .string (tb []), .int .i64 (n : Nat), vb] 157)) R s (-1) := Blk.alloc h _
  have HA := Lib.hid ((Only.set R w 2 (.int .i64 (n : Nat))).alloc (.cells #[.int .u8 61, .string (tb []), .int .i64 (n : Nat), vb] 157))
  have c5 : (w.alloc (.cells #[.int .u8 61, .string (tb []), .int .i64 (n : Nat), vb] 157)).cell? ⟨R, 2, none⟩ = some (.int .i64 (s.num : Nat)) := k1.cell 2
  have f5 := k1.frozen 2
  have HN := Lib.hid (Blk.alloc (Blk.set_ h 2 (.int .i64 (n : Nat))) (.cells #[.int .u8 61, .string (tb []), .int .i64 (n : Nat), vb] 157))
  have hlt := h.lt
  clear h k1
  go_enter Tryz.func89, Tryz.ntmps89
  go_wp2_with fail
  first | go_end0 | refine bodyPost_ret (results_none rfl _ _ _) rfl ?_
  exact ⟨rfl, HA.out, _, Runs.set n s, HN.out⟩

set_option maxRecDepth 100000 in
theorem mrun_ask (R N : Nat) (H : MAllTo R N) (c : UInt8) (l r : List It) (bl : Hid ((txL l).length ≤ 1048576)) (br : Hid ((txL r).length ≤ 1048576)) (f : Nat) (s : RSt) (u v : Value) (B off c2 : Nat) (w : World) (hs : s.ok) (hN : s.room < N)
    (h : Mtr w R s (-1)) (hB : B < w.heap.size) (hBR : B ≠ R) (h0 : w.cell? ⟨B, off, none⟩ = some u) (h1 : w.cell? ⟨B, off + 1, none⟩ = some v)
    (hl : MRowAt w (MNotR R) l u) (hr : MRowAt w (MNotR R) r v) (ol : OkL l f) (or : OkL r f) : MOneSays R (.ask c l r) (.agg #[.int .u8 63, .string (tb [c]), .int .i64 0, .slice (some ⟨B, off, none⟩) 2 c2]) s w := by
  have hlt := h.lt
  have k1 : Mtr (w.alloc (.cells #[.int .u8 63, .string (tb [c]), .int .i64 0, .slice (some ⟨B, off, none⟩) 2 c2] 157)) R s (-1) := Blk.alloc h _
  have HA := Lib.hid ((Only.refl R w).alloc (.cells #[.int .u8 63, .string (tb [c]), .int .i64 0, .slice (some ⟨B, off, none⟩) 2 c2] 157))
  have HK := Lib.hid (Blk.new w 157 #[.int .u8 63, .string (tb [c]), .int .i64 0, .slice (some ⟨B, off, none⟩) 2 c2])
  by_cases ht : s.trace.length = 60
  · have HB := Lib.hid (mblock_long R s c _ k1 ht)
    have HR := Lib.hid (Runs.askLong (c := c) (l := l) (r := r) ht)
    clear h k1 ht hs hl hr ol or H h0 h1 hB hBR
    go_enter Tryz.func89, Tryz.ntmps89
    go_wp2_with fail
    refine HB.out.mono ?_
    rintro e w2 ⟨rfl, hf, ho⟩
    have kk := HK.out.only ho (by omega)
    have c0 : w2.cell? ⟨w.heap.size, 0, none⟩ = some (.int .u8 63) := kk.cell 0
    have c1 : w2.cell? ⟨w.heap.size, 1, none⟩ = some (.string (tb [c])) := kk.cell 1
    have c22 : w2.cell? ⟨w.heap.size, 2, none⟩ = some (.int .i64 0) := kk.cell 2
    have c3 : w2.cell? ⟨w.heap.size, 3, none⟩ = some (.slice (some ⟨B, off, none⟩) 2 c2) := kk.cell 3
    have HM := Lib.hid (mbranch_over R 2 s.trace s.num (.int .u8 63) (.string (tb [c])) (.int .i64 0) (.slice (some ⟨B, off, none⟩) 2 c2) w2 hf)
    have HO := Lib.hid (HA.out.trans ho)
    clear hf ho kk
    go_wp2_with fail
    refine HM.out.mono ?_
    rintro e w3 ⟨rfl, hf, ho⟩
    have HP := Lib.hid (And.intro hf ho)
    clear hf ho
    go_wp2_with fail
    first | go_end0 | refine bodyPost_ret (results_none rfl _ _ _) rfl ?_
    exact ⟨rfl, HO.out.trans HP.out.2, _, HR.out, HP.out.1⟩
  · have HB := Lib.hid (mblock R s c _ k1 (by have := hs.1; omega))
    have HT60 := Lib.hid ht
    have HS := Lib.hid (RSt.blk_ok hs ht c)
    have HG := Lib.hid (fun (w2 : World) (ho : Only R w w2) (x : UInt8) (t : List UInt8) (hx : s.left = x :: t) (h2 : Mtr w2 R (s.blk c) (-1)) =>
      mbranch_go R N H l r bl br f (s.blk c) x t (.int .u8 63) (.string (tb [c])) (.int .i64 0) u v B off c2 w2 (RSt.blk_ok hs ht c).1 (by have := (RSt.blk_ok hs ht c).2; omega) h2 hx (Nat.lt_of_lt_of_le hB ho.size) hBR
        ((cell_same (ho.block B hBR hB) _).trans h0) ((cell_same (ho.block B hBR hB) _).trans h1) (hl.stay (mstay_run ho)) (hr.stay (mstay_run ho)) ol or)
    clear h k1 ht hs hl hr ol or H h0 h1 hB hBR
    go_enter Tryz.func89, Tryz.ntmps89
    go_wp2_with fail
    refine HB.out.mono ?_
    rintro e w2 ⟨rfl, hf, ho⟩
    have kk := HK.out.only ho (by omega)
    have c0 : w2.cell? ⟨w.heap.size, 0, none⟩ = some (.int .u8 63) := kk.cell 0
    have c1 : w2.cell? ⟨w.heap.size, 1, none⟩ = some (.string (tb [c])) := kk.cell 1
    have c22 : w2.cell? ⟨w.heap.size, 2, none⟩ = some (.int .i64 0) := kk.cell 2
    have c3 : w2.cell? ⟨w.heap.size, 3, none⟩ = some (.slice (some ⟨B, off, none⟩) 2 c2) := kk.cell 3
    have HO := Lib.hid (HA.out.trans ho)
    have HF := Lib.hid hf
    clear hf ho kk
    cases hx : s.left with
    | nil =>
      have HM := Lib.hid (mbranch_none R (s.blk c) (.int .u8 63) (.string (tb [c])) (.int .i64 0) (.slice (some ⟨B, off, none⟩) 2 c2) w2 HF.out hx)
      have HX := Lib.hid hx
      clear hx
      go_wp2_with fail
      refine HM.out.mono ?_
      rintro e w3 ⟨rfl, hf, ho⟩
      have HP := Lib.hid (And.intro hf ho)
      clear hf ho
      go_wp2_with fail
      first | go_end0 | refine bodyPost_ret (results_none rfl _ _ _) rfl ?_
      exact ⟨rfl, HO.out.trans HP.out.2, _, Runs.askNone HT60.out HX.out, HP.out.1⟩
    | cons x t =>
      have HM := Lib.hid (HG.out w2 HO.out x t hx HF.out)
      have HX := Lib.hid hx
      clear hx
      go_wp2_with fail
      refine HM.out.mono ?_
      rintro e w3 ⟨rfl, ho, o, hr, hf⟩
      have HP := Lib.hid (And.intro ho (And.intro hr hf))
      clear hf ho hr
      go_wp2_with fail
      first | go_end0 | refine bodyPost_ret (results_none rfl _ _ _) rfl ?_
      exact ⟨rfl, HO.out.trans HP.out.1, o, Runs.ask HT60.out HX.out HP.out.2.1, HP.out.2.2⟩

set_option maxRecDepth 100000 in
theorem mrunFrame_any (R N : Nat) (H : MAllTo R N) (b : Bool) (K : Int) (gK : (K == 123) = b) (l : List It) (bl : Hid ((txL l).length ≤ 1048576)) (f : Nat) (s : RSt) (u : Value) (B off c2 : Nat) (w : World) (hs : s.ok) (hN : s.room < N)
    (h : Mtr w R s (-1)) (hB : B < w.heap.size) (hBR : B ≠ R) (h0 : w.cell? ⟨B, off, none⟩ = some u) (hl : MRowAt w (MNotR R) l u) (hf : f < 9) (ol : OkL l (f + 1)) :
    Calls Tryz.prog 106 #[.pointer (some ⟨R, 0, none⟩), .agg #[.int .u8 K, .string (tb []), .int .i64 0, .slice (some ⟨B, off, none⟩) 1 c2]] w fun e w' => e = .returned (.tuple #[]) ∧ Only R w w' ∧ ∃ o, Runs (.f b l) s o ∧ MSt w' R o := by
  have hlt := h.lt
  have HA := Lib.hid ((Only.refl R w).alloc (.cells #[.int .u8 K, .string (tb []), .int .i64 0, .slice (some ⟨B, off, none⟩) 1 c2] 157))
  have HK := Lib.hid (Blk.new w 157 #[.int .u8 K, .string (tb []), .int .i64 0, .slice (some ⟨B, off, none⟩) 1 c2])
  have HT := Lib.hid (show Mtr (w.alloc (.cells #[.int .u8 K, .string (tb []), .int .i64 0, .slice (some ⟨B, off, none⟩) 1 c2] 157)) R s (-1) from Blk.alloc h _)
  have HS := Lib.hid (And.intro hs hN)
  have HC := Lib.hid (fun (W : World) (ho : Only R w W) => (cell_same (ho.block B hBR hB) off).trans h0)
  have HH := Lib.hid (fun (W : World) (ho : Only R w W) (s1 : RSt) (h1 : s1.ok) (h2 : s1.room < N) (h3 : Mtr W R s1 (-1)) => H l u (f + 1) s1 W h1 h2 bl.out (hl.stay (mstay_run ho)) ol h3)
  have OL := Lib.hid ol
  clear h hs hN hl ol H h0 hB hBR
  go_enter Tryz.func106, Tryz.ntmps106
  go_wp2_with fail
  go_loopg [4] (s.room + 1) (fun gk av wr => Hid (Only R w wr) ∧ Hid (Blk wr w.heap.size 157 #[.int .u8 K, .string (tb []), .int .i64 0, .slice (some ⟨B, off, none⟩) 1 c2]) ∧ ((av = .bool true ∧ ∃ s1 : RSt, gk = s1.room + 1 ∧ Hid (Mtr wr R s1 (-1)) ∧ Hid (s1.ok ∧ s1.room < N) ∧ Hid (∀ o, Runs (.f b l) s1 o → Runs (.f b l) s o)) ∨ (av = .bool false ∧ gk = 0 ∧ ∃ o, Hid (Runs (.f b l) s o) ∧ Hid (MSt wr R o))))
  case atStart => exact ⟨HA, HK, .inl ⟨rfl, s, rfl, HT, HS, fun _ h => h⟩⟩
  case round =>
    obtain ⟨HO, HKr, (⟨rfl, s1, rfl, HTr, HSr, HRR⟩ | ⟨rfl, rfl, o, HRo, HMo⟩)⟩ := hrel
    · have c3 : wr.cell? ⟨w.heap.size, 3, none⟩ = some (.slice (some ⟨B, off, none⟩) 1 c2) := HKr.out.cell 3
      have cu : wr.cell? ⟨B, off, none⟩ = some u := HC.out wr HO.out
      have HD := Lib.hid (HH.out wr HO.out s1 HSr.out.1 HSr.out.2 HTr.out)
      go_wp2_with fail
      refine HD.out.mono ?_
      rintro e w2 ⟨rfl, ho, o, hr, hm⟩
      have hkk := HKr.out.only ho (by omega)
      have d0 : w2.cell? ⟨w.heap.size, 0, none⟩ = some (.int .u8 K) := hkk.cell 0
      have HKK := Lib.hid hkk
      have HO2 := Lib.hid (HO.out.trans ho)
      have hlt2 : R < w2.heap.size := by have := HO2.out.size; omega
      have hws : w.heap.size ≠ R := by omega
      match o, hr, hm with
      | .next s2, hr, hm =>
        have c5 : w2.cell? ⟨R, 5, none⟩ = some (.int .i64 (-1)) := Blk.cell hm 5
        have HP := Lib.hid (And.intro hr hm)
        clear hr hm ho hkk
        go_wp2_with fail
        first | go_end0 | refine bodyPost_ret (results_none rfl _ _ _) rfl ?_
        exact ⟨rfl, HO2.out, _, HRR.out _ (Runs.f_next HP.out.1), HP.out.2⟩
      | .fin k t m, hr, hm =>
        obtain ⟨xc, xd, hm⟩ := hm
        have c5 : w2.cell? ⟨R, 5, none⟩ = some (.int .i64 (-1)) := Blk.cell hm 5
        have HP := Lib.hid (And.intro hr hm)
        clear hr hm ho hkk
        go_wp2_with fail
        first | go_end0 | refine bodyPost_ret (results_none rfl _ _ _) rfl ?_
        exact ⟨rfl, HO2.out, _, HRR.out _ (Runs.f_fin HP.out.1), ⟨xc, xd, HP.out.2⟩⟩
      | .leave (n + 1) s2, hr, hm =>
        have hn : n < 9 := by have := Runs.leave_lt (t := .l l) (f := f + 1) hr OL.out; omega
        obtain ⟨q, hq⟩ : ∃ q : Int, q = ((n + 1 : Nat) : Int) := ⟨_, rfl⟩
        have c5 : w2.cell? ⟨R, 5, none⟩ = some (.int .i64 q) := by rw [hq]; exact Blk.cell hm 5
        have c4 : w2.cell? ⟨R, 4, none⟩ = some (.bool false) := Blk.cell hm 4
        have f5 := Blk.frozen hm 5
        have k5 := Blk.set_ hm 5 (.int .i64 (n : Nat))
        have c51 : (w2.setCell ⟨R, 5, none⟩ (.int .i64 (n : Nat))).cell? ⟨R, 5, none⟩ = some (.int .i64 (n : Nat)) := k5.cell 5
        have g1 : decide (q < 0) = false := decide_eq_false (by omega)
        have s1 : IntKind.i64.wrap (q - 1) = (n : Int) := by rw [IntWalk.i64_in _ (by omega)]; omega
        have g2 : decide ((n : Int) < 0) = false := decide_eq_false (by omega)
        have HK5 := Lib.hid (hkk.other hws 5 (.int .i64 (n : Nat)))
        have HP := Lib.hid (And.intro hr k5)
        have HO5 := Lib.hid (HO2.out.trans (Only.set R w2 5 (.int .i64 (n : Nat))))
        clear hr hm ho hkk k5 hq
        go_wp2_with fail
        go_roundg 0
        case measure => omega
        case rel => exact ⟨HO5, HK5, .inr ⟨rfl, rfl, .leave n s2, HRR.out _ (Runs.f_out HP.out.1), HP.out.2⟩⟩
      | .leave 0 s2, hr, hm =>
        have c5 : w2.cell? ⟨R, 5, none⟩ = some (.int .i64 0) := Blk.cell hm 5
        have c4 : w2.cell? ⟨R, 4, none⟩ = some (.bool false) := Blk.cell hm 4
        have f5 := Blk.frozen hm 5
        have k5 : Mtr (w2.setCell ⟨R, 5, none⟩ (.int .i64 (-1))) R s2 (-1) := Blk.set_ hm 5 (.int .i64 (-1))
        have c51 : (w2.setCell ⟨R, 5, none⟩ (.int .i64 (-1))).cell? ⟨R, 5, none⟩ = some (.int .i64 (-1)) := k5.cell 5
        have hk5 := hkk.other hws 5 (.int .i64 (-1))
        have d00 : (w2.setCell ⟨R, 5, none⟩ (.int .i64 (-1))).cell? ⟨w.heap.size, 0, none⟩ = some (.int .u8 K) := hk5.cell 0
        have HK5 := Lib.hid hk5
        have HO5 := Lib.hid (HO2.out.trans (Only.set R w2 5 (.int .i64 (-1))))
        have hok : s2.ok ∧ s2.room ≤ s1.room := Runs.ok hr HSr.out.1
        have HP := Lib.hid (And.intro hr k5)
        cases b with
        | false =>
          clear hr hm ho hkk k5 hk5 hok
          go_wp2_with fail
          go_roundg 0
          case measure => omega
          case rel => exact ⟨HO5, HK5, .inr ⟨rfl, rfl, .next s2, HRR.out _ (Runs.f_once HP.out.1), HP.out.2⟩⟩
        | true =>
          by_cases hi : s2.idle = 4000
          · have HSt := Lib.hid (mstep_long R s2 _ k5 hi)
            have HI := Lib.hid hi
            clear hr hm ho hkk k5 hk5 hok hi
            go_wp2_with fail
            refine HSt.out.mono ?_
            rintro e w3 ⟨rfl, hfin, ho⟩
            have HKK3 := Lib.hid (HK5.out.only ho (by omega))
            have HO3 := Lib.hid (HO5.out.trans ho)
            have HF3 := Lib.hid hfin
            obtain ⟨xc, xd, hfin⟩ := hfin
            have c43 : w3.cell? ⟨R, 4, none⟩ = some (.bool true) := Blk.cell hfin 4
            clear hfin ho
            go_wp2_with fail
            go_roundg 0
            case measure => omega
            case rel => exact ⟨HO3, HKK3, .inr ⟨rfl, rfl, .fin 2 s2.trace s2.num, HRR.out _ (Runs.f_long HP.out.1 HI.out), HF3⟩⟩
          · have hst := RSt.step_ok hok.1 hi
            have HSt := Lib.hid (mstep R s2 _ k5 (by have := hok.1.2; omega))
            have HI := Lib.hid hi
            have hlt3 : s2.step.room < s1.room := by have := hok.2; omega
            have HS3 := Lib.hid (And.intro hst.1 (Nat.lt_trans hlt3 HSr.out.2))
            clear hr hm ho hkk k5 hk5 hok hi hst
            go_wp2_with fail
            refine HSt.out.mono ?_
            rintro e w3 ⟨rfl, hfin, ho⟩
            have HKK3 := Lib.hid (HK5.out.only ho (by omega))
            have HO3 := Lib.hid (HO5.out.trans ho)
            have HF3 := Lib.hid hfin
            have c43 : w3.cell? ⟨R, 4, none⟩ = some (.bool false) := Blk.cell hfin 4
            clear hfin ho
            go_wp2_with fail
            go_roundg (s2.step.room + 1)
            case measure => omega
            case rel => exact ⟨HO3, HKK3, .inl ⟨rfl, s2.step, rfl, HF3, HS3, fun o h => HRR.out o (Runs.f_again HP.out.1 HI.out h)⟩⟩
    · go_wp2_with fail
      first | go_end0 | refine bodyPost_ret (results_none rfl _ _ _) rfl ?_
      exact ⟨rfl, HO.out, o, HRo.out, HMo.out⟩

set_option maxRecDepth 100000 in
theorem mrun_frame_false (R N : Nat) (H : MAllTo R N) (l : List It) (bl : Hid ((txL l).length ≤ 1048576)) (f : Nat) (s : RSt) (u : Value) (B off c2 : Nat) (w : World) (hs : s.ok) (hN : s.room < N)
    (h : Mtr w R s (-1)) (hB : B < w.heap.size) (hBR : B ≠ R) (h0 : w.cell? ⟨B, off, none⟩ = some u) (hl : MRowAt w (MNotR R) l u) (hf : f < 9) (ol : OkL l (f + 1)) : MOneSays R (.frame false l) (.agg #[.int .u8 40, .string (tb []), .int .i64 0, .slice (some ⟨B, off, none⟩) 1 c2]) s w := by
  have hA := (Only.refl R w).alloc (.cells #[.int .u8 40, .string (tb []), .int .i64 0, .slice (some ⟨B, off, none⟩) 1 c2] 157)
  have hlt := h.lt
  have HA := Lib.hid hA
  have HM := Lib.hid (mrunFrame_any R N H false 40 (by decide) l bl f s u B off c2 (w.alloc (.cells #[.int .u8 40, .string (tb []), .int .i64 0, .slice (some ⟨B, off, none⟩) 1 c2] 157)) hs hN (Blk.alloc h _) (by rw [World.size_alloc]; omega) hBR ((cell_same (hA.block B hBR hB) _).trans h0) (hl.stay (mstay_run hA)) hf ol)
  clear h hA hs hN hl ol H h0 hB hBR
  go_enter Tryz.func89, Tryz.ntmps89
  go_wp2_with fail
  refine HM.out.mono ?_
  rintro e w2 ⟨rfl, ho, o, hr, hm⟩
  have HP := Lib.hid (And.intro ho (And.intro hr hm))
  clear ho hr hm
  go_wp2_with fail
  first | go_end0 | refine bodyPost_ret (results_none rfl _ _ _) rfl ?_
  exact ⟨rfl, HA.out.trans HP.out.1, o, Runs.frame HP.out.2.1, HP.out.2.2⟩

set_option maxRecDepth 100000 in
theorem mrun_frame_true (R N : Nat) (H : MAllTo R N) (l : List It) (bl : Hid ((txL l).length ≤ 1048576)) (f : Nat) (s : RSt) (u : Value) (B off c2 : Nat) (w : World) (hs : s.ok) (hN : s.room < N)
    (h : Mtr w R s (-1)) (hB : B < w.heap.size) (hBR : B ≠ R) (h0 : w.cell? ⟨B, off, none⟩ = some u) (hl : MRowAt w (MNotR R) l u) (hf : f < 9) (ol : OkL l (f + 1)) : MOneSays R (.frame true l) (.agg #[.int .u8 123, .string (tb []), .int .i64 0, .slice (some ⟨B, off, none⟩) 1 c2]) s w := by
  have hA := (Only.refl R w).alloc (.cells #[.int .u8 123, .string (tb []), .int .i64 0, .slice (some ⟨B, off, none⟩) 1 c2] 157)
  have hlt := h.lt
  have HA := Lib.hid hA
  have HM := Lib.hid (mrunFrame_any R N H true 123 (by decide) l bl f s u B off c2 (w.alloc (.cells #[.int .u8 123, .string (tb []), .int .i64 0, .slice (some ⟨B, off, none⟩) 1 c2] 157)) hs hN (Blk.alloc h _) (by rw [World.size_alloc]; omega) hBR ((cell_same (hA.block B hBR hB) _).trans h0) (hl.stay (mstay_run hA)) hf ol)
  clear h hA hs hN hl ol H h0 hB hBR
  go_enter Tryz.func89, Tryz.ntmps89
  go_wp2_with fail
  refine HM.out.mono ?_
  rintro e w2 ⟨rfl, ho, o, hr, hm⟩
  have HP := Lib.hid (And.intro ho (And.intro hr hm))
  clear ho hr hm
  go_wp2_with fail
  first | go_end0 | refine bodyPost_ret (results_none rfl _ _ _) rfl ?_
  exact ⟨rfl, HA.out.trans HP.out.1, o, Runs.frame HP.out.2.1, HP.out.2.2⟩

theorem mbelow_drew (w : World) (n : Nat) : Below w.heap.size w (w.drewN n) := ⟨rfl, rfl, rfl, Nat.le_refl _, fun _ _ => rfl⟩
set_option maxRecDepth 100000 in
theorem mrun_pick (R N : Nat) (H : MAllTo R N) (bs : List (List It)) (bl : Hid (∀ b ∈ bs, (txL b).length ≤ 1048576)) (f : Nat) (s : RSt) (A : Option Addr) (vs : List Value) (c2 : Nat) (w : World) (hs : s.ok) (hN : s.room < N)
    (h : Mtr w R s (-1)) (hl : Reads w (MNotR R) (.slice A vs.length c2) vs) (ha : MAllRows w (MNotR R) bs vs) (ol : OkB bs f) :
    MOneSays R (.pick bs) (.agg #[.int .u8 35, .string (tb []), .int .i64 0, .slice A vs.length c2]) s w := by
  obtain ⟨n, hn⟩ : ∃ n, n = vs.length := ⟨_, rfl⟩
  have hlen := ha.len
  rw [← hn] at hl hlen ⊢
  have hlt := h.lt
  have hA := (Only.refl R w).alloc (.cells #[.int .u8 35, .string (tb []), .int .i64 0, .slice A n c2] 157)
  have hT2 : Mtr (w.alloc (.cells #[.int .u8 35, .string (tb []), .int .i64 0, .slice A n c2] 157)) R s (-1) := Blk.alloc h _
  have cn : (w.alloc (.cells #[.int .u8 35, .string (tb []), .int .i64 0, .slice A n c2] 157)).cell? ⟨R, 2, none⟩ = some (.int .i64 (s.num : Nat)) := hT2.cell 2
  have HT := Lib.hid hT2
  have HA := Lib.hid hA
  by_cases hk : s.num < n
  · obtain ⟨v, hv, hrow⟩ := MAllRows.at_ ha s.num (by omega)
    have hb' : bs[s.num]? = some bs[s.num] := List.getElem?_eq_getElem (by omega)
    obtain ⟨l, hll⟩ : ∃ l, l = bs[s.num] := ⟨_, rfl⟩
    rw [← hll] at hrow hb'
    have hol := okB_get ol hb'
    obtain ⟨_, _, he, hcell⟩ := hl
    injection he with he1 he2 he3
    subst he1; subst he3
    obtain ⟨B, off, rfl, hB, hBR, hcell⟩ := hcell (by omega)
    have hcv : w.cell? ⟨B, off + s.num, none⟩ = some v := by
      rw [hcell s.num (by omega)]
      rw [List.getElem?_eq_getElem (by omega)] at hv
      exact hv
    have cv : (w.alloc (.cells #[.int .u8 35, .string (tb []), .int .i64 0, .slice (some ⟨B, off, none⟩) n c2] 157)).cell? ⟨B, off + s.num, none⟩ = some v := (cell_same (hA.block B hBR hB) _).trans hcv
    have hLB := bl.out l (List.mem_of_getElem? hb')
    have HC : ∀ (W : World), Below (w.alloc (.cells #[.int .u8 35, .string (tb []), .int .i64 0, .slice (some ⟨B, off, none⟩) n c2] 157)).heap.size (w.alloc (.cells #[.int .u8 35, .string (tb []), .int .i64 0, .slice (some ⟨B, off, none⟩) n c2] 157)) W → Calls Tryz.prog 68 #[.pointer (some ⟨R, 0, none⟩), v] W fun e w' => e = .returned (.tuple #[]) ∧ Only R w w' ∧ ∃ o, Runs (.i (.pick bs)) s o ∧ MSt w' R o := fun W hb =>
      (H l v f s W hs hN hLB (hrow.stay (mstay_run (hA.trans (.of_below hb)))) hol (Blk.below hT2 hb hT2.lt)).mono fun e w' ⟨h0, h1, o, h2, h3⟩ => ⟨h0, (hA.trans (.of_below hb)).trans h1, o, Runs.pick hb' h2, h3⟩
    have HD := Lib.hid HC
    clear h hT2 hs ha ol H hA hcell hrow hol hv hb' hcv hll hn he2 hlen hB hBR HC hLB
    go_enter Tryz.func89, Tryz.ntmps89
    go_wp2_with fail
    go_quiet (fail)
    go_wp2_with fail
    refine wp_region_still_tail 9 (by kernel_rfl) (by kernel_rfl) ?_
    change wpStill _ _ (World.drew _) (fun a' => wpList _ _ _ _ a' (World.drew _)) _ _
    simp only [List.take_succ_cons, List.take_zero, List.drop_succ_cons, List.drop_zero]
    repeat still_step
    refine wpStill_nil ?_
    go_wp2_with fail
    refine (HD.out _ (mbelow_drew _ _)).mono ?_
    rintro e w1 ⟨rfl, hp⟩
    have HP := Lib.hid hp
    clear hp
    go_wp2_with fail
    first | go_end0 | refine bodyPost_ret (results_none rfl _ _ _) rfl ?_
    exact ⟨rfl, HP.out⟩
  · have hb : bs[s.num]? = none := List.getElem?_eq_none (by omega)
    have HB := Lib.hid hb
    clear h hT2 hs hl ha ol H hA hb hn hlen
    go_enter Tryz.func89, Tryz.ntmps89
    go_wp2_with fail
    go_quiet (fail)
    go_wp2_with fail
    first | go_end0 | refine bodyPost_ret (results_none rfl _ _ _) rfl ?_
    exact ⟨rfl, HA.out.trans (.of_below (mbelow_drew _ _)), _, Runs.pickNone HB.out, Blk.below HT.out (mbelow_drew _ _) HT.out.lt⟩

theorem mrun_any {R N : Nat} (H : MAllTo R N) {i : It} {v : Value} {f : Nat} {s : RSt} {w : World} (hs : s.ok) (hN : s.room < N) (hb : (txI i).length ≤ 1048576) (hi : MBodAt w (MNotR R) i v) (ho : OkI i f) (h : Mtr w R s (-1)) :
    MOneSays R i (.agg #[.int .u8 (kindI i).toNat, .string (tb (nameI i)), .int .i64 (numI i), v]) s w := by
  have hB : ∀ b ∈ bodI i, (txL b).length ≤ 1048576 := fun b h => by have := bod_shorter h; omega
  cases i with
  | blk c => exact mrun_blk R c v s w hs h
  | stop => exact mrun_stop R v s w h
  | leave n => exact mrun_leave R n v s w h
  | set n => exact mrun_set R n v s w h
  | ask c l r =>
    rw [MBodAt] at hi; rw [OkI] at ho
    obtain ⟨x, y, xs, ys, ⟨A, c2, rfl, hc⟩, h2, h3, h4, h5⟩ := hi
    obtain ⟨B, off, rfl, hBl, hBR, hcell⟩ := hc (by simp)
    exact mrun_ask R N H c l r (Lib.hid (hB l (by simp [bodI]))) (Lib.hid (hB r (by simp [bodI]))) f s x y B off c2 w hs hN h hBl hBR (hcell 0 (by simp)) (hcell 1 (by simp)) ⟨xs, h2, h3⟩ ⟨ys, h4, h5⟩ ho.2.1 ho.2.2
  | frame b l =>
    rw [MBodAt] at hi; rw [OkI] at ho
    obtain ⟨x, xs, ⟨A, c2, rfl, hc⟩, h2, h3⟩ := hi
    obtain ⟨B, off, rfl, hBl, hBR, hcell⟩ := hc (by simp)
    cases b with
    | false => exact mrun_frame_false R N H l (Lib.hid (hB l (by simp [bodI]))) f s x B off c2 w hs hN h hBl hBR (hcell 0 (by simp)) ⟨xs, h2, h3⟩ ho.1 ho.2
    | true => exact mrun_frame_true R N H l (Lib.hid (hB l (by simp [bodI]))) f s x B off c2 w hs hN h hBl hBR (hcell 0 (by simp)) ⟨xs, h2, h3⟩ ho.1 ho.2
  | pick bs =>
    rw [MBodAt] at hi; rw [OkI] at ho
    obtain ⟨xs, ⟨A, c2, rfl, hc⟩, h2⟩ := hi
    exact mrun_pick R N H bs (Lib.hid hB) f s A xs c2 w hs hN h ⟨A, c2, rfl, hc⟩ h2 ho.2.2

theorem mbod_form {w : World} {P : Nat → Prop} {i : It} {v : Value} (h : MBodAt w P i v) : ∃ A n c, v = .slice A n c := by
  rw [mbod_iff] at h
  obtain ⟨vs, ⟨A, c, rfl, _⟩, _⟩ := h
  exact ⟨A, _, c, rfl⟩
set_option maxRecDepth 100000 in
set_option maxHeartbeats 1600000 in
theorem mbody_step (R N : Nat) (H : MAllTo R N) : MAllTo R (N + 1) := by
  intro l v f s w hs hN hbl hrow hol h
  obtain ⟨xs, ⟨A, cap, rfl, hxl, hc⟩, ha⟩ := hrow
  have hle := txL_length l
  obtain ⟨n, hn⟩ : ∃ n, n = l.length := ⟨_, rfl⟩
  rw [← hn] at hxl hle ⊢
  have hn9 : n ≤ 1048576 := by omega
  have hlt := h.lt
  have HBL := Lib.hid hbl
  have HC := Lib.hid hc
  have HA := Lib.hid ha
  have HX := Lib.hid (And.intro hn hxl)
  have HH := Lib.hid H
  have HOL := Lib.hid hol
  have HT := Lib.hid h
  have HS := Lib.hid (show s.ok ∧ s.room < N + 1 from ⟨hs, hN⟩)
  clear hs hN ha hol h hc H hn hxl hle hbl
  go_enter Tryz.func68, Tryz.ntmps68
  go_wp2_with fail
  go_loopg [8] n (fun gk iv wr => ∃ i : Nat, gk = n - i ∧ i ≤ n ∧ iv = .int .i64 i ∧ Hid (Only R w wr) ∧ ((∃ s1 : RSt, Hid (Mtr wr R s1 (-1)) ∧ Hid (s1.ok ∧ s1.room < N + 1) ∧ Hid (∀ o, Runs (.l (l.drop i)) s1 o → Runs (.l l) s o)) ∨ (∃ o, Hid (Runs (.l l) s o) ∧ Hid (MSt wr R o) ∧ Hid (∀ s1, o ≠ .next s1))))
  case atStart => exact ⟨0, by omega, Nat.zero_le _, rfl, Only.refl R w, .inl ⟨s, HT.out, HS.out, fun _ h => h⟩⟩
  case round =>
    obtain ⟨i, rfl, hi, rfl, HO, hst⟩ := hrel
    have hsw := HO.out.size
    by_cases hil : i < n
    · have hil' : i < l.length := by have := HX.out.1; omega
      obtain ⟨vb, hbod, y0, y1, y2, y3⟩ := HA.out.at_ i hil'
      have hlx : n * 4 = xs.length := HX.out.2.symm
      obtain ⟨B, off, hAe, hB, hBR, hcell⟩ := HC.out (by omega)
      have hsm : wr.heap[B]? = w.heap[B]? := HO.out.block B hBR hB
      have hat : ∀ k u, xs[k]? = some u → wr.cell? ⟨B, off + k, none⟩ = some u := fun k u hk => by
        have hkl := (List.getElem?_eq_some_iff.1 hk).1
        rw [cell_same hsm (off + k), hcell k hkl, ← List.getElem?_eq_getElem hkl]; exact hk
      obtain ⟨it, hit⟩ : ∃ it, it = l[i] := ⟨_, rfl⟩
      have hdrop : l.drop i = it :: l.drop (i + 1) := by rw [hit]; exact List.drop_eq_getElem_cons _
      have hoi : OkI it f := okL_get HOL.out it (by rw [hit]; exact List.getElem_mem _)
      have hib : (txI it).length ≤ 1048576 := Nat.le_trans (txL_mem (by rw [hit]; exact List.getElem_mem _)) HBL.out
      rw [← hit] at hbod y0 y1 y2
      obtain ⟨A2, nv, c2, rfl⟩ := mbod_form hbod
      have x0 : wr.cell? ⟨B, off + i * 4, none⟩ = some (.int .u8 (kindI it).toNat) := hat _ _ y0
      have x1 : wr.cell? ⟨B, off + i * 4 + 1, none⟩ = some (.string (tb (nameI it))) := hat _ _ y1
      have x2 : wr.cell? ⟨B, off + i * 4 + 2, none⟩ = some (.int .i64 (numI it)) := hat _ _ y2
      have x3 : wr.cell? ⟨B, off + i * 4 + 3, none⟩ = some (.slice A2 nv c2) := hat _ _ y3
      have HDR := Lib.hid hdrop
      have HOI := Lib.hid hoi
      have HIB := Lib.hid hib
      have HBD := Lib.hid hbod
      have hoA : Only R w (wr.alloc (.cells #[.int .u8 (kindI it).toNat, .string (tb (nameI it)), .int .i64 (numI it), .slice A2 nv c2] 157)) := HO.out.alloc _
      have HOA := Lib.hid hoA
      have HKI := Lib.hid (Blk.new wr 157 #[.int .u8 (kindI it).toNat, .string (tb (nameI it)), .int .i64 (numI it), .slice A2 nv c2])
      subst hAe
      rcases hst with ⟨s1, HTr, HSr, HRR⟩ | ⟨o, HRo, HMo, HNo⟩
      · have hTA : Mtr (wr.alloc (.cells #[.int .u8 (kindI it).toNat, .string (tb (nameI it)), .int .i64 (numI it), .slice A2 nv c2] 157)) R s1 (-1) := Blk.alloc HTr.out _
        have HE := Lib.hid (mends R _ _ _ _ _ false (-1) _ hTA)
        by_cases hid : s1.idle = 4000
        · have HSt := Lib.hid (mstep_long R s1 _ hTA hid)
          have HI := Lib.hid hid
          clear hid hdrop hoi hib hcell hat hsm y0 y1 y2 y3 hit hBR hB hbod hlx hTA hoA
          go_wp2_with fail
          refine HE.out.mono ?_
          rintro e w3 ⟨rfl, rfl⟩
          go_wp2_with fail
          refine HSt.out.mono ?_
          rintro e w3 ⟨rfl, hf, ho⟩
          have HO3 := Lib.hid (HOA.out.trans ho)
          have HF := Lib.hid hf
          obtain ⟨xc, xd, hf⟩ := hf
          have c43 : w3.cell? ⟨R, 4, none⟩ = some (.bool true) := Blk.cell hf 4
          clear hf ho
          go_wp2_with fail
          go_roundg (n - (i + 1))
          case measure => omega
          case rel => exact ⟨i + 1, rfl, by omega, by go_num, HO3, .inr ⟨.fin 2 s1.trace s1.num, HRR.out _ (by rw [HDR.out]; exact Runs.long HI.out), HF, fun s1 h => by cases h⟩⟩
        · have hst := RSt.step_ok HSr.out.1 hid
          have HSt := Lib.hid (mstep R s1 _ hTA (by have := HSr.out.1.2; omega))
          have HI := Lib.hid hid
          have HS2 := Lib.hid (show s1.step.ok ∧ s1.step.room < N from ⟨hst.1, by have := HSr.out.2; omega⟩)
          clear hid hst hdrop hoi hib hcell hat hsm y0 y1 y2 y3 hit hBR hB hbod hlx hTA hoA
          go_wp2_with fail
          refine HE.out.mono ?_
          rintro e w3 ⟨rfl, rfl⟩
          go_wp2_with fail
          refine HSt.out.mono ?_
          rintro e w3 ⟨rfl, hf, ho⟩
          have hO3 : Only R w w3 := HOA.out.trans ho
          have hkk := HKI.out.only ho (by omega)
          have d0 : w3.cell? ⟨wr.heap.size, 0, none⟩ = some (.int .u8 (kindI it).toNat) := hkk.cell 0
          have d1 : w3.cell? ⟨wr.heap.size, 1, none⟩ = some (.string (tb (nameI it))) := hkk.cell 1
          have d2 : w3.cell? ⟨wr.heap.size, 2, none⟩ = some (.int .i64 (numI it)) := hkk.cell 2
          have d3 : w3.cell? ⟨wr.heap.size, 3, none⟩ = some (.slice A2 nv c2) := hkk.cell 3
          have c43 : w3.cell? ⟨R, 4, none⟩ = some (.bool false) := Blk.cell hf 4
          have HD := Lib.hid (mrun_any HH.out HS2.out.1 HS2.out.2 HIB.out (HBD.out.stay (mstay_run hO3)) HOI.out hf)
          have HO3 := Lib.hid hO3
          clear hf ho hkk hO3
          go_wp2_with fail
          refine HD.out.mono ?_
          rintro e w4 ⟨rfl, ho, o, hr, hm⟩
          have HO4 := Lib.hid (HO3.out.trans ho)
          have hok := Runs.ok hr HS2.out.1
          have HP := Lib.hid (And.intro hr (And.intro hm hok))
          clear hr ho hm hok
          go_wp2_with fail
          go_roundg (n - (i + 1))
          case measure => omega
          case rel =>
            refine ⟨i + 1, rfl, by omega, by go_num, HO4, ?_⟩
            match o, HP with
            | .next s2, HP => exact .inl ⟨s2, HP.out.2.1, ⟨HP.out.2.2.1, by have := HP.out.2.2.2; have := HS2.out.2; omega⟩, fun o h => HRR.out o (by rw [HDR.out]; exact Runs.cons HI.out HP.out.1 h)⟩
            | .leave m s2, HP => exact .inr ⟨.leave m s2, HRR.out _ (by rw [HDR.out]; exact Runs.cons_leave HI.out HP.out.1), HP.out.2.1, fun s1 h => by cases h⟩
            | .fin q u m, HP => exact .inr ⟨.fin q u m, HRR.out _ (by rw [HDR.out]; exact Runs.cons_fin HI.out HP.out.1), HP.out.2.1, fun s1 h => by cases h⟩
      · have hE : Calls Tryz.prog 87 #[.pointer (some ⟨R, 0, none⟩)] (wr.alloc (.cells #[.int .u8 (kindI it).toNat, .string (tb (nameI it)), .int .i64 (numI it), .slice A2 nv c2] 157)) fun e w' => e = .returned (.bool true) ∧ w' = wr.alloc (.cells #[.int .u8 (kindI it).toNat, .string (tb (nameI it)), .int .i64 (numI it), .slice A2 nv c2] 157) := by
          match o, HMo, HNo with
          | .next s2, _, HNo => exact absurd rfl (HNo.out s2)
          | .leave m s2, HMo, _ =>
            refine (mends R _ _ _ _ _ false (m : Nat) _ (show Mtr _ R s2 (m : Nat) from Blk.alloc HMo.out _)).mono ?_
            rintro e w' ⟨rfl, rfl⟩
            exact ⟨by rw [decide_eq_true (Int.natCast_nonneg m)]; rfl, rfl⟩
          | .fin q u m, HMo, _ =>
            obtain ⟨xc, xd, hm⟩ := HMo.out
            refine (mends R _ _ _ _ _ true (-1) _ (Blk.alloc hm _)).mono ?_
            rintro e w' ⟨rfl, rfl⟩
            exact ⟨rfl, rfl⟩
        have HE := Lib.hid hE
        have hmA : MSt (wr.alloc (.cells #[.int .u8 (kindI it).toNat, .string (tb (nameI it)), .int .i64 (numI it), .slice A2 nv c2] 157)) R o := by
          match o, HMo with
          | .next s2, HMo => exact Blk.alloc HMo.out _
          | .leave m s2, HMo => exact Blk.alloc HMo.out _
          | .fin q u m, HMo => exact ⟨_, _, Blk.alloc HMo.out.choose_spec.choose_spec _⟩
        have HMA := Lib.hid hmA
        clear hdrop hoi hib hcell hat hsm y0 y1 y2 y3 hit hBR hB hbod hlx hoA hE hmA
        go_wp2_with fail
        refine HE.out.mono ?_
        rintro e w3 ⟨rfl, rfl⟩
        go_wp2_with fail
        first | go_end0 | refine bodyPost_ret (results_none rfl _ _ _) rfl ?_
        exact ⟨rfl, HOA.out, o, HRo.out, HMA.out⟩
    · have hin : i = n := by omega
      have HE := Lib.hid (show l.drop i = [] from List.drop_eq_nil_of_le (by have := HX.out.1; omega))
      have HF : Hid (∃ o, Runs (.l l) s o ∧ MSt wr R o) := by
        rcases hst with ⟨s1, HTr, HSr, HRR⟩ | ⟨o, HRo, HMo, HNo⟩
        · exact ⟨.next s1, HRR.out _ (by rw [HE.out]; exact Runs.nil s1), HTr.out⟩
        · exact ⟨o, HRo.out, HMo.out⟩
      clear hin hst
      go_wp2_with fail
      first | go_end0 | refine bodyPost_ret (results_none rfl _ _ _) rfl ?_
      exact ⟨rfl, HO.out, HF.out⟩

theorem mallTo (R : Nat) : ∀ N, MAllTo R N
  | 0 => fun _ _ _ _ _ _ h => absurd h (Nat.not_lt_zero _)
  | N + 1 => mbody_step R N (mallTo R N)
/-- The model's items in order: what a run of them does. -/
theorem mdoAll_any (R : Nat) (l : List It) (v : Value) (f : Nat) (s : RSt) (w : World) (hs : s.ok) (hbl : (txL l).length ≤ 1048576) (hrow : MRowAt w (MNotR R) l v) (hol : OkL l f) (hT : Mtr w R s (-1)) : MAllSays R l v s w :=
  mallTo R (s.room + 1) l v f s w hs (Nat.lt_succ_self _) hbl hrow hol hT

end Go.Proofs.YtgkamcnbpiipoaaGreat

/-
  The model's runs of texts: the outcome, RunText and NumberIn.
-/
namespace Go.Proofs.YtgkamcnbpiipoaaGreat
open Go.RowKit Go.Sort
attribute [local go_sem] Oper.semAt_some

theorem mstay_any {P : Nat → Prop} {R : Nat} {w w' : World} (h : Below w.heap.size w w') (hR : w.heap.size ≤ R) : Stay w P w' (MNotR R) := ⟨h.size, fun b hb _ => ⟨by show b ≠ R; omega, h.block b hb⟩⟩

set_option maxRecDepth 100000 in
theorem l6Run_any {P : Nat → Prop} (l : List It) (A : Option Addr) (n k : Nat) (c : List UInt8) (w : World) (hbl : (txL l).length ≤ 1048576) (hrow : MRowAt w P l (.slice A n k)) (hol : OkL l 0) :
    Calls Tryz.prog 51 #[.slice A n k, .string (tb c)] w fun e w' => ∃ o, Runs (.l l) (rs0 c) o ∧ e = .returned (.pointer (some ⟨w.heap.size, 0, none⟩)) ∧ MFin w' w.heap.size o.code o.trace o.num ∧ Below w.heap.size w w' := by
  obtain ⟨W, hW⟩ : ∃ W, W = w.alloc (.cells #[.string (tb c), .string (tb []), .int .i64 0, .int .i64 0, .bool false, .int .i64 (-1), .int .i64 0] 98) := ⟨_, rfl⟩
  have hbW : Below w.heap.size w W := by rw [hW]; exact (Below.refl _ w).alloc (Nat.le_refl _) _
  have hTW : Mtr W w.heap.size (rs0 c) (-1) := by rw [hW]; exact Blk.new w _ _
  have hsW : W.heap.size = w.heap.size + 1 := by rw [hW]; simp
  have HD := Lib.hid (mdoAll_any w.heap.size l (.slice A n k) 0 (rs0 c) W ⟨Nat.zero_le _, Nat.zero_le _⟩ hbl (hrow.stay (mstay_any hbW (Nat.le_refl _))) hol hTW)
  have HW := Lib.hid hW
  have HBW := Lib.hid hbW
  have HOL := Lib.hid hol
  clear hW hbW hTW hbl hrow hol
  go_enter Tryz.func51, Tryz.ntmps51
  go_wp2_with (rw [show (⟨#[]⟩ : ByteArray) = tb [] from rfl, ← HW.out])
  refine HD.out.mono ?_
  rintro e w2 ⟨rfl, ho, o, hr, hm⟩
  have HR := Lib.hid hr
  have HB2 := Lib.hid (show Below w.heap.size w w2 from ⟨ho.os.trans HBW.out.os, ho.tape.trans HBW.out.tape, ho.output.trans HBW.out.output, by have := ho.size; omega, fun k hk => (ho.block k (by omega) (by omega)).trans (HBW.out.block k hk)⟩)
  match o, hm, HR with
  | .next s, hm, HR =>
    have HS := Lib.hid (mstop w.heap.size 0 s w2 hm)
    clear hm hr ho
    go_wp2_with fail
    refine HS.out.mono ?_
    rintro e w3 ⟨rfl, hf, ho⟩
    have HF := Lib.hid hf
    have HB3 := Lib.hid (Only.below HB2.out ho)
    clear hf ho
    go_wp2_with fail
    go_ret
    exact ⟨_, HR.out, rfl, HF.out, HB3.out⟩
  | .leave m s, hm, HR => exact absurd (Runs.leave_lt (t := .l l) (f := 0) hr HOL.out) (Nat.not_lt_zero _)
  | .fin q t m, hm, HR =>
    have HS := Lib.hid (mstop_over w.heap.size 0 q t m w2 hm)
    have HF := Lib.hid hm
    clear hm hr ho
    go_wp2_with fail
    refine HS.out.mono ?_
    rintro e w3 ⟨rfl, rfl⟩
    go_wp2_with fail
    go_ret
    exact ⟨_, HR.out, rfl, HF.out, HB2.out⟩


set_option maxRecDepth 100000 in
theorem specRunText_any (s c : List UInt8) (w : World) (hs : s.length ≤ 1048576) (hc : c.length ≤ 4611686018427387904) :
    Calls Tryz.prog 25 #[.string (tb s), .string (tb c)] w fun e w' => ∃ o, RanT s c o ∧ e = .returned (rtV o) ∧ Below w.heap.size w w' := by
  have HIT := Lib.hid (l5Read_any s w hs)
  have HCS := Lib.hid (by rw [tb_size]; exact hc : (tb c).size ≤ 4611686018427387904)
  clear hc hs
  go_enter Tryz.func25, Tryz.ntmps25
  go_wp2_with fail
  refine HIT.out.mono ?_
  rintro e w1 (⟨l, A, m, cp, htx, rfl, hrow, hb⟩ | ⟨hno, A, cp, rfl, hb⟩)
  · have HC := Lib.hid (specChoices_any (tb c) w1 HCS.out)
    have HB := Lib.hid hb
    have HTX := Lib.hid htx
    have HROW := Lib.hid hrow
    clear htx hrow hb
    go_wp2_with fail
    refine HC.out.mono ?_
    rintro e w2 ⟨rfl, hb2⟩
    have HB2 := Lib.hid (HB.out.trans (hb2.mono HB.out.size))
    cases hcb : choicesB (tb c) with
    | false =>
      have HN := Lib.hid (show RanT s c none from .inr hcb)
      clear hb2 hcb
      go_wp2_with fail
      refine bodyPost_ret (v := rtV none) (by simp [results, Tryz.results25, go_sem, rtV, tb]) rfl ?_
      exact ⟨none, HN.out, rfl, HB2.out⟩
    | true =>
      have hlen : (txL l).length ≤ 1048576 := by have h := HTX.out; have h1 := h.1; rw [h.2.2] at h1; omega
      have HD := Lib.hid (l6Run_any (P := NewIn w) l A m cp c w2 hlen (HROW.out.stay ⟨hb2.size, fun b hb hp => ⟨hp, hb2.block b hb⟩⟩) HTX.out.2.1)
      have HC1 := Lib.hid hcb
      clear hb2 hcb hlen
      go_wp2_with fail
      refine HD.out.mono ?_
      rintro e w3 ⟨o, hr, rfl, ⟨xc, xd, hf⟩, hb3⟩
      have HN := Lib.hid (show RanT s c (some o) from ⟨l, HTX.out, HC1.out, hr⟩)
      have HB3 := Lib.hid (HB2.out.trans (hb3.mono HB2.out.size))
      have hltw := hf.lt
      have c1 : w3.cell? ⟨w2.heap.size, 1, none⟩ = some (.string (tb o.trace)) := hf.cell 1
      have c3 : w3.cell? ⟨w2.heap.size, 3, none⟩ = some (.int .i64 (o.code : Nat)) := hf.cell 3
      clear hr hb3 hf
      go_wp2_with fail
      go_quiet (fail)
      go_wp2_with fail
      refine bodyPost_ret (v := rtV (some o)) (by simp [results, Tryz.results25, go_sem, rtV]) rfl ?_
      exact ⟨some o, HN.out, rfl, HB3.out.trans ((mbelow_drew _ _).mono HB3.out.size)⟩
  · have HN := Lib.hid (show RanT s c none from .inl hno)
    have HB := Lib.hid hb
    clear hno hb
    go_wp2_with fail
    refine bodyPost_ret (v := rtV none) (by simp [results, Tryz.results25, go_sem, rtV, tb]) rfl ?_
    exact ⟨none, HN.out, rfl, HB.out⟩

end Go.Proofs.YtgkamcnbpiipoaaGreat
