/-
  The program's run of items: each kind of item, the loop of a frame, items in order; all of it by how much the run can still do.
-/
import Derived.Test.YtgkamcnbpiipoaaGreatRunFrame
import Derived.Test.YtgkamcnbpiipoaaGreatWithin
import Derived.Deep.RegionWith
import Derived.StillTailTactics
namespace Go.Proofs.YtgkamcnbpiipoaaGreat
open Go.RowKit Go.Sort
attribute [local go_sem] Oper.semAt_some

/-- All blocks but the run's own. -/
abbrev NotR (R : Nat) : Nat → Prop := fun b => b ≠ R
theorem stay_run {R : Nat} {w w' : World} (h : Only R w w') : Stay w (NotR R) w' (NotR R) := ⟨h.size, fun b hb hr => ⟨hr, h.block b hr hb⟩⟩

/-- Items, one item: what a call says. -/
abbrev AllSays (R : Nat) (l : List It) (v : Value) (s : RSt) (w : World) : Prop :=
  Calls Tryz.prog 65 #[.pointer (some ⟨R, 0, none⟩), v] w fun e w' => ∃ o, Runs (.l l) s o ∧ RPost R w o e w'
abbrev OneSays (R : Nat) (i : It) (v : Value) (s : RSt) (w : World) : Prop :=
  Calls Tryz.prog 84 #[.pointer (some ⟨R, 0, none⟩), v] w fun e w' => ∃ o, Runs (.i i) s o ∧ RPost R w o e w'
/-- Items with so much to do at most. -/
abbrev AllTo (R N : Nat) : Prop := ∀ (l : List It) (v : Value) (f : Nat) (s : RSt) (w : World), s.ok → s.room < N → (txL l).length ≤ 1048576 → RowAt w (NotR R) l v → OkL l f → Trn w R s → AllSays R l v s w

set_option maxRecDepth 100000 in
theorem do_blk (R : Nat) (c : UInt8) (s : RSt) (w : World) (hs : s.ok) (hT : Trn w R s) : OneSays R (.blk c) (.iface 153 (.agg #[.string (tb [c])])) s w := by
  have a0 : ∀ w, (Instr.typeAssert (.iface 153 (.agg #[.string (tb [c])])) 113 153 true).run Tryz.prog w = .ok (.tuple #[.agg #[.string (tb [c])], .bool true]) w := fun w => by kernel_rfl
  have hT2 : Trn (w.alloc (.cells #[.string (tb [c])] 153)) R s := Blk.alloc hT _
  have HA := Lib.hid ((Only.refl R w).alloc (.cells #[.string (tb [c])] 153))
  by_cases hl : s.trace.length = 60
  · have HB := Lib.hid (block_long R s c _ hT2 hl)
    have HR := Lib.hid (Runs.blkLong (c := c) hl)
    have HT := Lib.hid hT2
    clear hT hT2 hl hs
    go_enter Tryz.func84, Tryz.ntmps84
    go_wp2_with fail
    refine HB.out.mono ?_
    rintro e w1 ⟨⟨older, hgo, rfl⟩, rfl⟩
    exact ⟨rfl, _, HR.out, HA.out, ⟨older, hgo, rfl⟩, s, HT.out, rfl, rfl⟩
  · have HB := Lib.hid (block_one R s c _ hT2 (by have := hs.1; omega))
    have HR := Lib.hid (Runs.blk (c := c) hl)
    clear hT hT2 hl hs
    go_enter Tryz.func84, Tryz.ntmps84
    go_wp2_with fail
    refine HB.out.mono ?_
    rintro e w1 ⟨rfl, hT, ho⟩
    have HT := Lib.hid hT
    have HO := Lib.hid ho
    clear hT ho
    go_wp2_with fail
    first | go_end0 | refine bodyPost_ret (results_none rfl _ _ _) rfl ?_
    exact ⟨_, HR.out, HA.out.trans HO.out, rfl, HT.out⟩

set_option maxRecDepth 100000 in
theorem do_stop (R : Nat) (s : RSt) (w : World) (hT : Trn w R s) : OneSays R .stop (.iface 140 (.agg #[])) s w := by
  have a0 : ∀ w, (Instr.typeAssert (.iface 140 (.agg #[])) 113 153 true).run Tryz.prog w = .ok (.tuple #[.agg #[.string ⟨#[]⟩], .bool false]) w := fun w => by kernel_rfl
  have a1 : ∀ w, (Instr.typeAssert (.iface 140 (.agg #[])) 113 139 true).run Tryz.prog w = .ok (.tuple #[.agg #[.string ⟨#[]⟩, .slice none 0 0, .slice none 0 0], .bool false]) w := fun w => by kernel_rfl
  have a2 : ∀ w, (Instr.typeAssert (.iface 140 (.agg #[])) 113 140 true).run Tryz.prog w = .ok (.tuple #[.agg #[], .bool true]) w := fun w => by kernel_rfl
  have HT := Lib.hid (Blk.alloc hT (.cells #[] 140))
  have HA := Lib.hid ((Only.refl R w).alloc (.cells #[] 140))
  clear hT
  go_enter Tryz.func84, Tryz.ntmps84
  go_wp2_with fail
  exact ⟨rfl, _, Runs.stop s, HA.out, panV_new _ _, s, HT.out, rfl, rfl⟩

set_option maxRecDepth 100000 in
theorem do_leave (R n : Nat) (s : RSt) (w : World) (hT : Trn w R s) : OneSays R (.leave n) (.iface 145 (.agg #[.int .i64 (n : Nat)])) s w := by
  have a0 : ∀ w, (Instr.typeAssert (.iface 145 (.agg #[.int .i64 (n : Nat)])) 113 153 true).run Tryz.prog w = .ok (.tuple #[.agg #[.string ⟨#[]⟩], .bool false]) w := fun w => by kernel_rfl
  have a1 : ∀ w, (Instr.typeAssert (.iface 145 (.agg #[.int .i64 (n : Nat)])) 113 139 true).run Tryz.prog w = .ok (.tuple #[.agg #[.string ⟨#[]⟩, .slice none 0 0, .slice none 0 0], .bool false]) w := fun w => by kernel_rfl
  have a2 : ∀ w, (Instr.typeAssert (.iface 145 (.agg #[.int .i64 (n : Nat)])) 113 140 true).run Tryz.prog w = .ok (.tuple #[.agg #[], .bool false]) w := fun w => by kernel_rfl
  have a3 : ∀ w, (Instr.typeAssert (.iface 145 (.agg #[.int .i64 (n : Nat)])) 113 143 true).run Tryz.prog w = .ok (.tuple #[.agg #[.bool false, .slice none 0 0], .bool false]) w := fun w => by kernel_rfl
  have a4 : ∀ w, (Instr.typeAssert (.iface 145 (.agg #[.int .i64 (n : Nat)])) 113 145 true).run Tryz.prog w = .ok (.tuple #[.agg #[.int .i64 (n : Nat)], .bool true]) w := fun w => by kernel_rfl
  have HT := Lib.hid (Blk.alloc hT (.cells #[.int .i64 (n : Nat)] 145))
  have HA := Lib.hid ((Only.refl R w).alloc (.cells #[.int .i64 (n : Nat)] 145))
  clear hT
  go_enter Tryz.func84, Tryz.ntmps84
  go_wp2_with fail
  exact ⟨rfl, _, Runs.leave n s, HA.out, panV_new _ _, HT.out⟩

set_option maxRecDepth 100000 in
theorem do_set (R n : Nat) (s : RSt) (w : World) (hT : Trn w R s) : OneSays R (.set n) (.iface 147 (.agg #[.int .i64 (n : Nat)])) s w := by
  have a0 : ∀ w, (Instr.typeAssert (.iface 147 (.agg #[.int .i64 (n : Nat)])) 113 153 true).run Tryz.prog w = .ok (.tuple #[.agg #[.string ⟨#[]⟩], .bool false]) w := fun w => by kernel_rfl
  have a1 : ∀ w, (Instr.typeAssert (.iface 147 (.agg #[.int .i64 (n : Nat)])) 113 139 true).run Tryz.prog w = .ok (.tuple #[.agg #[.string ⟨#[]⟩, .slice none 0 0, .slice none 0 0], .bool false]) w := fun w => by kernel_rfl
  have a2 : ∀ w, (Instr.typeAssert (.iface 147 (.agg #[.int .i64 (n : Nat)])) 113 140 true).run Tryz.prog w = .ok (.tuple #[.agg #[], .bool false]) w := fun w => by kernel_rfl
  have a3 : ∀ w, (Instr.typeAssert (.iface 147 (.agg #[.int .i64 (n : Nat)])) 113 143 true).run Tryz.prog w = .ok (.tuple #[.agg #[.bool false, .slice none 0 0], .bool false]) w := fun w => by kernel_rfl
  have a4 : ∀ w, (Instr.typeAssert (.iface 147 (.agg #[.int .i64 (n : Nat)])) 113 145 true).run Tryz.prog w = .ok (.tuple #[.agg #[.int .i64 0], .bool false]) w := fun w => by kernel_rfl
  have a5 : ∀ w, (Instr.typeAssert (.iface 147 (.agg #[.int .i64 (n : Nat)])) 113 147 true).run Tryz.prog w = .ok (.tuple #[.agg #[.int .i64 (n : Nat)], .bool true]) w := fun w => by kernel_rfl
  have hT2 : Trn (w.alloc (.cells #[.int .i64 (n : Nat)] 147)) R s := Blk.alloc hT _
  have f2 : (w.alloc (.cells #[.int .i64 (n : Nat)] 147)).frozen? ⟨R, 2, none⟩ = false := Blk.frozen hT2 2
  have c2 : (w.alloc (.cells #[.int .i64 (n : Nat)] 147)).cell? ⟨R, 2, none⟩ = some (.int .i64 (s.num : Nat)) := Blk.cell hT2 2
  have HT := Lib.hid (Blk.set_ hT2 2 (.int .i64 (n : Nat)))
  have HA := Lib.hid (((Only.refl R w).alloc (.cells #[.int .i64 (n : Nat)] 147)).trans (Only.set R _ 2 (.int .i64 (n : Nat))))
  clear hT hT2
  go_enter Tryz.func84, Tryz.ntmps84
  go_wp2_with fail
  first | go_end0 | refine bodyPost_ret (results_none rfl _ _ _) rfl ?_
  exact ⟨_, Runs.set n s, HA.out, rfl, HT.out⟩

set_option maxRecDepth 100000 in
theorem do_ask (R N : Nat) (H : AllTo R N) (c : UInt8) (l r : List It) (bl : Hid ((txL l).length ≤ 1048576)) (br : Hid ((txL r).length ≤ 1048576)) (f : Nat) (A A2 : Option Addr) (n k n2 k2 : Nat) (s : RSt) (w : World) (hs : s.ok) (hN : s.room < N)
    (hl : RowAt w (NotR R) l (.slice A n k)) (hr : RowAt w (NotR R) r (.slice A2 n2 k2)) (ol : OkL l f) (or : OkL r f) (hT : Trn w R s) :
    OneSays R (.ask c l r) (.iface 139 (.agg #[.string (tb [c]), .slice A n k, .slice A2 n2 k2])) s w := by
  have a0 : ∀ w, (Instr.typeAssert (.iface 139 (.agg #[.string (tb [c]), .slice A n k, .slice A2 n2 k2])) 113 153 true).run Tryz.prog w = .ok (.tuple #[.agg #[.string ⟨#[]⟩], .bool false]) w := fun w => by kernel_rfl
  have a1 : ∀ w, (Instr.typeAssert (.iface 139 (.agg #[.string (tb [c]), .slice A n k, .slice A2 n2 k2])) 113 139 true).run Tryz.prog w = .ok (.tuple #[.agg #[.string (tb [c]), .slice A n k, .slice A2 n2 k2], .bool true]) w := fun w => by kernel_rfl
  have hlt := Blk.lt hT
  have hT2 : Trn (w.alloc (.cells #[.string (tb [c]), .slice A n k, .slice A2 n2 k2] 139)) R s := Blk.alloc hT _
  have hA := (Only.refl R w).alloc (.cells #[.string (tb [c]), .slice A n k, .slice A2 n2 k2] 139)
  have HA := Lib.hid hA
  have HK := Lib.hid (Blk.new w 139 #[.string (tb [c]), .slice A n k, .slice A2 n2 k2])
  by_cases ht : s.trace.length = 60
  · have HB := Lib.hid (block_long R s c _ hT2 ht)
    have HR := Lib.hid (Runs.askLong (c := c) (l := l) (r := r) ht)
    have HT := Lib.hid hT2
    clear hT hT2 ht hs hl hr ol or H hA
    go_enter Tryz.func84, Tryz.ntmps84
    go_wp2_with fail
    refine HB.out.mono ?_
    rintro e w1 ⟨⟨older, hgo, rfl⟩, rfl⟩
    exact ⟨rfl, _, HR.out, HA.out, ⟨older, hgo, rfl⟩, s, HT.out, rfl, rfl⟩
  · have HB := Lib.hid (block_one R s c _ hT2 (by have := hs.1; omega))
    have HS := Lib.hid (RSt.blk_ok hs ht c)
    have HT60 := Lib.hid ht
    have HH := Lib.hid H
    have HL := Lib.hid hl
    have HR := Lib.hid hr
    have OL := Lib.hid ol
    have OR := Lib.hid or
    clear hT hT2 ht hs hl hr ol or H hA
    go_enter Tryz.func84, Tryz.ntmps84
    go_wp2_with fail
    refine HB.out.mono ?_
    rintro e w1 ⟨rfl, hT1, ho1⟩
    have k1 := HK.out.only ho1 (by omega)
    have c0 : w1.cell? ⟨w.heap.size, 0, none⟩ = some (.string (tb [c])) := k1.cell 0
    have c1 : w1.cell? ⟨w.heap.size, 1, none⟩ = some (.slice A n k) := k1.cell 1
    have c2 : w1.cell? ⟨w.heap.size, 2, none⟩ = some (.slice A2 n2 k2) := k1.cell 2
    have HO1 := Lib.hid (HA.out.trans ho1)
    have HT1 := Lib.hid hT1
    cases hx : s.left with
    | nil =>
      have HC := Lib.hid (chosen_none R (s.blk c) (.string (tb [c])) (.slice A n k) (.slice A2 n2 k2) w1 hT1 hx)
      have HX := Lib.hid hx
      clear hT1 ho1 k1 hx
      go_wp2_with fail
      refine HC.out.mono ?_
      rintro e w2 ⟨⟨older, hgo, rfl⟩, hb⟩
      exact ⟨rfl, _, Runs.askNone HT60.out HX.out, HO1.out.trans (.of_below hb), ⟨older, hgo, rfl⟩, s.blk c, Blk.below HT1.out hb (Blk.lt HT1.out), rfl, rfl⟩
    | cons x t =>
      have HC := Lib.hid (chosen_one R (s.blk c) x t (.string (tb [c])) (.slice A n k) (.slice A2 n2 k2) w1 hT1 hx)
      have HX := Lib.hid hx
      clear hT1 ho1 k1 hx
      go_wp2_with fail
      refine HC.out.mono ?_
      rintro e w2 ⟨rfl, hT2, ho2⟩
      have HO2 := Lib.hid (HO1.out.trans ho2)
      by_cases hxl : x = 108
      · have HD := Lib.hid (HH.out l (.slice A n k) f _ w2 (show RSt.ok { s.blk c with left := t } from HS.out.1) (show RSt.room { s.blk c with left := t } < N from by have := HS.out.2; show (s.blk c).room < N; omega) bl.out (HL.out.stay (stay_run HO2.out)) OL.out hT2)
        rw [if_pos hxl]
        have HXL := Lib.hid hxl
        clear hT2 ho2 hxl
        go_wp2_with fail
        refine HD.out.mono ?_
        rintro e w3 ⟨o, hr, ho, hp⟩
        have HRO : Runs (.i (.ask c l r)) s o := Runs.ask HT60.out HX.out (by rw [if_pos HXL.out]; exact hr)
        have HO3 : Only R w w3 := HO2.out.trans ho
        match o, hp, HRO with
        | .next s', hp, HRO =>
          obtain ⟨rfl, hT⟩ := hp
          have HP := Lib.hid (And.intro HRO (And.intro HO3 hT))
          clear hr ho HRO HO3 hT
          go_wp2_with fail
          first | go_end0 | refine bodyPost_ret (results_none rfl _ _ _) rfl ?_
          exact ⟨_, HP.out.1, HP.out.2.1, rfl, HP.out.2.2⟩
        | .leave m s', hp, HRO =>
          obtain ⟨⟨older, hgo, rfl⟩, hT⟩ := hp
          exact ⟨rfl, _, HRO, HO3, ⟨older, hgo, rfl⟩, hT⟩
        | .fin q u m, hp, HRO =>
          obtain ⟨⟨older, hgo, rfl⟩, hT⟩ := hp
          exact ⟨rfl, _, HRO, HO3, ⟨older, hgo, rfl⟩, hT⟩
      · have HD := Lib.hid (HH.out r (.slice A2 n2 k2) f _ w2 (show RSt.ok { s.blk c with left := t } from HS.out.1) (show RSt.room { s.blk c with left := t } < N from by have := HS.out.2; show (s.blk c).room < N; omega) br.out (HR.out.stay (stay_run HO2.out)) OR.out hT2)
        rw [if_neg hxl]
        have HXL := Lib.hid hxl
        clear hT2 ho2 hxl
        go_wp2_with fail
        refine HD.out.mono ?_
        rintro e w3 ⟨o, hr, ho, hp⟩
        have HRO : Runs (.i (.ask c l r)) s o := Runs.ask HT60.out HX.out (by rw [if_neg HXL.out]; exact hr)
        have HO3 : Only R w w3 := HO2.out.trans ho
        match o, hp, HRO with
        | .next s', hp, HRO =>
          obtain ⟨rfl, hT⟩ := hp
          have HP := Lib.hid (And.intro HRO (And.intro HO3 hT))
          clear hr ho HRO HO3 hT
          go_wp2_with fail
          first | go_end0 | refine bodyPost_ret (results_none rfl _ _ _) rfl ?_
          exact ⟨_, HP.out.1, HP.out.2.1, rfl, HP.out.2.2⟩
        | .leave m s', hp, HRO =>
          obtain ⟨⟨older, hgo, rfl⟩, hT⟩ := hp
          exact ⟨rfl, _, HRO, HO3, ⟨older, hgo, rfl⟩, hT⟩
        | .fin q u m, hp, HRO =>
          obtain ⟨⟨older, hgo, rfl⟩, hT⟩ := hp
          exact ⟨rfl, _, HRO, HO3, ⟨older, hgo, rfl⟩, hT⟩

set_option maxRecDepth 100000 in
theorem do_frame (R N : Nat) (H : AllTo R N) (b : Bool) (l : List It) (bl : Hid ((txL l).length ≤ 1048576)) (f : Nat) (A : Option Addr) (n k : Nat) (s : RSt) (w : World) (hs : s.ok) (hN : s.room < N)
    (hl : RowAt w (NotR R) l (.slice A n k)) (hf : f < 9) (ol : OkL l (f + 1)) (hT : Trn w R s) :
    OneSays R (.frame b l) (.iface 143 (.agg #[.bool b, .slice A n k])) s w := by
  have a0 : ∀ w, (Instr.typeAssert (.iface 143 (.agg #[.bool b, .slice A n k])) 113 153 true).run Tryz.prog w = .ok (.tuple #[.agg #[.string ⟨#[]⟩], .bool false]) w := fun w => by kernel_rfl
  have a1 : ∀ w, (Instr.typeAssert (.iface 143 (.agg #[.bool b, .slice A n k])) 113 139 true).run Tryz.prog w = .ok (.tuple #[.agg #[.string ⟨#[]⟩, .slice none 0 0, .slice none 0 0], .bool false]) w := fun w => by kernel_rfl
  have a2 : ∀ w, (Instr.typeAssert (.iface 143 (.agg #[.bool b, .slice A n k])) 113 140 true).run Tryz.prog w = .ok (.tuple #[.agg #[], .bool false]) w := fun w => by kernel_rfl
  have a3 : ∀ w, (Instr.typeAssert (.iface 143 (.agg #[.bool b, .slice A n k])) 113 143 true).run Tryz.prog w = .ok (.tuple #[.agg #[.bool b, .slice A n k], .bool true]) w := fun w => by kernel_rfl
  have hlt := Blk.lt hT
  have HA := Lib.hid ((Only.refl R w).alloc (.cells #[.bool b, .slice A n k] 143))
  have HK := Lib.hid (Blk.new w 143 #[.bool b, .slice A n k])
  have HT := Lib.hid (show Trn (w.alloc (.cells #[.bool b, .slice A n k] 143)) R s from Blk.alloc hT _)
  have HS := Lib.hid (And.intro hs hN)
  have HH := Lib.hid H
  have HL := Lib.hid hl
  have OL := Lib.hid ol
  clear hT hs hl ol H hN
  go_enter Tryz.func84, Tryz.ntmps84
  go_wp2_with fail
  go_loopg [] s.room (fun gk wr => ∃ s1 : RSt, gk = s1.room ∧ Hid (Only R w wr) ∧ Hid (Blk wr w.heap.size 143 #[.bool b, .slice A n k]) ∧ Hid (Trn wr R s1) ∧ Hid (s1.ok ∧ s1.room < N) ∧ Hid (∀ o, Runs (.f b l) s1 o → Runs (.f b l) s o))
  case atStart => exact ⟨s, rfl, HA, HK, HT, HS, fun _ h => h⟩
  case round =>
    obtain ⟨s1, rfl, HO, HKr, HTr, HSr, HRR⟩ := hrel
    have c0 : wr.cell? ⟨w.heap.size, 0, none⟩ = some (.bool b) := HKr.out.cell 0
    have c1 : wr.cell? ⟨w.heap.size, 1, none⟩ = some (.slice A n k) := HKr.out.cell 1
    have HF := Lib.hid (runFrame_any R b l (.slice A n k) f s1 wr hf OL.out HTr.out (fun W hW hTW => HH.out l (.slice A n k) (f + 1) s1 W HSr.out.1 HSr.out.2 bl.out (HL.out.stay (stay_run (HO.out.trans hW))) OL.out hTW))
    go_wp2_with fail
    refine HF.out.mono ?_
    rintro e w1 ⟨o, hr, ho, hp⟩
    have HO1 := Lib.hid (HO.out.trans ho)
    have HK1 := Lib.hid (HKr.out.only ho (by omega))
    match o, hp, hr with
    | .next s2, hp, hr =>
      obtain ⟨rfl, hT⟩ := hp
      have HP := Lib.hid (And.intro (Runs.frame (HRR.out _ (Runs.f_next hr))) hT)
      clear hr ho hT
      go_wp2_with fail
      first | go_end0 | refine bodyPost_ret (results_none rfl _ _ _) rfl ?_
      exact ⟨_, HP.out.1, HO1.out, rfl, HP.out.2⟩
    | .leave (m + 1) s2, hp, hr =>
      obtain ⟨⟨older, hgo, rfl⟩, hT⟩ := hp
      exact ⟨rfl, _, Runs.frame (HRR.out _ (Runs.f_out hr)), HO1.out, ⟨older, hgo, rfl⟩, hT⟩
    | .fin q u m, hp, hr =>
      obtain ⟨⟨older, hgo, rfl⟩, hT⟩ := hp
      exact ⟨rfl, _, Runs.frame (HRR.out _ (Runs.f_fin hr)), HO1.out, ⟨older, hgo, rfl⟩, hT⟩
    | .leave 0 s2, hp, hr =>
      obtain ⟨rfl, hT⟩ := hp
      have hok : s2.ok ∧ s2.room ≤ s1.room := Runs.ok hr HSr.out.1
      have HT2 := Lib.hid hT
      have HR2 := Lib.hid hr
      clear hr ho hT
      cases b with
      | false =>
        go_wp2_with fail
        first | go_end0 | refine bodyPost_ret (results_none rfl _ _ _) rfl ?_
        exact ⟨_, Runs.frame (HRR.out _ (Runs.f_once HR2.out)), HO1.out, rfl, HT2.out⟩
      | true =>
        by_cases hi : s2.idle = 4000
        · have HSt := Lib.hid (step_long R s2 w1 HT2.out hi)
          have HI := Lib.hid hi
          clear hi
          go_wp2_with fail
          refine HSt.out.mono ?_
          rintro e w3 ⟨⟨older, hgo, rfl⟩, rfl⟩
          exact ⟨rfl, _, Runs.frame (HRR.out _ (Runs.f_long HR2.out HI.out)), HO1.out, ⟨older, hgo, rfl⟩, s2, HT2.out, rfl, rfl⟩
        · have hst := RSt.step_ok hok.1 hi
          have HSt := Lib.hid (step_one R s2 w1 HT2.out (by have := hok.1.2; omega))
          have HI := Lib.hid hi
          have hlt2 : s2.step.room < s1.room := by have := hok.2; omega
          have HS3 := Lib.hid (And.intro hst.1 (Nat.lt_trans hlt2 HSr.out.2))
          clear hi hok hst
          go_wp2_with fail
          refine HSt.out.mono ?_
          rintro e w3 ⟨rfl, hT3, ho3⟩
          have HT3 := Lib.hid hT3
          have HO3 := Lib.hid (HO1.out.trans ho3)
          have HK3 := Lib.hid (HK1.out.only ho3 (by omega))
          clear hT3 ho3
          go_wp2_with fail
          go_roundg (s2.step.room)
          case measure => omega
          case rel => exact ⟨s2.step, rfl, HO3, HK3, HT3, HS3, fun o h => HRR.out o (Runs.f_again HR2.out HI.out h)⟩

theorem below_drewR (w : World) (n : Nat) : Below w.heap.size w (w.drewN n) := ⟨rfl, rfl, rfl, Nat.le_refl _, fun _ _ => rfl⟩
theorem Trn.below {w w' : World} {R : Nat} {s : RSt} (h : Trn w R s) (hb : Below w.heap.size w w') : Trn w' R s := Blk.below h hb (Blk.lt h)
set_option maxRecDepth 100000 in
theorem do_pick (R N : Nat) (H : AllTo R N) (bs : List (List It)) (bl : Hid (∀ b ∈ bs, (txL b).length ≤ 1048576)) (f : Nat) (A : Option Addr) (vs : List Value) (k : Nat) (s : RSt) (w : World) (hs : s.ok) (hN : s.room < N)
    (hl : Reads w (NotR R) (.slice A vs.length k) vs) (ha : AllRows w (NotR R) bs vs) (ol : OkB bs f) (hT : Trn w R s) :
    OneSays R (.pick bs) (.iface 151 (.agg #[.slice A vs.length k])) s w := by
  obtain ⟨n, hn⟩ : ∃ n, n = vs.length := ⟨_, rfl⟩
  have hlen := ha.len
  rw [← hn] at hl hlen ⊢
  have a0 : ∀ w, (Instr.typeAssert (.iface 151 (.agg #[.slice A n k])) 113 153 true).run Tryz.prog w = .ok (.tuple #[.agg #[.string ⟨#[]⟩], .bool false]) w := fun w => by kernel_rfl
  have a1 : ∀ w, (Instr.typeAssert (.iface 151 (.agg #[.slice A n k])) 113 139 true).run Tryz.prog w = .ok (.tuple #[.agg #[.string ⟨#[]⟩, .slice none 0 0, .slice none 0 0], .bool false]) w := fun w => by kernel_rfl
  have a2 : ∀ w, (Instr.typeAssert (.iface 151 (.agg #[.slice A n k])) 113 140 true).run Tryz.prog w = .ok (.tuple #[.agg #[], .bool false]) w := fun w => by kernel_rfl
  have a3 : ∀ w, (Instr.typeAssert (.iface 151 (.agg #[.slice A n k])) 113 143 true).run Tryz.prog w = .ok (.tuple #[.agg #[.bool false, .slice none 0 0], .bool false]) w := fun w => by kernel_rfl
  have a4 : ∀ w, (Instr.typeAssert (.iface 151 (.agg #[.slice A n k])) 113 145 true).run Tryz.prog w = .ok (.tuple #[.agg #[.int .i64 0], .bool false]) w := fun w => by kernel_rfl
  have a5 : ∀ w, (Instr.typeAssert (.iface 151 (.agg #[.slice A n k])) 113 147 true).run Tryz.prog w = .ok (.tuple #[.agg #[.int .i64 0], .bool false]) w := fun w => by kernel_rfl
  have a6 : ∀ w, (Instr.typeAssert (.iface 151 (.agg #[.slice A n k])) 113 151 true).run Tryz.prog w = .ok (.tuple #[.agg #[.slice A n k], .bool true]) w := fun w => by kernel_rfl
  have hlt := Blk.lt hT
  have hA := (Only.refl R w).alloc (.cells #[.slice A n k] 151)
  have hT2 : Trn (w.alloc (.cells #[.slice A n k] 151)) R s := Blk.alloc hT _
  have c2 : (w.alloc (.cells #[.slice A n k] 151)).cell? ⟨R, 2, none⟩ = some (.int .i64 (s.num : Nat)) := Blk.cell hT2 2
  have HT := Lib.hid hT2
  have HA := Lib.hid hA
  by_cases hk : s.num < n
  · obtain ⟨v, hv, hrow⟩ := AllRows.at_ ha s.num (by omega)
    have hb' : bs[s.num]? = some bs[s.num] := List.getElem?_eq_getElem (by omega)
    obtain ⟨l, hll⟩ : ∃ l, l = bs[s.num] := ⟨_, rfl⟩
    rw [← hll] at hrow hb'
    have hol := okB_get ol hb'
    obtain ⟨_, _, he, hcell⟩ := hl
    injection he with he1 he2 he3
    subst he1; subst he3
    obtain ⟨B, off, rfl, hB, hBR, hcell⟩ := hcell (by omega)
    have hcv : w.cell? ⟨B, off + s.num, none⟩ = some v := by
      rw [hcell s.num (by omega)]
      rw [List.getElem?_eq_getElem (by omega)] at hv
      exact hv
    have cv : (w.alloc (.cells #[.slice (some ⟨B, off, none⟩) n k] 151)).cell? ⟨B, off + s.num, none⟩ = some v := (cell_same (hA.block B hBR hB) _).trans hcv
    have HC : ∀ (W : World), Below (w.alloc (.cells #[.slice (some ⟨B, off, none⟩) n k] 151)).heap.size (w.alloc (.cells #[.slice (some ⟨B, off, none⟩) n k] 151)) W → Calls Tryz.prog 65 #[.pointer (some ⟨R, 0, none⟩), v] W fun e w' => ∃ o, Runs (.i (.pick bs)) s o ∧ RPost R w o e w' := fun W hb =>
      (H l v f s W hs hN (bl.out l (List.mem_of_getElem? hb')) (hrow.stay (stay_run (hA.trans (.of_below hb)))) hol (hT2.below hb)).mono fun e w' ⟨o, h1, h2, h3⟩ => ⟨o, Runs.pick hb' h1, (hA.trans (.of_below hb)).trans h2, h3⟩
    have HD := Lib.hid HC
    clear hT hT2 hs ha ol H hA hcell hrow hol hv hb' hcv hll hn he2 hlen hB hBR HC
    go_enter Tryz.func84, Tryz.ntmps84
    go_wp2_with fail
    go_quiet (fail)
    go_wp2_with fail
    refine wp_region_still_tail 9 (by kernel_rfl) (by kernel_rfl) ?_
    change wpStill _ _ (World.drew _) (fun a' => wpList _ _ _ _ a' (World.drew _)) _ _
    simp only [List.take_succ_cons, List.take_zero, List.drop_succ_cons, List.drop_zero]
    repeat still_step
    refine wpStill_nil ?_
    go_wp2_with fail
    refine (HD.out _ (below_drewR _ _)).mono ?_
    rintro e w1 ⟨o, hr, ho, hp⟩
    match o, hp, hr with
    | .next s', hp, hr =>
      obtain ⟨rfl, hT⟩ := hp
      have HP := Lib.hid (And.intro hr (And.intro ho hT))
      clear hr ho hT
      go_wp2_with fail
      first | go_end0 | refine bodyPost_ret (results_none rfl _ _ _) rfl ?_
      exact ⟨_, HP.out.1, HP.out.2.1, rfl, HP.out.2.2⟩
    | .leave m s', hp, hr =>
      obtain ⟨⟨older, hgo, rfl⟩, hT⟩ := hp
      exact ⟨rfl, _, hr, ho, ⟨older, hgo, rfl⟩, hT⟩
    | .fin q u m, hp, hr =>
      obtain ⟨⟨older, hgo, rfl⟩, hT⟩ := hp
      exact ⟨rfl, _, hr, ho, ⟨older, hgo, rfl⟩, hT⟩
  · have hb : bs[s.num]? = none := List.getElem?_eq_none (by omega)
    have HB := Lib.hid hb
    clear hT hT2 hs hl ha ol H hA hb hn hlen
    go_enter Tryz.func84, Tryz.ntmps84
    go_wp2_with fail
    go_quiet (fail)
    go_wp2_with fail
    first | go_end0 | refine bodyPost_ret (results_none rfl _ _ _) rfl ?_
    exact ⟨_, Runs.pickNone HB.out, HA.out.trans (.of_below (below_drewR _ _)), rfl, HT.out.below (below_drewR _ _)⟩

theorem ItemAt.do_any {R N : Nat} (H : AllTo R N) {i : It} {v : Value} {f : Nat} {s : RSt} {w : World} (hs : s.ok) (hN : s.room < N) (hb : (txI i).length ≤ 1048576) (hi : ItemAt w (NotR R) i v) (ho : OkI i f) (hT : Trn w R s) : OneSays R i v s w := by
  have hB : ∀ b ∈ bodI i, (txL b).length ≤ 1048576 := fun b h => by have := bod_shorter h; omega
  cases i with
  | blk c => rw [ItemAt] at hi; subst hi; exact do_blk R c s w hs hT
  | stop => rw [ItemAt] at hi; subst hi; exact do_stop R s w hT
  | leave n => rw [ItemAt] at hi; subst hi; exact do_leave R n s w hT
  | set n => rw [ItemAt] at hi; subst hi; exact do_set R n s w hT
  | ask c l r =>
    rw [ItemAt] at hi; rw [OkI] at ho
    obtain ⟨vl, vr, xs, ys, rfl, h1, h2, h3, h4⟩ := hi
    obtain ⟨A, k, rfl, g1⟩ := h1
    obtain ⟨A2, k2, rfl, g2⟩ := h3
    exact do_ask R N H c l r (Lib.hid (hB l (by simp [bodI]))) (Lib.hid (hB r (by simp [bodI]))) f A A2 _ k _ k2 s w hs hN ⟨xs, ⟨A, k, rfl, g1⟩, h2⟩ ⟨ys, ⟨A2, k2, rfl, g2⟩, h4⟩ ho.2.1 ho.2.2 hT
  | frame b l =>
    rw [ItemAt] at hi; rw [OkI] at ho
    obtain ⟨vl, xs, rfl, h1, h2⟩ := hi
    obtain ⟨A, k, rfl, g1⟩ := h1
    exact do_frame R N H b l (Lib.hid (hB l (by simp [bodI]))) f A _ k s w hs hN ⟨xs, ⟨A, k, rfl, g1⟩, h2⟩ ho.1 ho.2 hT
  | pick bs =>
    rw [ItemAt] at hi; rw [OkI] at ho
    obtain ⟨vb, xs, rfl, h1, h2⟩ := hi
    obtain ⟨A, k, rfl, g1⟩ := h1
    exact do_pick R N H bs (Lib.hid hB) f A xs k s w hs hN ⟨A, k, rfl, g1⟩ h2 ho.2.2 hT

set_option maxRecDepth 100000 in
theorem doAll_step (R N : Nat) (H : AllTo R N) : AllTo R (N + 1) := by
  intro l v f s w hs hN hbl hrow hol hT
  obtain ⟨xs, ⟨A, cap, rfl, hc⟩, ha⟩ := hrow
  have hlen := ha.len
  have hle := txL_length l
  obtain ⟨n, hn⟩ : ∃ n, n = xs.length := ⟨_, rfl⟩
  rw [← hn] at hlen ⊢
  have hn9 : n ≤ 1048576 := by omega
  have HBL := Lib.hid hbl
  have HC := Lib.hid hc
  have HA := Lib.hid ha
  have HX := Lib.hid (And.intro hn hlen)
  have HH := Lib.hid H
  have HOL := Lib.hid hol
  have HT := Lib.hid hT
  have HS := Lib.hid (show s.ok ∧ s.room < N + 1 from ⟨hs, hN⟩)
  clear hs hN ha hol hT hc H hn hlen hle hbl
  go_enter Tryz.func65, Tryz.ntmps65
  go_wp2_with fail
  go_loopg [8] n (fun gk iv wr => ∃ (i : Nat) (s1 : RSt), gk = n - i ∧ i ≤ n ∧ iv = .int .i64 i ∧ Hid (Only R w wr) ∧ Hid (Trn wr R s1) ∧ Hid (s1.ok ∧ s1.room < N + 1) ∧ Hid (∀ o, Runs (.l (l.drop i)) s1 o → Runs (.l l) s o))
  case atStart => exact ⟨0, s, by omega, Nat.zero_le _, rfl, Only.refl R w, HT.out, HS.out, fun _ h => h⟩
  case round =>
    obtain ⟨i, s1, rfl, hi, rfl, HO, HTr, HSr, HRR⟩ := hrel
    by_cases hil : i < n
    · obtain ⟨B, off, hAe, hB, hBR, hcell⟩ := HC.out (by have := HX.out.1; omega)
      obtain ⟨v, hv, hat⟩ := AllAt.at_ HA.out i (by have := HX.out.2; omega)
      have cv : wr.cell? ⟨B, off + i, none⟩ = some v := by
        rw [cell_same (HO.out.block B hBR hB), hcell i (by have := HX.out.1; omega)]
        rw [List.getElem?_eq_getElem (by have := HX.out.1; omega)] at hv
        exact hv
      have hdrop : l.drop i = l[i]'(by have := HX.out.2; omega) :: l.drop (i + 1) := List.drop_eq_getElem_cons _
      obtain ⟨it, hit⟩ : ∃ it, it = l[i]'(by have := HX.out.2; omega) := ⟨_, rfl⟩
      rw [← hit] at hat hdrop
      have hoi : OkI it f := okL_get HOL.out it (by rw [hit]; exact List.getElem_mem _)
      have HDR := Lib.hid hdrop
      have HAT := Lib.hid (hat.stay (stay_run HO.out))
      have HOI := Lib.hid hoi
      have HIB := Lib.hid (show (txI it).length ≤ 1048576 from Nat.le_trans (txL_mem (by rw [hit]; exact List.getElem_mem _)) HBL.out)
      subst hAe
      by_cases hid : s1.idle = 4000
      · have HSt := Lib.hid (step_long R s1 wr HTr.out hid)
        have HI := Lib.hid hid
        clear hid hdrop hat hoi hcell hv hit hBR hB
        go_wp2_with fail
        refine HSt.out.mono ?_
        rintro e w3 ⟨⟨older, hgo, rfl⟩, rfl⟩
        exact ⟨rfl, _, HRR.out (.fin 2 s1.trace s1.num) (by rw [HDR.out]; exact Runs.long HI.out), HO.out, ⟨older, hgo, rfl⟩, s1, HTr.out, rfl, rfl⟩
      · have hst := RSt.step_ok HSr.out.1 hid
        have HSt := Lib.hid (step_one R s1 wr HTr.out (by have := HSr.out.1.2; omega))
        have HI := Lib.hid hid
        have HS2 := Lib.hid (show s1.step.ok ∧ s1.step.room < N from ⟨hst.1, by have := HSr.out.2; omega⟩)
        clear hid hst hdrop hat hoi hcell hv hit hBR hB
        go_wp2_with fail
        refine HSt.out.mono ?_
        rintro e w3 ⟨rfl, hT3, ho3⟩
        have HO3 := Lib.hid (HO.out.trans ho3)
        have HD := Lib.hid (ItemAt.do_any HH.out HS2.out.1 HS2.out.2 HIB.out (HAT.out.stay (stay_run ho3)) HOI.out hT3)
        clear hT3 ho3
        go_wp2_with fail
        refine HD.out.mono ?_
        rintro e w4 ⟨o, hr, ho, hp⟩
        have HO4 := Lib.hid (HO3.out.trans ho)
        match o, hp, hr with
        | .next s2, hp, hr =>
          obtain ⟨rfl, hT⟩ := hp
          have hok : s2.ok ∧ s2.room ≤ s1.step.room := Runs.ok hr HS2.out.1
          have HS4 := Lib.hid (show s2.ok ∧ s2.room < N + 1 from ⟨hok.1, by have := HS2.out.2; have := hok.2; omega⟩)
          have HT4 := Lib.hid hT
          have HR4 := Lib.hid hr
          clear hr ho hT hok
          go_wp2_with fail
          go_roundg (n - (i + 1))
          case measure => omega
          case rel => exact ⟨i + 1, s2, rfl, by omega, by go_num, HO4, HT4, HS4, fun o h => HRR.out o (by rw [HDR.out]; exact Runs.cons HI.out HR4.out h)⟩
        | .leave m s2, hp, hr =>
          obtain ⟨⟨older, hgo, rfl⟩, hT⟩ := hp
          exact ⟨rfl, _, HRR.out (.leave m s2) (by rw [HDR.out]; exact Runs.cons_leave HI.out hr), HO4.out, ⟨older, hgo, rfl⟩, hT⟩
        | .fin q u m, hp, hr =>
          obtain ⟨⟨older, hgo, rfl⟩, hT⟩ := hp
          exact ⟨rfl, _, HRR.out (.fin q u m) (by rw [HDR.out]; exact Runs.cons_fin HI.out hr), HO4.out, ⟨older, hgo, rfl⟩, hT⟩
    · have hin : i = n := by omega
      have HE := Lib.hid (show l.drop i = [] from List.drop_eq_nil_of_le (by have := HX.out.2; omega))
      clear hin
      go_wp2_with fail
      first | go_end0 | refine bodyPost_ret (results_none rfl _ _ _) rfl ?_
      exact ⟨_, HRR.out (.next s1) (by rw [HE.out]; exact Runs.nil s1), HO.out, rfl, HTr.out⟩

theorem allTo (R : Nat) : ∀ N, AllTo R N
  | 0 => fun _ _ _ _ _ _ h => absurd h (Nat.not_lt_zero _)
  | N + 1 => doAll_step R N (allTo R N)
/-- Items in order: what a run of them does. -/
theorem doAll_any (R : Nat) (l : List It) (v : Value) (f : Nat) (s : RSt) (w : World) (hs : s.ok) (hbl : (txL l).length ≤ 1048576) (hrow : RowAt w (NotR R) l v) (hol : OkL l f) (hT : Trn w R s) : AllSays R l v s w :=
  allTo R (s.room + 1) l v f s w hs (Nat.lt_succ_self _) hbl hrow hol hT
end Go.Proofs.YtgkamcnbpiipoaaGreat
