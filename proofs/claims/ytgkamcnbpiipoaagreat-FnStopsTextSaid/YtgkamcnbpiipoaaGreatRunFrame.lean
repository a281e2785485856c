/-
  The program's run of a text: what it is in memory, how it panics, and its small steps.
-/
import Derived.Test.YtgkamcnbpiipoaaGreatRunMath
import Derived.Test.YtgkamcnbpiipoaaGreatReader
import Derived.IntWalk
import Derived.Recover
import Derived.Test.YtgkamcnbpiipoaaGreatItemsOf
namespace Go.Proofs.YtgkamcnbpiipoaaGreat
open Go.RowKit Go.Sort

/-- A run in block R. -/
def Trn (w : World) (R : Nat) (s : RSt) : Prop := Blk w R 84 #[.string (tb s.left), .string (tb s.trace), .int .i64 (s.num : Nat), .int .i64 (s.idle : Nat)]
/-- A panic with a value, maybe behind panics that were recovered. -/
def PanV (T : TypeId) (v : Value) (e : Ending) : Prop := ∃ older : List PanicEntry, (∀ p ∈ older, p.goexit = false) ∧ e = .panicked ({ v := .iface T v, recovered := false } :: older)
theorem panV_new (T : TypeId) (v : Value) : PanV T v (.panicked [{ v := .iface T v, recovered := false }]) := ⟨[], fun _ h => (by cases h), rfl⟩
abbrev PanF (k : Nat) (e : Ending) : Prop := PanV 116 (.agg #[.int .i64 (k : Nat)]) e
abbrev PanL (n : Nat) (e : Ending) : Prop := PanV 166 (.agg #[.int .i64 (n : Nat)]) e

set_option maxRecDepth 100000 in
theorem step_long (R : Nat) (s : RSt) (w : World) (h : Trn w R s) (hi : s.idle = 4000) :
    Calls Tryz.prog 83 #[.pointer (some ⟨R, 0, none⟩)] w fun e w' => PanF 2 e ∧ w' = w := by
  have c3 : w.cell? ⟨R, 3, none⟩ = some (.int .i64 (s.idle : Nat)) := Blk.cell h 3
  rw [hi] at c3
  clear h hi
  go_enter Tryz.func83, Tryz.ntmps83
  go_wp2_with fail
  exact ⟨rfl, panV_new _ _, rfl⟩
set_option maxRecDepth 100000 in
theorem step_one (R : Nat) (s : RSt) (w : World) (h : Trn w R s) (hi : s.idle < 4000) :
    Calls Tryz.prog 83 #[.pointer (some ⟨R, 0, none⟩)] w fun e w' => e = .returned (.tuple #[]) ∧ Trn w' R s.step ∧ Only R w w' := by
  have c3 : w.cell? ⟨R, 3, none⟩ = some (.int .i64 (s.idle : Nat)) := Blk.cell h 3
  have f3 : w.frozen? ⟨R, 3, none⟩ = false := Blk.frozen h 3
  have HN := Lib.hid (Blk.set_ h 3 (.int .i64 ((s.idle : Int) + 1)))
  have s1 : IntKind.i64.wrap ((s.idle : Int) + 1) = (s.idle : Int) + 1 := IntWalk.i64_in _ (by omega)
  have g1 : ((s.idle : Int) == 4000) = false := by simp; omega
  obtain ⟨d, hd⟩ : ∃ d, d = s.idle := ⟨_, rfl⟩
  have HD := Lib.hid hd
  rw [← hd] at c3 s1 g1 HN hi
  clear h hd
  go_enter Tryz.func83, Tryz.ntmps83
  go_wp2_with fail
  first | go_end0 | refine bodyPost_ret (results_none rfl _ _ _) rfl ?_
  refine ⟨rfl, ?_, Only.set R w 3 _⟩
  have := HN.out
  unfold Trn RSt.step
  simp only
  rw [show (((s.idle + 1 : Nat)) : Int) = (d : Int) + 1 by rw [← HD.out]; omega]
  exact this

set_option maxRecDepth 100000 in
theorem block_long (R : Nat) (s : RSt) (c : UInt8) (w : World) (h : Trn w R s) (hl : s.trace.length = 60) :
    Calls Tryz.prog 97 #[.pointer (some ⟨R, 0, none⟩), .string (tb [c])] w fun e w' => PanF 2 e ∧ w' = w := by
  have c1 : w.cell? ⟨R, 1, none⟩ = some (.string (tb s.trace)) := Blk.cell h 1
  have hz : (tb s.trace).size = 60 := by rw [tb_size, hl]
  clear h hl
  go_enter Tryz.func97, Tryz.ntmps97
  go_wp2_with fail
  exact ⟨rfl, panV_new _ _, rfl⟩
theorem tb_snoc (a : List UInt8) (c : UInt8) : tb a ++ tb [c] = tb (a ++ [c]) := by
  apply ba_ext
  rw [ByteArray.data_append, Array.toList_append, tb_data, tb_data, tb_data]
set_option maxRecDepth 100000 in
theorem block_one (R : Nat) (s : RSt) (c : UInt8) (w : World) (h : Trn w R s) (hl : s.trace.length < 60) :
    Calls Tryz.prog 97 #[.pointer (some ⟨R, 0, none⟩), .string (tb [c])] w fun e w' => e = .returned (.tuple #[]) ∧ Trn w' R (s.blk c) ∧ Only R w w' := by
  have c1 : w.cell? ⟨R, 1, none⟩ = some (.string (tb s.trace)) := Blk.cell h 1
  have f1 : w.frozen? ⟨R, 1, none⟩ = false := Blk.frozen h 1
  have k1 := Blk.set_ h 1 (.string (tb s.trace ++ tb [c]))
  have f3 : (w.setCell ⟨R, 1, none⟩ (.string (tb s.trace ++ tb [c]))).frozen? ⟨R, 3, none⟩ = false := Blk.frozen k1 3
  have c3 : (w.setCell ⟨R, 1, none⟩ (.string (tb s.trace ++ tb [c]))).cell? ⟨R, 3, none⟩ = some (.int .i64 (s.idle : Nat)) := Blk.cell k1 3
  have HN := Lib.hid (Blk.set_ k1 3 (.int .i64 0))
  have hz : (tb s.trace).size = s.trace.length := tb_size _
  have hz1 : (tb [c]).size = 1 := rfl
  have g1 : ((s.trace.length : Int) == 60) = false := by simp; omega
  have g2 : ¬ 9223372036854775807 < s.trace.length + 1 := by omega
  clear h k1
  go_enter Tryz.func97, Tryz.ntmps97
  go_wp2_with fail
  first | go_end0 | refine bodyPost_ret (results_none rfl _ _ _) rfl ?_
  refine ⟨rfl, ?_, (Only.set R w 1 _).trans (Only.set R _ 3 _)⟩
  have := HN.out
  rw [tb_snoc] at this ⊢
  exact this

set_option maxRecDepth 100000 in
theorem chosen_none (R : Nat) (s : RSt) (q : Value) (a b : Value) (w : World) (h : Trn w R s) (hl : s.left = []) :
    Calls Tryz.prog 98 #[.pointer (some ⟨R, 0, none⟩), .agg #[q, a, b]] w fun e w' => PanF 1 e ∧ Below w.heap.size w w' := by
  have hlt := Blk.lt h
  have c0 : w.cell? ⟨R, 0, none⟩ = some (.string (tb [])) := by have : w.cell? ⟨R, 0, none⟩ = some (.string (tb s.left)) := Blk.cell h 0; rw [hl] at this; exact this
  have t1 : (tb []).toList.isEmpty = true := by rw [tb_toList]; rfl
  clear h hl
  go_enter Tryz.func98, Tryz.ntmps98
  go_wp2_with fail
  exact ⟨rfl, panV_new _ _, (Below.refl _ w).alloc (Nat.le_refl _) _⟩

set_option maxRecDepth 100000 in
theorem chosen_one (R : Nat) (s : RSt) (x : UInt8) (t : List UInt8) (q : Value) (a b : Value) (w : World) (h : Trn w R s) (hl : s.left = x :: t) :
    Calls Tryz.prog 98 #[.pointer (some ⟨R, 0, none⟩), .agg #[q, a, b]] w fun e w' => e = .returned (if x = 108 then a else b) ∧ Trn w' R { s with left := t } ∧ Only R w w' := by
  have hlt := Blk.lt h
  have c0 : w.cell? ⟨R, 0, none⟩ = some (.string (tb (x :: t))) := by have : w.cell? ⟨R, 0, none⟩ = some (.string (tb s.left)) := Blk.cell h 0; rw [hl] at this; exact this
  have f0 : w.frozen? ⟨R, 0, none⟩ = false := Blk.frozen h 0
  have HN := Lib.hid (Blk.set_ h 0 (.string (tb t)))
  have HT := Lib.hid (tb_tail x t)
  obtain ⟨y, hy⟩ : ∃ y, y = tb (x :: t) := ⟨_, rfl⟩
  have hz : y.size = t.length + 1 := by rw [hy, tb_size]; rfl
  have t1 : y.toList.isEmpty = false := by rw [hy, tb_toList]; rfl
  have hp0 : 0 < y.size := by omega
  have hx : y[0]'hp0 = x := by
    have : (tb (x :: t))[0]'(by rw [tb_size]; simp) = x := rfl
    simpa [hy] using this
  rw [← hy] at c0 HT
  have l1 : 1 ≤ y.size := by omega
  have l2 : (1 : Int) ≤ (y.size : Int) := by omega
  rw [← hz] at HT
  have HX := Lib.hid hx
  clear h hl hy hz
  by_cases h108 : x = 108
  · have g1 : (((y[0]'hp0).toNat : Int) == 108) = true := by rw [hx, h108]; rfl
    rw [if_pos h108]
    clear h108 hx
    go_enter Tryz.func98, Tryz.ntmps98
    go_wp2_with fail
    refine bodyPost_ret (v := a) (by simp [results, Tryz.results98, go_sem]) rfl ⟨rfl, ?_, (Only.set R w 0 _).alloc _⟩
    rw [HT.out]
    exact Blk.alloc HN.out _
  · have g1 : (((y[0]'hp0).toNat : Int) == 108) = false := by
      have : x.toNat ≠ 108 := fun e => h108 (UInt8.toNat_inj.1 e)
      rw [hx]; simp; omega
    rw [if_neg h108]
    clear h108 hx
    go_enter Tryz.func98, Tryz.ntmps98
    go_wp2_with fail
    refine bodyPost_ret (v := b) (by simp [results, Tryz.results98, go_sem]) rfl ⟨rfl, ?_, (Only.set R w 0 _).alloc _⟩
    rw [HT.out]
    exact Blk.alloc HN.out _

/-- What a run hands back. -/
def RPost (R : Nat) (w : World) (o : ROut) (e : Ending) (w' : World) : Prop := Only R w w' ∧ match o with
  | .next s => e = .returned (.tuple #[]) ∧ Trn w' R s
  | .leave n s => PanL n e ∧ Trn w' R s
  | .fin k t m => PanF k e ∧ ∃ s, Trn w' R s ∧ s.trace = t ∧ s.num = m

/-- Behind 'recover' a deferred closure goes on as any code. -/
theorem wpS_plain {P : Program} {c : Code} {Q : Exit → Act → List Frame → World → Prop} {a : Act} {cs : List Frame} {w : World} (Q' : Exit → Act → World → Prop) (h : c.wp P Q' a w) (hQ : ∀ e a' w', Q' e a' w' → Q e a' cs w') : c.wpS P Q a cs w :=
  wpS_of_wp (Code.wp_mono hQ h)
/-- It comes to its end in this world. -/
def EndN (w1 : World) (e : Exit) (a : Act) (w : World) : Prop := e = .normal ∧ a.defers = [] ∧ w = w1
/-- It panics anew. -/
def EndP (ch : List PanicEntry) (w1 : World) (e : Exit) (a : Act) (w : World) : Prop := e = .panic ch ∧ a.defers = [] ∧ w = w1

set_option maxRecDepth 100000 in
theorem leave_idle (FB AB : Nat) (w : World) :
    CallsD Tryz.prog 109 #[.pointer (some ⟨FB, 0, none⟩), .pointer (some ⟨AB, 0, none⟩)] .returning w fun e u' w' => e = .returned (.tuple #[]) ∧ u' = .returning ∧ w' = w := by
  refine callsD_of_wpS Tryz.func109 rfl fun c₀ cs hu => ?_
  apply wpS_seq
  apply wpS_region
  simp [wpOpsS, go_sem, recoverD, hu, Tryz.ntmps109, Exit.thenS]
  refine wpS_plain (EndN w) ?_ ?_
  · clear hu
    simp only [Array.replicate_succ, Array.replicate_zero, List.push_toArray, List.setIfInBounds_toArray, List.set_cons_succ, List.set_cons_zero, List.append_toArray, List.cons_append, List.nil_append]
    go_wp2_with fail
    exact ⟨rfl, rfl, rfl⟩
  · rintro e a' w' ⟨rfl, hd, rfl⟩
    cases c₀
    simp_all [bodyPostS, results, Tryz.results109]

set_option maxRecDepth 100000 in
theorem leave_again (FB AB : Nat) (b : Bool) (v : Value) (older : List PanicEntry) (w : World) (hF : Blk w FB 143 #[.bool b, v]) (hA : Blk w AB 4 #[.bool false]) :
    CallsD Tryz.prog 109 #[.pointer (some ⟨FB, 0, none⟩), .pointer (some ⟨AB, 0, none⟩)] (.panicking ({ v := .iface 166 (.agg #[.int .i64 0]), recovered := false } :: older)) w fun e u' w' =>
      e = .returned (.tuple #[]) ∧ u' = .panicking ({ v := .iface 166 (.agg #[.int .i64 0]), recovered := true } :: older) ∧ w' = (w.setCell ⟨AB, 0, none⟩ (.bool b)).alloc (.cells #[.int .i64 0] 166) := by
  have a0 : ∀ w, (Instr.typeAssert (.iface 166 (.agg #[.int .i64 0])) 20 166 true).run Tryz.prog w = .ok (.tuple #[.agg #[.int .i64 0], .bool true]) w := fun w => by kernel_rfl
  have q0 : ∀ w, (binOp .eql 20 (.iface 166 (.agg #[.int .i64 0])) .nilIface).run Tryz.prog w = .ok (.bool false) w := fun w => by kernel_rfl
  have c0 := hF.cell 0
  have l0 := hF.lt
  have c1 := hA.cell 0
  have f1 := hA.frozen 0
  have l1 := hA.lt
  clear hF hA
  refine callsD_of_wpS Tryz.func109 rfl fun c₀ cs hu => ?_
  apply wpS_seq
  apply wpS_region
  simp [wpOpsS, go_sem, recoverD, hu, Tryz.ntmps109, Exit.thenS]
  refine wpS_plain (EndN ((w.setCell ⟨AB, 0, none⟩ (.bool b)).alloc (.cells #[.int .i64 0] 166))) ?_ ?_
  · clear hu
    simp only [Array.replicate_succ, Array.replicate_zero, List.push_toArray, List.setIfInBounds_toArray, List.set_cons_succ, List.set_cons_zero, List.append_toArray, List.cons_append, List.nil_append]
    go_wp2_with fail
    exact ⟨rfl, rfl, rfl⟩
  · rintro e a' w' ⟨rfl, hd, rfl⟩
    cases c₀
    simp_all [bodyPostS, results, Tryz.results109]

set_option maxRecDepth 100000 in
theorem leave_outer (FB AB n : Nat) (hn : n ≤ 1000) (older : List PanicEntry) (w : World) :
    CallsD Tryz.prog 109 #[.pointer (some ⟨FB, 0, none⟩), .pointer (some ⟨AB, 0, none⟩)] (.panicking ({ v := .iface 166 (.agg #[.int .i64 ((n + 1 : Nat) : Int)]), recovered := false } :: older)) w fun e u' w' =>
      e = .panicked [{ v := .iface 166 (.agg #[.int .i64 (n : Nat)]), recovered := false }] ∧ u' = .panicking ({ v := .iface 166 (.agg #[.int .i64 ((n + 1 : Nat) : Int)]), recovered := true } :: older) ∧ w' = w.alloc (.cells #[.int .i64 ((n + 1 : Nat) : Int)] 166) := by
  obtain ⟨m, hm⟩ : ∃ m : Int, m = ((n + 1 : Nat) : Int) := ⟨_, rfl⟩
  rw [← hm]
  have a0 : ∀ w, (Instr.typeAssert (.iface 166 (.agg #[.int .i64 m])) 20 166 true).run Tryz.prog w = .ok (.tuple #[.agg #[.int .i64 m], .bool true]) w := fun w => by kernel_rfl
  have q0 : ∀ w, (binOp .eql 20 (.iface 166 (.agg #[.int .i64 m])) .nilIface).run Tryz.prog w = .ok (.bool false) w := fun w => by kernel_rfl
  have g0 : decide (0 < m) = true := decide_eq_true (by omega)
  have s1 : IntKind.i64.wrap (m - 1) = (n : Int) := by rw [IntWalk.i64_in _ (by omega)]; omega
  clear hm
  refine callsD_of_wpS Tryz.func109 rfl fun c₀ cs hu => ?_
  apply wpS_seq
  apply wpS_region
  simp [wpOpsS, go_sem, recoverD, hu, Tryz.ntmps109, Exit.thenS]
  refine wpS_plain (EndP [{ v := .iface 166 (.agg #[.int .i64 (n : Nat)]), recovered := false }] (w.alloc (.cells #[.int .i64 m] 166))) ?_ ?_
  · clear hu
    simp only [Array.replicate_succ, Array.replicate_zero, List.push_toArray, List.setIfInBounds_toArray, List.set_cons_succ, List.set_cons_zero, List.append_toArray, List.cons_append, List.nil_append]
    go_wp2_with fail
    exact ⟨rfl, rfl, rfl⟩
  · rintro e a' w' ⟨rfl, hd, rfl⟩
    cases c₀
    simp_all [bodyPostS]

set_option maxRecDepth 100000 in
theorem leave_fin (FB AB k : Nat) (older : List PanicEntry) (w : World) :
    CallsD Tryz.prog 109 #[.pointer (some ⟨FB, 0, none⟩), .pointer (some ⟨AB, 0, none⟩)] (.panicking ({ v := .iface 116 (.agg #[.int .i64 (k : Nat)]), recovered := false } :: older)) w fun e u' w' =>
      e = .panicked [{ v := .iface 116 (.agg #[.int .i64 (k : Nat)]), recovered := false }] ∧ u' = .panicking ({ v := .iface 116 (.agg #[.int .i64 (k : Nat)]), recovered := true } :: older) ∧ w' = w := by
  obtain ⟨m, hm⟩ : ∃ m : Int, m = (k : Int) := ⟨_, rfl⟩
  rw [← hm]
  have a0 : ∀ w, (Instr.typeAssert (.iface 116 (.agg #[.int .i64 m])) 20 166 true).run Tryz.prog w = .ok (.tuple #[.agg #[.int .i64 0], .bool false]) w := fun w => by kernel_rfl
  have q0 : ∀ w, (binOp .eql 20 (.iface 116 (.agg #[.int .i64 m])) .nilIface).run Tryz.prog w = .ok (.bool false) w := fun w => by kernel_rfl
  clear hm
  refine callsD_of_wpS Tryz.func109 rfl fun c₀ cs hu => ?_
  apply wpS_seq
  apply wpS_region
  simp [wpOpsS, go_sem, recoverD, hu, Tryz.ntmps109, Exit.thenS]
  refine wpS_plain (EndP [{ v := .iface 116 (.agg #[.int .i64 m]), recovered := false }] w) ?_ ?_
  · clear hu
    simp only [Array.replicate_succ, Array.replicate_zero, List.push_toArray, List.setIfInBounds_toArray, List.set_cons_succ, List.set_cons_zero, List.append_toArray, List.cons_append, List.nil_append]
    go_wp2_with fail
    exact ⟨rfl, rfl, rfl⟩
  · rintro e a' w' ⟨rfl, hd, rfl⟩
    cases c₀
    simp_all [bodyPostS]
end Go.Proofs.YtgkamcnbpiipoaaGreat

/-
  The program's frame, given what all items within it do: it is left, left further out, begun anew, or the run ends.
-/
namespace Go.Proofs.YtgkamcnbpiipoaaGreat
open Go.RowKit Go.Sort

/-- What a frame hands back, by what its items do. -/
def FPost (R : Nat) (b : Bool) (w : World) (o : ROut) (e : Ending) (w' : World) : Prop := Only R w w' ∧ match o with
  | .next s => e = .returned (.bool false) ∧ Trn w' R s
  | .leave 0 s => e = .returned (.bool b) ∧ Trn w' R s
  | .leave (n + 1) s => PanL n e ∧ Trn w' R s
  | .fin k t m => PanF k e ∧ ∃ s, Trn w' R s ∧ s.trace = t ∧ s.num = m

theorem Trn.only {w w' : World} {R S : Nat} {s : RSt} (h : Trn w R s) (ho : Only S w w') (hne : R ≠ S) : Trn w' R s := Blk.only h ho hne
theorem Trn.set {w : World} {R S : Nat} {s : RSt} (h : Trn w R s) (hne : R ≠ S) (i : Nat) (u : Value) : Trn (w.setCell ⟨S, i, none⟩ u) R s := Blk.other h hne i u
theorem Only.setNew {R S : Nat} {a w : World} (h : Only R a w) (hS : a.heap.size ≤ S) (i : Nat) (v : Value) : Only R a (w.setCell ⟨S, i, none⟩ v) :=
  ⟨h.os, h.tape, h.output, by simpa using h.size, fun k hk hlt => (Below.heap_setCell w ⟨S, i, none⟩ v k (by show k ≠ S; omega)).trans (h.block k hk hlt)⟩

theorem dropWhile_none : ∀ {l : List PanicEntry}, (∀ p ∈ l, p.goexit = false) → l.dropWhile (!·.goexit) = []
  | [], _ => rfl
  | a :: l, h => by
    have ha : a.goexit = false := h a (by simp)
    simp only [List.dropWhile_cons, ha, Bool.not_false, if_true]
    exact dropWhile_none fun p hp => h p (by simp [hp])

set_option maxRecDepth 100000 in
set_option maxHeartbeats 1600000 in
theorem runFrame_any (R : Nat) (b : Bool) (l : List It) (v : Value) (f : Nat) (s : RSt) (w : World) (hf : f < 9) (hl : OkL l (f + 1)) (hT : Trn w R s)
    (H : ∀ W, Only R w W → Trn W R s → Calls Tryz.prog 65 #[.pointer (some ⟨R, 0, none⟩), v] W fun e w' => ∃ o, Runs (.l l) s o ∧ RPost R W o e w') :
    Calls Tryz.prog 99 #[.pointer (some ⟨R, 0, none⟩), .agg #[.bool b, v]] w fun e w' => ∃ o, Runs (.l l) s o ∧ FPost R b w o e w' := by
  have hmf : ∀ (fn : Fn) (first cap : Array Value) (w : World), (Instr.makeFunc fn first cap).run Tryz.prog w = .ok (.func fn first cap) w := fun _ _ _ _ => rfl
  obtain ⟨W, hW⟩ : ∃ W, W = (w.alloc (.cells #[.bool b, v] 143)).alloc (.cells #[.bool false] 4) := ⟨_, rfl⟩
  have hR := Blk.lt hT
  have hoW : Only R w W := by rw [hW]; exact ((Only.refl R w).alloc _).alloc _
  have hsW : W.heap.size = w.heap.size + 2 := by rw [hW]; simp
  have hFB : Blk W w.heap.size 143 #[.bool b, v] := by rw [hW]; exact (Blk.new w _ _).alloc _
  have hAB : Blk W (w.heap.size + 1) 4 #[.bool false] := by
    have := Blk.new (w.alloc (.cells #[.bool b, v] 143)) 4 #[.bool false]
    rw [World.size_alloc] at this
    rw [hW]; exact this
  have hTW : Trn W R s := by rw [hW]; exact (Blk.alloc hT _).alloc _
  have HD := Lib.hid (H W hoW hTW)
  have HW := Lib.hid hW
  have HOW := Lib.hid hoW
  have HFB := Lib.hid hFB
  have HAB := Lib.hid hAB
  have c9 : W.cell? ⟨w.heap.size, 1, none⟩ = some v := hFB.cell 1
  clear hW hoW hFB hAB hTW H hT
  go_enter_defers Tryz.func99, Tryz.ntmps99
  go_wp2_with fail
  rw [← HW.out]
  refine HD.out.mono ?_
  rintro e w2 ⟨o, hr, ho, hp⟩
  have hn2 : w.heap.size + 2 ≤ w2.heap.size := by have := ho.size; omega
  have k0 := HFB.out.only ho (by omega)
  have k1 := HAB.out.only ho (by omega)
  have hoW2 : Only R w w2 := HOW.out.trans ho
  have HO := Lib.hid hoW2
  have HR := Lib.hid hr
  have hset : ∀ (i : Nat) (u : Value), Only R w (w2.setCell ⟨w.heap.size + 1, i, none⟩ u) := fun i u => hoW2.setNew (by omega) i u
  match o, hp, hr with
  | .next s', hp, hr =>
    obtain ⟨rfl, hT⟩ := hp
    have k11 := k1.set_ 0 (.bool false)
    have c1 : (w2.setCell ⟨w.heap.size + 1, 0, none⟩ (.bool false)).cell? ⟨w.heap.size + 1, 0, none⟩ = some (.bool false) := k11.cell 0
    have c0 : w2.cell? ⟨w.heap.size + 1, 0, none⟩ = some (.bool false) := k1.cell 0
    have f1 := k1.frozen 0
    have HT := Lib.hid (hT.set (S := w.heap.size + 1) (by omega) 0 (.bool false))
    have HS := Lib.hid (hset 0 (.bool false))
    clear hr ho k0 k1 k11 hset hoW2 hT hp
    go_wp2_with fail
    refine leaves_cons (f := 109) (args := #[.pointer (some ⟨w.heap.size, 0, none⟩), .pointer (some ⟨w.heap.size + 1, 0, none⟩)]) (by simp) (by simp [go_sem]) ?_
    refine (leave_idle w.heap.size (w.heap.size + 1) _).mono ?_
    rintro e u' w'' ⟨rfl, rfl, rfl⟩
    simp [Leaves, settle, results, Tryz.results99, go_sem, c1]
    exact ⟨_, HR.out, HS.out, rfl, HT.out⟩
  | .leave 0 s', hp, hr =>
    obtain ⟨⟨older, hgo, rfl⟩, hT⟩ := hp
    have k11 := k1.set_ 0 (.bool b)
    have c1 : ((w2.setCell ⟨w.heap.size + 1, 0, none⟩ (.bool b)).alloc (.cells #[.int .i64 0] 166)).cell? ⟨w.heap.size + 1, 0, none⟩ = some (.bool b) := (k11.alloc _).cell 0
    have HT := Lib.hid (Blk.alloc (hT.set (S := w.heap.size + 1) (by omega) 0 (.bool b)) (.cells #[.int .i64 0] 166))
    have HS := Lib.hid ((hset 0 (.bool b)).alloc (.cells #[.int .i64 0] 166))
    have HK0 := Lib.hid k0
    have HK1 := Lib.hid k1
    clear hr ho k0 k1 k11 hset hoW2 hT
    refine leaves_cons (f := 109) (args := #[.pointer (some ⟨w.heap.size, 0, none⟩), .pointer (some ⟨w.heap.size + 1, 0, none⟩)]) (by simp) (by simp [go_sem]) ?_
    refine (leave_again w.heap.size (w.heap.size + 1) b v older _ HK0.out HK1.out).mono ?_
    rintro e u' w'' ⟨rfl, rfl, rfl⟩
    have hdrop : older.dropWhile (!·.goexit) = [] := dropWhile_none hgo
    simp [Leaves, settle, hdrop, results, Tryz.results99, go_sem, c1]
    exact ⟨_, HR.out, HS.out, rfl, HT.out⟩
  | .leave (n + 1) s', hp, hr =>
    obtain ⟨⟨older, hgo, rfl⟩, hT⟩ := hp
    have hn : n ≤ 1000 := by have := Runs.leave_lt (t := .l l) (f := f + 1) hr hl; omega
    have HT := Lib.hid (Blk.alloc hT (.cells #[.int .i64 ((n + 1 : Nat) : Int)] 166))
    have HS := Lib.hid (hoW2.alloc (.cells #[.int .i64 ((n + 1 : Nat) : Int)] 166))
    clear hr ho k0 k1 hset hoW2 hT
    refine leaves_cons (f := 109) (args := #[.pointer (some ⟨w.heap.size, 0, none⟩), .pointer (some ⟨w.heap.size + 1, 0, none⟩)]) (by simp) (by simp [go_sem]) ?_
    refine (leave_outer w.heap.size (w.heap.size + 1) n hn older _).mono ?_
    rintro e u' w'' ⟨rfl, rfl, rfl⟩
    simp only [Leaves, raised, List.cons_append, List.nil_append]
    refine ⟨_, HR.out, HS.out, ⟨_, ?_, rfl⟩, HT.out⟩
    intro p hp
    rcases List.mem_cons.1 hp with rfl | hp
    · rfl
    · exact hgo p hp
  | .fin k t m, hp, hr =>
    obtain ⟨⟨older, hgo, rfl⟩, hT⟩ := hp
    have HT := Lib.hid hT
    clear hr ho k0 k1 hset hoW2 hT
    refine leaves_cons (f := 109) (args := #[.pointer (some ⟨w.heap.size, 0, none⟩), .pointer (some ⟨w.heap.size + 1, 0, none⟩)]) (by simp) (by simp [go_sem]) ?_
    refine (leave_fin w.heap.size (w.heap.size + 1) k older _).mono ?_
    rintro e u' w'' ⟨rfl, rfl, rfl⟩
    simp only [Leaves, raised, List.cons_append, List.nil_append]
    refine ⟨_, HR.out, HO.out, ⟨_, ?_, rfl⟩, HT.out⟩
    intro p hp
    rcases List.mem_cons.1 hp with rfl | hp
    · rfl
    · exact hgo p hp
end Go.Proofs.YtgkamcnbpiipoaaGreat
