import Derived.Test.YtlkfakdghjaoaaaGreatDoorJ2
import Derived.IntWalk
import Derived.Recover
import Derived.Test.YtlkfakdghjaoaaaGreatDoorItemsOf
import Derived.Test.YtlkfakdghjaoaaaGreatDoorJ3
set_option maxRecDepth 100000
set_option maxHeartbeats 1600000
namespace Go.Proofs.YtlkfakdghjaoaaaGreatDoor
open Go.RowKit Go.Sort
def Trn (w : World) (R : Nat) (s : RSt) : Prop := Blk w R 187 #[.string (tb s.left), .string (tb s.trace), .int .i64 (s.num : Nat), .int .i64 (s.idle : Nat)]
def DL (T : TypeId) (v : Value) (e : Ending) : Prop := ∃ older : List PanicEntry, (∀ p ∈ older, p.goexit = false) ∧ e = .panicked ({ v := .iface T v, recovered := false } :: older)
theorem kp (T : TypeId) (v : Value) : DL T v (.panicked [{ v := .iface T v, recovered := false }]) := ⟨[], fun _ h => (by cases h), rfl⟩
abbrev wh (k : Nat) (e : Ending) : Prop := DL 237 (.agg #[.int .i64 (k : Nat)]) e
abbrev FQ (n : Nat) (e : Ending) : Prop := DL 273 (.agg #[.int .i64 (n : Nat)]) e
theorem tI (R : Nat) (s : RSt) (w : World) (h : Trn w R s) (hi : s.idle = 4000) :
  Calls Tryz.prog 198 #[.pointer (some ⟨R, 0, none⟩)] w fun e w' => wh 2 e ∧ w' = w := by
 have c3 : w.cell? ⟨R, 3, none⟩ = some (.int .i64 (s.idle : Nat)) := Blk.cell h 3
 rw [hi] at c3
 clear h hi
 go_enter Tryz.func198, Tryz.ntmps198
 go_wp2_with fail
 exact ⟨rfl, kp _ _, rfl⟩
theorem wi (R : Nat) (s : RSt) (w : World) (h : Trn w R s) (hi : s.idle < 4000) :
  Calls Tryz.prog 198 #[.pointer (some ⟨R, 0, none⟩)] w fun e w' => e = .returned (.tuple #[]) ∧ Trn w' R s.step ∧ Only R w w' := by
 have c3 : w.cell? ⟨R, 3, none⟩ = some (.int .i64 (s.idle : Nat)) := Blk.cell h 3
 have f3 : w.frozen? ⟨R, 3, none⟩ = false := Blk.frozen h 3
 have HN := GR (Blk.set_ h 3 (.int .i64 ((s.idle : Int) + 1)))
 have s1 : IntKind.i64.wrap ((s.idle : Int) + 1) = (s.idle : Int) + 1 := IntWalk.i64_in _ (by omega)
 have g1 : ((s.idle : Int) == 4000) = false := by simp; omega
 obtain ⟨d, hd⟩ : ∃ d, d = s.idle := ⟨_, rfl⟩
 have HD := GR hd
 rw [← hd] at c3 s1 g1 HN hi
 clear h hd
 go_enter Tryz.func198, Tryz.ntmps198
 go_wp2_with fail
 first | go_end0 | refine bodyPost_ret (results_none rfl _ _ _) rfl ?_
 refine ⟨rfl, ?_, Only.set R w 3 _⟩
 have := HN.out
 unfold Trn RSt.step
 simp only
 rw [show (((s.idle + 1 : Nat)) : Int) = (d : Int) + 1 by rw [← HD.out]; omega]
 exact this
theorem rh (R : Nat) (s : RSt) (c : UInt8) (w : World) (h : Trn w R s) (hl : s.trace.length = 60) :
  Calls Tryz.prog 220 #[.pointer (some ⟨R, 0, none⟩), .string (tb [c])] w fun e w' => wh 2 e ∧ w' = w := by
 have c1 : w.cell? ⟨R, 1, none⟩ = some (.string (tb s.trace)) := Blk.cell h 1
 have hz : (tb s.trace).size = 60 := by rw [aB, hl]
 clear h hl
 go_enter Tryz.func220, Tryz.ntmps220
 go_wp2_with fail
 exact ⟨rfl, kp _ _, rfl⟩
theorem EZ (a : List UInt8) (c : UInt8) : tb a ++ tb [c] = tb (a ++ [c]) := by
 apply bg
 rw [ByteArray.data_append, Array.toList_append, aI, aI, aI]
theorem tJ (R : Nat) (s : RSt) (c : UInt8) (w : World) (h : Trn w R s) (hl : s.trace.length < 60) :
  Calls Tryz.prog 220 #[.pointer (some ⟨R, 0, none⟩), .string (tb [c])] w fun e w' => e = .returned (.tuple #[]) ∧ Trn w' R (s.blk c) ∧ Only R w w' := by
 have c1 : w.cell? ⟨R, 1, none⟩ = some (.string (tb s.trace)) := Blk.cell h 1
 have f1 : w.frozen? ⟨R, 1, none⟩ = false := Blk.frozen h 1
 have k1 := Blk.set_ h 1 (.string (tb s.trace ++ tb [c]))
 have f3 : (w.setCell ⟨R, 1, none⟩ (.string (tb s.trace ++ tb [c]))).frozen? ⟨R, 3, none⟩ = false := Blk.frozen k1 3
 have c3 : (w.setCell ⟨R, 1, none⟩ (.string (tb s.trace ++ tb [c]))).cell? ⟨R, 3, none⟩ = some (.int .i64 (s.idle : Nat)) := Blk.cell k1 3
 have HN := GR (Blk.set_ k1 3 (.int .i64 0))
 have hz : (tb s.trace).size = s.trace.length := aB _
 have hz1 : (tb [c]).size = 1 := rfl
 have g1 : ((s.trace.length : Int) == 60) = false := by simp; omega
 have g2 : ¬ 9223372036854775807 < s.trace.length + 1 := by omega
 clear h k1
 go_enter Tryz.func220, Tryz.ntmps220
 go_wp2_with fail
 first | go_end0 | refine bodyPost_ret (results_none rfl _ _ _) rfl ?_
 refine ⟨rfl, ?_, (Only.set R w 1 _).trans (Only.set R _ 3 _)⟩
 have := HN.out
 rw [EZ] at this ⊢
 exact this
theorem xS (R : Nat) (s : RSt) (q : Value) (a b : Value) (w : World) (h : Trn w R s) (hl : s.left = []) :
  Calls Tryz.prog 221 #[.pointer (some ⟨R, 0, none⟩), .agg #[q, a, b]] w fun e w' => wh 1 e ∧ Below w.heap.size w w' := by
 have hlt := Blk.lt h
 have c0 : w.cell? ⟨R, 0, none⟩ = some (.string (tb [])) := by have : w.cell? ⟨R, 0, none⟩ = some (.string (tb s.left)) := Blk.cell h 0; rw [hl] at this; exact this
 have t1 : (tb []).toList.isEmpty = true := by rw [an]; rfl
 clear h hl
 go_enter Tryz.func221, Tryz.ntmps221
 go_wp2_with fail
 exact ⟨rfl, kp _ _, (Below.refl _ w).alloc (Nat.le_refl _) _⟩
theorem z8 (R : Nat) (s : RSt) (x : UInt8) (t : List UInt8) (q : Value) (a b : Value) (w : World) (h : Trn w R s) (hl : s.left = x :: t) :
  Calls Tryz.prog 221 #[.pointer (some ⟨R, 0, none⟩), .agg #[q, a, b]] w fun e w' => e = .returned (if x = 108 then a else b) ∧ Trn w' R { s with left := t } ∧ Only R w w' := by
 have hlt := Blk.lt h
 have c0 : w.cell? ⟨R, 0, none⟩ = some (.string (tb (x :: t))) := by have : w.cell? ⟨R, 0, none⟩ = some (.string (tb s.left)) := Blk.cell h 0; rw [hl] at this; exact this
 have f0 : w.frozen? ⟨R, 0, none⟩ = false := Blk.frozen h 0
 have HN := GR (Blk.set_ h 0 (.string (tb t)))
 have HT := GR (yC x t)
 obtain ⟨y, hy⟩ : ∃ y, y = tb (x :: t) := ⟨_, rfl⟩
 have hz : y.size = t.length + 1 := by rw [hy, aB]; rfl
 have t1 : y.toList.isEmpty = false := by rw [hy, an]; rfl
 have hp0 : 0 < y.size := by omega
 have hx : y[0]'hp0 = x := by
  have : (tb (x :: t))[0]'(by rw [aB]; simp) = x := rfl
  simpa [hy] using this
 rw [← hy] at c0 HT
 have l1 : 1 ≤ y.size := by omega
 have l2 : (1 : Int) ≤ (y.size : Int) := by omega
 rw [← hz] at HT
 have HX := GR hx
 clear h hl hy hz
 by_cases h108 : x = 108
 ·have g1 : (((y[0]'hp0).toNat : Int) == 108) = true := by rw [hx, h108]; rfl
  rw [if_pos h108]
  clear h108 hx
  go_enter Tryz.func221, Tryz.ntmps221
  go_wp2_with fail
  refine bodyPost_ret (v := a) (by simp [results, Tryz.results221, go_sem]) rfl ⟨rfl, ?_, (Only.set R w 0 _).alloc _⟩
  rw [HT.out]
  exact Blk.alloc HN.out _
 ·have g1 : (((y[0]'hp0).toNat : Int) == 108) = false := by
   have : x.toNat ≠ 108 := fun e => h108 (UInt8.toNat_inj.1 e)
   rw [hx]; simp; omega
  rw [if_neg h108]
  clear h108 hx
  go_enter Tryz.func221, Tryz.ntmps221
  go_wp2_with fail
  refine bodyPost_ret (v := b) (by simp [results, Tryz.results221, go_sem]) rfl ⟨rfl, ?_, (Only.set R w 0 _).alloc _⟩
  rw [HT.out]
  exact Blk.alloc HN.out _
def uG (R : Nat) (w : World) (o : ROut) (e : Ending) (w' : World) : Prop := Only R w w' ∧ match o with
 | .next s => e = .returned (.tuple #[]) ∧ Trn w' R s
 | .leave n s => FQ n e ∧ Trn w' R s
 | .fin k t m => wh k e ∧ ∃ s, Trn w' R s ∧ s.trace = t ∧ s.num = m
theorem gY {P : Program} {c : Code} {Q : Exit → Act → List Frame → World → Prop} {a : Act} {cs : List Frame} {w : World} (Q' : Exit → Act → World → Prop) (h : c.wp P Q' a w) (hQ : ∀ e a' w', Q' e a' w' → Q e a' cs w') : c.wpS P Q a cs w :=
 wpS_of_wp (Code.wp_mono hQ h)
def Aa (w1 : World) (e : Exit) (a : Act) (w : World) : Prop := e = .normal ∧ a.defers = [] ∧ w = w1
def FR (ch : List PanicEntry) (w1 : World) (e : Exit) (a : Act) (w : World) : Prop := e = .panic ch ∧ a.defers = [] ∧ w = w1
theorem Ab (FB AB : Nat) (w : World) :
  CallsD Tryz.prog 244 #[.pointer (some ⟨FB, 0, none⟩), .pointer (some ⟨AB, 0, none⟩)] .returning w fun e u' w' => e = .returned (.tuple #[]) ∧ u' = .returning ∧ w' = w := by
 refine callsD_of_wpS Tryz.func244 rfl fun c₀ cs hu => ?_
 apply wpS_seq
 apply wpS_region
 simp [wpOpsS, go_sem, recoverD, hu, Tryz.ntmps244, Exit.thenS]
 refine gY (Aa w) ?_ ?_
 ·clear hu
  simp only [Array.replicate_succ, Array.replicate_zero, List.push_toArray, List.setIfInBounds_toArray, List.set_cons_succ, List.set_cons_zero, List.append_toArray, List.cons_append, List.nil_append]
  go_wp2_with fail
  exact ⟨rfl, rfl, rfl⟩
 ·rintro e a' w' ⟨rfl, hd, rfl⟩
  cases c₀
  simp_all [bodyPostS, results, Tryz.results244]
theorem xT (FB AB : Nat) (b : Bool) (v : Value) (older : List PanicEntry) (w : World) (hF : Blk w FB 147 #[.bool b, v]) (hA : Blk w AB 4 #[.bool false]) :
  CallsD Tryz.prog 244 #[.pointer (some ⟨FB, 0, none⟩), .pointer (some ⟨AB, 0, none⟩)] (.panicking ({ v := .iface 273 (.agg #[.int .i64 0]), recovered := false } :: older)) w fun e u' w' =>
   e = .returned (.tuple #[]) ∧ u' = .panicking ({ v := .iface 273 (.agg #[.int .i64 0]), recovered := true } :: older) ∧ w' = (w.setCell ⟨AB, 0, none⟩ (.bool b)).alloc (.cells #[.int .i64 0] 273) := by
 have a0 : ∀ w, (Instr.typeAssert (.iface 273 (.agg #[.int .i64 0])) 20 273 true).run Tryz.prog w = .ok (.tuple #[.agg #[.int .i64 0], .bool true]) w := fun w => by kernel_rfl
 have q0 : ∀ w, (binOp .eql 20 (.iface 273 (.agg #[.int .i64 0])) .nilIface).run Tryz.prog w = .ok (.bool false) w := fun w => by kernel_rfl
 have c0 := hF.cell 0
 have l0 := hF.lt
 have c1 := hA.cell 0
 have f1 := hA.frozen 0
 have l1 := hA.lt
 clear hF hA
 refine callsD_of_wpS Tryz.func244 rfl fun c₀ cs hu => ?_
 apply wpS_seq
 apply wpS_region
 simp [wpOpsS, go_sem, recoverD, hu, Tryz.ntmps244, Exit.thenS]
 refine gY (Aa ((w.setCell ⟨AB, 0, none⟩ (.bool b)).alloc (.cells #[.int .i64 0] 273))) ?_ ?_
 ·clear hu
  simp only [Array.replicate_succ, Array.replicate_zero, List.push_toArray, List.setIfInBounds_toArray, List.set_cons_succ, List.set_cons_zero, List.append_toArray, List.cons_append, List.nil_append]
  go_wp2_with fail
  exact ⟨rfl, rfl, rfl⟩
 ·rintro e a' w' ⟨rfl, hd, rfl⟩
  cases c₀
  simp_all [bodyPostS, results, Tryz.results244]
theorem xU (FB AB n : Nat) (hn : n ≤ 1000) (older : List PanicEntry) (w : World) :
  CallsD Tryz.prog 244 #[.pointer (some ⟨FB, 0, none⟩), .pointer (some ⟨AB, 0, none⟩)] (.panicking ({ v := .iface 273 (.agg #[.int .i64 ((n + 1 : Nat) : Int)]), recovered := false } :: older)) w fun e u' w' =>
   e = .panicked [{ v := .iface 273 (.agg #[.int .i64 (n : Nat)]), recovered := false }] ∧ u' = .panicking ({ v := .iface 273 (.agg #[.int .i64 ((n + 1 : Nat) : Int)]), recovered := true } :: older) ∧ w' = w.alloc (.cells #[.int .i64 ((n + 1 : Nat) : Int)] 273) := by
 obtain ⟨m, hm⟩ : ∃ m : Int, m = ((n + 1 : Nat) : Int) := ⟨_, rfl⟩
 rw [← hm]
 have a0 : ∀ w, (Instr.typeAssert (.iface 273 (.agg #[.int .i64 m])) 20 273 true).run Tryz.prog w = .ok (.tuple #[.agg #[.int .i64 m], .bool true]) w := fun w => by kernel_rfl
 have q0 : ∀ w, (binOp .eql 20 (.iface 273 (.agg #[.int .i64 m])) .nilIface).run Tryz.prog w = .ok (.bool false) w := fun w => by kernel_rfl
 have g0 : decide (0 < m) = true := decide_eq_true (by omega)
 have s1 : IntKind.i64.wrap (m - 1) = (n : Int) := by rw [IntWalk.i64_in _ (by omega)]; omega
 clear hm
 refine callsD_of_wpS Tryz.func244 rfl fun c₀ cs hu => ?_
 apply wpS_seq
 apply wpS_region
 simp [wpOpsS, go_sem, recoverD, hu, Tryz.ntmps244, Exit.thenS]
 refine gY (FR [{ v := .iface 273 (.agg #[.int .i64 (n : Nat)]), recovered := false }] (w.alloc (.cells #[.int .i64 m] 273))) ?_ ?_
 ·clear hu
  simp only [Array.replicate_succ, Array.replicate_zero, List.push_toArray, List.setIfInBounds_toArray, List.set_cons_succ, List.set_cons_zero, List.append_toArray, List.cons_append, List.nil_append]
  go_wp2_with fail
  exact ⟨rfl, rfl, rfl⟩
 ·rintro e a' w' ⟨rfl, hd, rfl⟩
  cases c₀
  simp_all [bodyPostS]
theorem BX (FB AB k : Nat) (older : List PanicEntry) (w : World) :
  CallsD Tryz.prog 244 #[.pointer (some ⟨FB, 0, none⟩), .pointer (some ⟨AB, 0, none⟩)] (.panicking ({ v := .iface 237 (.agg #[.int .i64 (k : Nat)]), recovered := false } :: older)) w fun e u' w' =>
   e = .panicked [{ v := .iface 237 (.agg #[.int .i64 (k : Nat)]), recovered := false }] ∧ u' = .panicking ({ v := .iface 237 (.agg #[.int .i64 (k : Nat)]), recovered := true } :: older) ∧ w' = w := by
 obtain ⟨m, hm⟩ : ∃ m : Int, m = (k : Int) := ⟨_, rfl⟩
 rw [← hm]
 have a0 : ∀ w, (Instr.typeAssert (.iface 237 (.agg #[.int .i64 m])) 20 273 true).run Tryz.prog w = .ok (.tuple #[.agg #[.int .i64 0], .bool false]) w := fun w => by kernel_rfl
 have q0 : ∀ w, (binOp .eql 20 (.iface 237 (.agg #[.int .i64 m])) .nilIface).run Tryz.prog w = .ok (.bool false) w := fun w => by kernel_rfl
 clear hm
 refine callsD_of_wpS Tryz.func244 rfl fun c₀ cs hu => ?_
 apply wpS_seq
 apply wpS_region
 simp [wpOpsS, go_sem, recoverD, hu, Tryz.ntmps244, Exit.thenS]
 refine gY (FR [{ v := .iface 237 (.agg #[.int .i64 m]), recovered := false }] w) ?_ ?_
 ·clear hu
  simp only [Array.replicate_succ, Array.replicate_zero, List.push_toArray, List.setIfInBounds_toArray, List.set_cons_succ, List.set_cons_zero, List.append_toArray, List.cons_append, List.nil_append]
  go_wp2_with fail
  exact ⟨rfl, rfl, rfl⟩
 ·rintro e a' w' ⟨rfl, hd, rfl⟩
  cases c₀
  simp_all [bodyPostS]
end Go.Proofs.YtlkfakdghjaoaaaGreatDoor
namespace Go.Proofs.YtlkfakdghjaoaaaGreatDoor
open Go.RowKit Go.Sort
def Gx (R : Nat) (b : Bool) (w : World) (o : ROut) (e : Ending) (w' : World) : Prop := Only R w w' ∧ match o with
 | .next s => e = .returned (.bool false) ∧ Trn w' R s
 | .leave 0 s => e = .returned (.bool b) ∧ Trn w' R s
 | .leave (n + 1) s => FQ n e ∧ Trn w' R s
 | .fin k t m => wh k e ∧ ∃ s, Trn w' R s ∧ s.trace = t ∧ s.num = m
theorem Trn.only {w w' : World} {R S : Nat} {s : RSt} (h : Trn w R s) (ho : Only S w w') (hne : R ≠ S) : Trn w' R s := Blk.only h ho hne
theorem Trn.set {w : World} {R S : Nat} {s : RSt} (h : Trn w R s) (hne : R ≠ S) (i : Nat) (u : Value) : Trn (w.setCell ⟨S, i, none⟩ u) R s := Blk.other h hne i u
theorem Only.setNew {R S : Nat} {a w : World} (h : Only R a w) (hS : a.heap.size ≤ S) (i : Nat) (v : Value) : Only R a (w.setCell ⟨S, i, none⟩ v) :=
 ⟨h.os, h.tape, h.output, by simpa using h.size, fun k hk hlt => (Below.heap_setCell w ⟨S, i, none⟩ v k (by show k ≠ S; omega)).trans (h.block k hk hlt)⟩
theorem iL : ∀ {l : List PanicEntry}, (∀ p ∈ l, p.goexit = false) → l.dropWhile (!·.goexit) = []
 | [], _ => rfl
 | a :: l, h => by
  have ha : a.goexit = false := h a (by simp)
  simp only [List.dropWhile_cons, ha, Bool.not_false, if_true]
  exact iL fun p hp => h p (by simp [hp])
theorem wj (R : Nat) (b : Bool) (l : List It) (v : Value) (f : Nat) (s : RSt) (w : World) (hf : f < 9) (hl : az l (f + 1)) (hT : Trn w R s)
  (H : ∀ W, Only R w W → Trn W R s → Calls Tryz.prog 168 #[.pointer (some ⟨R, 0, none⟩), v] W fun e w' => ∃ o, Runs (.l l) s o ∧ uG R W o e w') :
  Calls Tryz.prog 222 #[.pointer (some ⟨R, 0, none⟩), .agg #[.bool b, v]] w fun e w' => ∃ o, Runs (.l l) s o ∧ Gx R b w o e w' := by
 have hmf : ∀ (fn : Fn) (first cap : Array Value) (w : World), (Instr.makeFunc fn first cap).run Tryz.prog w = .ok (.func fn first cap) w := fun _ _ _ _ => rfl
 obtain ⟨W, hW⟩ : ∃ W, W = (w.alloc (.cells #[.bool b, v] 147)).alloc (.cells #[.bool false] 4) := ⟨_, rfl⟩
 have hR := Blk.lt hT
 have hoW : Only R w W := by rw [hW]; exact ((Only.refl R w).alloc _).alloc _
 have hsW : W.heap.size = w.heap.size + 2 := by rw [hW]; simp
 have hFB : Blk W w.heap.size 147 #[.bool b, v] := by rw [hW]; exact (Blk.new w _ _).alloc _
 have hAB : Blk W (w.heap.size + 1) 4 #[.bool false] := by
  have := Blk.new (w.alloc (.cells #[.bool b, v] 147)) 4 #[.bool false]
  rw [World.size_alloc] at this
  rw [hW]; exact this
 have hTW : Trn W R s := by rw [hW]; exact (Blk.alloc hT _).alloc _
 have HD := GR (H W hoW hTW)
 have HW := GR hW
 have HOW := GR hoW
 have HFB := GR hFB
 have HAB := GR hAB
 have c9 : W.cell? ⟨w.heap.size, 1, none⟩ = some v := hFB.cell 1
 clear hW hoW hFB hAB hTW H hT
 go_enter_defers Tryz.func222, Tryz.ntmps222
 go_wp2_with fail
 rw [← HW.out]
 refine HD.out.mono ?_
 rintro e w2 ⟨o, hr, ho, hp⟩
 have hn2 : w.heap.size + 2 ≤ w2.heap.size := by have := ho.size; omega
 have k0 := HFB.out.only ho (by omega)
 have k1 := HAB.out.only ho (by omega)
 have hoW2 : Only R w w2 := HOW.out.trans ho
 have HO := GR hoW2
 have HR := GR hr
 have hset : ∀ (i : Nat) (u : Value), Only R w (w2.setCell ⟨w.heap.size + 1, i, none⟩ u) := fun i u => hoW2.setNew (by omega) i u
 match o, hp, hr with
 | .next s', hp, hr =>
  obtain ⟨rfl, hT⟩ := hp
  have k11 := k1.set_ 0 (.bool false)
  have c1 : (w2.setCell ⟨w.heap.size + 1, 0, none⟩ (.bool false)).cell? ⟨w.heap.size + 1, 0, none⟩ = some (.bool false) := k11.cell 0
  have c0 : w2.cell? ⟨w.heap.size + 1, 0, none⟩ = some (.bool false) := k1.cell 0
  have f1 := k1.frozen 0
  have HT := GR (hT.set (S := w.heap.size + 1) (by omega) 0 (.bool false))
  have HS := GR (hset 0 (.bool false))
  clear hr ho k0 k1 k11 hset hoW2 hT hp
  go_wp2_with fail
  refine leaves_cons (f := 244) (args := #[.pointer (some ⟨w.heap.size, 0, none⟩), .pointer (some ⟨w.heap.size + 1, 0, none⟩)]) (by simp) (by simp [go_sem]) ?_
  refine (Ab w.heap.size (w.heap.size + 1) _).mono ?_
  rintro e u' w'' ⟨rfl, rfl, rfl⟩
  simp [Leaves, settle, results, Tryz.results222, go_sem, c1]
  exact ⟨_, HR.out, HS.out, rfl, HT.out⟩
 | .leave 0 s', hp, hr =>
  obtain ⟨⟨older, hgo, rfl⟩, hT⟩ := hp
  have k11 := k1.set_ 0 (.bool b)
  have c1 : ((w2.setCell ⟨w.heap.size + 1, 0, none⟩ (.bool b)).alloc (.cells #[.int .i64 0] 273)).cell? ⟨w.heap.size + 1, 0, none⟩ = some (.bool b) := (k11.alloc _).cell 0
  have HT := GR (Blk.alloc (hT.set (S := w.heap.size + 1) (by omega) 0 (.bool b)) (.cells #[.int .i64 0] 273))
  have HS := GR ((hset 0 (.bool b)).alloc (.cells #[.int .i64 0] 273))
  have HK0 := GR k0
  have HK1 := GR k1
  clear hr ho k0 k1 k11 hset hoW2 hT
  refine leaves_cons (f := 244) (args := #[.pointer (some ⟨w.heap.size, 0, none⟩), .pointer (some ⟨w.heap.size + 1, 0, none⟩)]) (by simp) (by simp [go_sem]) ?_
  refine (xT w.heap.size (w.heap.size + 1) b v older _ HK0.out HK1.out).mono ?_
  rintro e u' w'' ⟨rfl, rfl, rfl⟩
  have hdrop : older.dropWhile (!·.goexit) = [] := iL hgo
  simp [Leaves, settle, hdrop, results, Tryz.results222, go_sem, c1]
  exact ⟨_, HR.out, HS.out, rfl, HT.out⟩
 | .leave (n + 1) s', hp, hr =>
  obtain ⟨⟨older, hgo, rfl⟩, hT⟩ := hp
  have hn : n ≤ 1000 := by have := Runs.leave_lt (t := .l l) (f := f + 1) hr hl; omega
  have HT := GR (Blk.alloc hT (.cells #[.int .i64 ((n + 1 : Nat) : Int)] 273))
  have HS := GR (hoW2.alloc (.cells #[.int .i64 ((n + 1 : Nat) : Int)] 273))
  clear hr ho k0 k1 hset hoW2 hT
  refine leaves_cons (f := 244) (args := #[.pointer (some ⟨w.heap.size, 0, none⟩), .pointer (some ⟨w.heap.size + 1, 0, none⟩)]) (by simp) (by simp [go_sem]) ?_
  refine (xU w.heap.size (w.heap.size + 1) n hn older _).mono ?_
  rintro e u' w'' ⟨rfl, rfl, rfl⟩
  simp only [Leaves, raised, List.cons_append, List.nil_append]
  refine ⟨_, HR.out, HS.out, ⟨_, ?_, rfl⟩, HT.out⟩
  intro p hp
  rcases List.mem_cons.1 hp with rfl | hp
  ·rfl
  ·exact hgo p hp
 | .fin k t m, hp, hr =>
  obtain ⟨⟨older, hgo, rfl⟩, hT⟩ := hp
  have HT := GR hT
  clear hr ho k0 k1 hset hoW2 hT
  refine leaves_cons (f := 244) (args := #[.pointer (some ⟨w.heap.size, 0, none⟩), .pointer (some ⟨w.heap.size + 1, 0, none⟩)]) (by simp) (by simp [go_sem]) ?_
  refine (BX w.heap.size (w.heap.size + 1) k older _).mono ?_
  rintro e u' w'' ⟨rfl, rfl, rfl⟩
  simp only [Leaves, raised, List.cons_append, List.nil_append]
  refine ⟨_, HR.out, HO.out, ⟨_, ?_, rfl⟩, HT.out⟩
  intro p hp
  rcases List.mem_cons.1 hp with rfl | hp
  ·rfl
  ·exact hgo p hp
end Go.Proofs.YtlkfakdghjaoaaaGreatDoor

set_option maxRecDepth 100000
namespace Go.Proofs.YtlkfakdghjaoaaaGreatDoor
open Go.RowKit Go.Sort
theorem sr (l : List It) (k : Nat) : da [l] k = bI l k := by rw [da, da, List.append_nil]
theorem su (i : It) (k : Nat) : dr i k = (k, i) :: da (aM i) (if nf i then k + 1 else k) := by
 cases i with
 | ask c l r => rw [dr]; show _ = _ :: da [l, r] k; rw [da, da, da, List.append_nil]
 | frame b l => rw [dr]; show _ = _ :: da [l] (k + 1); rw [sr]
 | pick bs => rw [dr]; rfl
 | _ => rw [dr]; show _ = _ :: da [] k; rw [da]
theorem gy : ∀ (a b : List It) (k : Nat), bI (a ++ b) k = bI a k ++ bI b k
 | [], b, k => by rw [bI]; rfl
 | i :: a, b, k => by rw [List.cons_append, bI, bI, gy a b k, List.append_assoc]
theorem iw : ∀ (a b : List (List It)) (k : Nat), da (a ++ b) k = da a k ++ da b k
 | [], b, k => by rw [da]; rfl
 | i :: a, b, k => by rw [List.cons_append, da, da, iw a b k, List.append_assoc]
theorem Fp {i : It} {k : Nat} (h : aC i k) : ∀ b ∈ aM i, az b (if nf i then k + 1 else k) := by
 cases i with
 | ask c l r =>
  rw [aC] at h
  intro b hb
  show az b k
  simp [aM] at hb
  rcases hb with rfl | rfl
  ·exact h.2.1
  ·exact h.2.2
 | frame g l =>
  rw [aC] at h
  intro b hb
  show az b (k + 1)
  simp [aM] at hb
  rw [hb]; exact h.2
 | pick bs =>
  rw [aC] at h
  have : ∀ (bs : List (List It)), dx bs k → ∀ b ∈ bs, az b k := by
   intro bs
   induction bs with
   | nil => intro _ b hb; cases hb
   | cons a bs ih =>
    intro ho b hb
    rw [dx] at ho
    rcases List.mem_cons.1 hb with rfl | hb
    ·exact ho.1
    ·exact ih ho.2 b hb
  exact this bs h.2.2
 | _ => intro b hb; cases hb
theorem sw {l : List It} {k : Nat} (h : az l k) : ∀ i ∈ l, aC i k := by
 induction l with
 | nil => intro i hi; cases hi
 | cons a l ih =>
  intro i hi
  rw [az] at h
  rcases List.mem_cons.1 hi with rfl | hi
  ·exact h.1
  ·exact ih h.2 i hi
theorem CH {i : It} {k : Nat} (h : aC i k) (hf : nf i = true) : k < 9 := by
 cases i with
 | frame b l => rw [aC] at h; exact h.1
 | _ => cases hf
theorem Fq (i : It) : 0 < (aK i).length := by obtain ⟨t, e⟩ := jh i; rw [e]; simp
theorem jK : ∀ (l : List It), l.length ≤ (aH l).length
 | [] => by simp
 | i :: l => by rw [aH, List.length_append, List.length_cons]; have := jK l; have := Fq i; omega
theorem jT : ∀ {l : List It} {i : It}, i ∈ l → (aK i).length ≤ (aH l).length
 | a :: l, i, h => by
  rw [aH, List.length_append]
  rcases List.mem_cons.1 h with rfl | h
  ·omega
  ·have := jT h; omega
theorem yX : ∀ {bs : List (List It)} {b : List It}, b ∈ bs → (aH b).length < (bV bs).length
 | a :: bs, b, h => by
  rw [bV]
  simp only [List.length_cons, List.length_append]
  rcases List.mem_cons.1 h with rfl | h
  ·omega
  ·have := yX h; omega
theorem rJ : ∀ (bs : List (List It)), bs.length ≤ (bV bs).length
 | [] => by simp
 | b :: bs => by rw [bV]; simp only [List.length_cons, List.length_append]; have := rJ bs; omega
theorem lz {i : It} {b : List It} (h : b ∈ aM i) : (aH b).length < (aK i).length := by
 cases i with
 | ask c l r =>
  rw [aK]
  simp [aM] at h
  simp only [List.length_cons, List.length_append]
  rcases h with rfl | rfl <;> omega
 | frame g l => rw [aK]; simp [aM] at h; subst h; simp; omega
 | pick bs => rw [aK]; have := yX (show b ∈ bs from h); simp only [List.length_cons]; omega
 | _ => cases h
theorem rK (i : It) : (aM i).length ≤ (aK i).length := by
 cases i with
 | ask c l r => rw [aK]; simp [aM]
 | frame g l => rw [aK]; simp [aM]
 | pick bs => rw [aK]; have := rJ bs; show bs.length ≤ _; simp only [List.length_cons]; omega
 | _ => simp [aM]
theorem AllAt.at_ {w : World} {P : Nat → Prop} : ∀ {l : List It} {vs : List Value} (_ : AllAt w P l vs) (k : Nat) (hk : k < l.length), ∃ v, vs[k]? = some v ∧ ItemAt w P l[k] v
 | i :: l, vs, h, 0, _ => by
  rw [AllAt] at h
  obtain ⟨v, t, rfl, h1, _⟩ := h
  exact ⟨v, rfl, h1⟩
 | i :: l, vs, h, k + 1, hk => by
  rw [AllAt] at h
  obtain ⟨v, t, rfl, _, h2⟩ := h
  obtain ⟨u, h3, h4⟩ := AllAt.at_ h2 k (by simpa using hk)
  exact ⟨u, by simpa using h3, h4⟩
theorem AllRows.at_ {w : World} {P : Nat → Prop} : ∀ {l : List (List It)} {vs : List Value} (_ : AllRows w P l vs) (k : Nat) (hk : k < l.length), ∃ v, vs[k]? = some v ∧ RowAt w P l[k] v
 | b :: l, vs, h, 0, _ => by
  rw [AllRows] at h
  obtain ⟨v, t, xs, rfl, h1, h2, _⟩ := h
  exact ⟨v, rfl, xs, h1, h2⟩
 | b :: l, vs, h, k + 1, hk => by
  rw [AllRows] at h
  obtain ⟨v, t, xs, rfl, _, _, h3⟩ := h
  obtain ⟨u, h4, h5⟩ := AllRows.at_ h3 k (by simpa using hk)
  exact ⟨u, by simpa using h4, h5⟩
def Av (P : Nat → Prop) (w W : World) : Prop := w.heap.size ≤ W.heap.size ∧ ∀ b, b < w.heap.size → P b → W.heap[b]? = w.heap[b]?
def Aw (w : World) (P : Nat → Prop) (i : It) (W : World) (e : Ending) (w' : World) : Prop :=
 ∃ A k vs, e = .returned (.slice A vs.length k) ∧ Reads w' (fun b => P b ∨ W.heap.size ≤ b) (.slice A vs.length k) vs ∧ AllRows w P (aM i) vs ∧ Below W.heap.size W w'
structure ItDisp (T : TypeId) (x : Value) (F : FuncId) (b0 : Bool) (bA : Option Addr) (bn bk : Nat) (i : It) (v : Value) : Prop where
 val : v = .iface T x
 look : ∀ w, (method 441 T x "loop.example/structuredjumps/impl.within").run Tryz.prog w = .ok (F, x) w
 enter : ∀ args w, (callFunc F args).run Tryz.prog w = .ok (.enter F args) w
 asrt : ∀ w, (Instr.typeAssert (.iface T x) 76 147 true).run Tryz.prog w = .ok (.tuple #[.agg #[.bool b0, .slice bA bn bk], .bool (nf i)]) w
 goes : ∀ w P W, ItemAt w P i v → Av P w W → Calls Tryz.prog F #[x] W (Aw w P i W)
theorem jL (w : World) (Q : Nat → Prop) : Reads w Q (.slice none ([] : List Value).length 0) [] := ⟨none, 0, rfl, fun h => absurd h (by simp)⟩
theorem CI {w W w' : World} {P : Nat → Prop} (h : Av P w W) (hb : Below W.heap.size W w') : Stay w P w' (fun b => P b ∨ W.heap.size ≤ b) :=
 ⟨Nat.le_trans h.1 hb.size, fun b hl hp => ⟨.inl hp, (hb.block b (by have := h.1; omega)).trans (h.2 b hl hp)⟩⟩
theorem D9 (c : UInt8) : ItDisp 152 (.agg #[.string (tb [c])]) 288 false none 0 0 (.blk c) (.iface 152 (.agg #[.string (tb [c])])) where
 val := rfl
 look := fun w => by kernel_rfl
 enter := enters_of Tryz.func288 (by kernel_rfl) rfl
 asrt := fun w => by kernel_rfl
 goes := fun w P W h hP => by
  go_enter Tryz.func288, Tryz.ntmps288
  go_wp2_with fail
  go_ret
  exact ⟨none, 0, [], rfl, jL _ _, AllRows.nil _ _, (Below.refl _ W).alloc (Nat.le_refl _) _⟩
theorem CJ : ItDisp 248 (.agg #[]) 296 false none 0 0 .stop (.iface 248 (.agg #[])) where
 val := rfl
 look := fun w => by kernel_rfl
 enter := enters_of Tryz.func296 (by kernel_rfl) rfl
 asrt := fun w => by kernel_rfl
 goes := fun w P W h hP => by
  go_enter Tryz.func296, Tryz.ntmps296
  go_wp2_with fail
  go_ret
  exact ⟨none, 0, [], rfl, jL _ _, AllRows.nil _ _, (Below.refl _ W).alloc (Nat.le_refl _) _⟩
theorem Ax (n : Nat) : ItDisp 218 (.agg #[.int .i64 n]) 292 false none 0 0 (.leave n) (.iface 218 (.agg #[.int .i64 n])) where
 val := rfl
 look := fun w => by kernel_rfl
 enter := enters_of Tryz.func292 (by kernel_rfl) rfl
 asrt := fun w => by kernel_rfl
 goes := fun w P W h hP => by
  go_enter Tryz.func292, Tryz.ntmps292
  go_wp2_with fail
  go_ret
  exact ⟨none, 0, [], rfl, jL _ _, AllRows.nil _ _, (Below.refl _ W).alloc (Nat.le_refl _) _⟩
theorem Ea (n : Nat) : ItDisp 220 (.agg #[.int .i64 n]) 293 false none 0 0 (.set n) (.iface 220 (.agg #[.int .i64 n])) where
 val := rfl
 look := fun w => by kernel_rfl
 enter := enters_of Tryz.func293 (by kernel_rfl) rfl
 asrt := fun w => by kernel_rfl
 goes := fun w P W h hP => by
  go_enter Tryz.func293, Tryz.ntmps293
  go_wp2_with fail
  go_ret
  exact ⟨none, 0, [], rfl, jL _ _, AllRows.nil _ _, (Below.refl _ W).alloc (Nat.le_refl _) _⟩
theorem CK (bs : List (List It)) (A : Option Addr) (n k : Nat) : ItDisp 222 (.agg #[.slice A n k]) 294 false none 0 0 (.pick bs) (.iface 222 (.agg #[.slice A n k])) where
 val := rfl
 look := fun w => by kernel_rfl
 enter := enters_of Tryz.func294 (by kernel_rfl) rfl
 asrt := fun w => by kernel_rfl
 goes := fun w P W h hP => by
  rw [ItemAt] at h
  obtain ⟨vb, xs, e, h1, h2⟩ := h
  have e2 : vb = .slice A n k := by
   injection e with _ e; injection e with e; injection e with e; injection e with e _; exact e.symm
  subst e2
  obtain ⟨A5, k5, e5, h5⟩ := id h1
  injection e5 with e5 e6 e7
  subst e6
  have HR := GR h1
  have HR2 : Hid (AllRows w P bs xs) := h2
  clear h1 h2 e e5 e7 h5
  go_enter Tryz.func294, Tryz.ntmps294
  go_wp2_with fail
  go_ret
  have hb := (Below.refl W.heap.size W).alloc (Nat.le_refl _) (.cells #[.slice A xs.length k] 222)
  exact ⟨_, _, xs, rfl, HR.out.stay (CI hP hb), HR2.out, hb⟩
theorem Ay (b : Bool) (l : List It) (A : Option Addr) (n k : Nat) : ItDisp 147 (.agg #[.bool b, .slice A n k]) 287 b A n k (.frame b l) (.iface 147 (.agg #[.bool b, .slice A n k])) where
 val := rfl
 look := fun w => by kernel_rfl
 enter := enters_of Tryz.func287 (by kernel_rfl) rfl
 asrt := fun w => by kernel_rfl
 goes := fun w P W h hP => by
  rw [ItemAt] at h
  obtain ⟨vl, xs, e, h1, h2⟩ := h
  have e2 : vl = .slice A n k := by
   injection e with _ e; injection e with e; injection e with e; injection e with _ e; injection e with e _; exact e.symm
  subst e2
  have HR : Hid (RowAt w P l (.slice A n k)) := ⟨xs, h1, h2⟩
  clear h1 h2 e
  go_enter Tryz.func287, Tryz.ntmps287
  go_wp2_with fail
  go_ret
  have hb := ((Below.refl W.heap.size W).alloc (Nat.le_refl _) (.cells #[.bool b, .slice A n k] 147)).alloc (by simp) (.cells #[.slice A n k] 69)
  refine ⟨_, _, [.slice A n k], rfl, ⟨_, _, rfl, fun _ => ⟨W.heap.size + 1, 0, rfl, by simp, .inr (by omega), fun j hj => ?_⟩⟩, AllRows.snoc (l := []) (vs := []) HR.out (AllRows.nil _ _), hb⟩
  have hj0 : j = 0 := by simpa using hj
  subst hj0
  have h9 := Blk.new (W.alloc (.cells #[.bool b, .slice A n k] 147)) 69 #[.slice A n k]
  rw [World.size_alloc] at h9
  exact h9.cell 0
theorem Eb (c : UInt8) (l r : List It) (A A' : Option Addr) (n k n' k' : Nat) : ItDisp 154 (.agg #[.string (tb [c]), .slice A n k, .slice A' n' k']) 289 false none 0 0 (.ask c l r) (.iface 154 (.agg #[.string (tb [c]), .slice A n k, .slice A' n' k'])) where
 val := rfl
 look := fun w => by kernel_rfl
 enter := enters_of Tryz.func289 (by kernel_rfl) rfl
 asrt := fun w => by kernel_rfl
 goes := fun w P W h hP => by
  rw [ItemAt] at h
  obtain ⟨vl, vr, xs, ys, e, h1, h2, h3, h4⟩ := h
  have e2 : vl = .slice A n k ∧ vr = .slice A' n' k' := by
   injection e with _ e; injection e with e; injection e with e; injection e with _ e; injection e with e1 e; injection e with e3 _; exact ⟨e1.symm, e3.symm⟩
  obtain ⟨rfl, rfl⟩ := e2
  have HR : Hid (RowAt w P l (.slice A n k)) := ⟨xs, h1, h2⟩
  have HR2 : Hid (RowAt w P r (.slice A' n' k')) := ⟨ys, h3, h4⟩
  clear h1 h2 h3 h4 e
  go_enter Tryz.func289, Tryz.ntmps289
  go_wp2_with fail
  go_ret
  have hb := ((Below.refl W.heap.size W).alloc (Nat.le_refl _) (.cells #[.string (tb [c]), .slice A n k, .slice A' n' k'] 154)).alloc (by simp) (.cells #[.slice A n k, .slice A' n' k'] 69)
  refine ⟨_, _, [.slice A n k, .slice A' n' k'], rfl, ⟨_, _, rfl, fun _ => ⟨W.heap.size + 1, 0, rfl, by simp, .inr (by omega), fun j hj => ?_⟩⟩, AllRows.snoc (l := [l]) (vs := [.slice A n k]) HR2.out (AllRows.snoc (l := []) (vs := []) HR.out (AllRows.nil _ _)), hb⟩
  have h9 := Blk.new (W.alloc (.cells #[.string (tb [c]), .slice A n k, .slice A' n' k'] 154)) 69 #[.slice A n k, .slice A' n' k']
  rw [World.size_alloc] at h9
  have hj0 : j = 0 ∨ j = 1 := by have : j < 2 := hj; omega
  rcases hj0 with rfl | rfl
  ·exact h9.cell 0
  ·exact h9.cell 1
theorem CL {w : World} {P : Nat → Prop} {i : It} {v : Value} (h : ItemAt w P i v) : ∃ T x F b0 bA bn bk, ItDisp T x F b0 bA bn bk i v := by
 cases i with
 | blk c => rw [ItemAt] at h; subst h; exact ⟨_, _, _, _, _, _, _, D9 c⟩
 | stop => rw [ItemAt] at h; subst h; exact ⟨_, _, _, _, _, _, _, CJ⟩
 | leave n => rw [ItemAt] at h; subst h; exact ⟨_, _, _, _, _, _, _, Ax n⟩
 | set n => rw [ItemAt] at h; subst h; exact ⟨_, _, _, _, _, _, _, Ea n⟩
 | pick bs => rw [ItemAt] at h; obtain ⟨vb, xs, rfl, ⟨A, k, rfl, _⟩, _⟩ := h; exact ⟨_, _, _, _, _, _, _, CK bs _ _ _⟩
 | frame b l => rw [ItemAt] at h; obtain ⟨vb, xs, rfl, ⟨A, k, rfl, _⟩, _⟩ := h; exact ⟨_, _, _, _, _, _, _, Ay b l _ _ _⟩
 | ask c l r => rw [ItemAt] at h; obtain ⟨vl, vr, xs, ys, rfl, ⟨A, k, rfl, _⟩, _, ⟨A', k', rfl, _⟩, _⟩ := h; exact ⟨_, _, _, _, _, _, _, Eb c l r _ _ _ _ _ _⟩
end Go.Proofs.YtlkfakdghjaoaaaGreatDoor
