/-
  The program's frame, given what all items within it do: it is left, left further out, begun anew, or the run ends.
-/
import Derived.Test.YtgkamcnbpiipoaaGreatRunner
import Derived.Test.YtgkamcnbpiipoaaGreatItemsOf
namespace Go.Proofs.YtgkamcnbpiipoaaGreat
open Go.RowKit Go.Sort

/-- What a frame hands back, by what its items do. -/
def FPost (R : Nat) (b : Bool) (w : World) (o : ROut) (e : Ending) (w' : World) : Prop := Only R w w' ∧ match o with
  | .next s => e = .returned (.bool false) ∧ Trn w' R s
  | .leave 0 s => e = .returned (.bool b) ∧ Trn w' R s
  | .leave (n + 1) s => PanL n e ∧ Trn w' R s
  | .fin k t m => PanF k e ∧ ∃ s, Trn w' R s ∧ s.trace = t ∧ s.num = m

theorem Trn.only {w w' : World} {R S : Nat} {s : RSt} (h : Trn w R s) (ho : Only S w w') (hne : R ≠ S) : Trn w' R s := Blk.only h ho hne
theorem Trn.set {w : World} {R S : Nat} {s : RSt} (h : Trn w R s) (hne : R ≠ S) (i : Nat) (u : Value) : Trn (w.setCell ⟨S, i, none⟩ u) R s := Blk.other h hne i u
theorem Only.setNew {R S : Nat} {a w : World} (h : Only R a w) (hS : a.heap.size ≤ S) (i : Nat) (v : Value) : Only R a (w.setCell ⟨S, i, none⟩ v) :=
  ⟨h.os, h.tape, h.output, by simpa using h.size, fun k hk hlt => (Below.heap_setCell w ⟨S, i, none⟩ v k (by show k ≠ S; omega)).trans (h.block k hk hlt)⟩

theorem dropWhile_none : ∀ {l : List PanicEntry}, (∀ p ∈ l, p.goexit = false) → l.dropWhile (!·.goexit) = []
  | [], _ => rfl
  | a :: l, h => by
    have ha : a.goexit = false := h a (by simp)
    simp only [List.dropWhile_cons, ha, Bool.not_false, if_true]
    exact dropWhile_none fun p hp => h p (by simp [hp])

set_option maxRecDepth 100000 in
set_option maxHeartbeats 1600000 in
theorem runFrame_any (R : Nat) (b : Bool) (l : List It) (v : Value) (f : Nat) (s : RSt) (w : World) (hf : f < 9) (hl : OkL l (f + 1)) (hT : Trn w R s)
    (H : ∀ W, Only R w W → Trn W R s → Calls Tryz.prog 65 #[.pointer (some ⟨R, 0, none⟩), v] W fun e w' => ∃ o, Runs (.l l) s o ∧ RPost R W o e w') :
    Calls Tryz.prog 99 #[.pointer (some ⟨R, 0, none⟩), .agg #[.bool b, v]] w fun e w' => ∃ o, Runs (.l l) s o ∧ FPost R b w o e w' := by
  have hmf : ∀ (fn : Fn) (first cap : Array Value) (w : World), (Instr.makeFunc fn first cap).run Tryz.prog w = .ok (.func fn first cap) w := fun _ _ _ _ => rfl
  obtain ⟨W, hW⟩ : ∃ W, W = (w.alloc (.cells #[.bool b, v] 143)).alloc (.cells #[.bool false] 4) := ⟨_, rfl⟩
  have hR := Blk.lt hT
  have hoW : Only R w W := by rw [hW]; exact ((Only.refl R w).alloc _).alloc _
  have hsW : W.heap.size = w.heap.size + 2 := by rw [hW]; simp
  have hFB : Blk W w.heap.size 143 #[.bool b, v] := by rw [hW]; exact (Blk.new w _ _).alloc _
  have hAB : Blk W (w.heap.size + 1) 4 #[.bool false] := by
    have := Blk.new (w.alloc (.cells #[.bool b, v] 143)) 4 #[.bool false]
    rw [World.size_alloc] at this
    rw [hW]; exact this
  have hTW : Trn W R s := by rw [hW]; exact (Blk.alloc hT _).alloc _
  have HD := Lib.hid (H W hoW hTW)
  have HW := Lib.hid hW
  have HOW := Lib.hid hoW
  have HFB := Lib.hid hFB
  have HAB := Lib.hid hAB
  have c9 : W.cell? ⟨w.heap.size, 1, none⟩ = some v := hFB.cell 1
  clear hW hoW hFB hAB hTW H hT
  go_enter_defers Tryz.func99, Tryz.ntmps99
  go_wp2_with fail
  rw [← HW.out]
  refine HD.out.mono ?_
  rintro e w2 ⟨o, hr, ho, hp⟩
  have hn2 : w.heap.size + 2 ≤ w2.heap.size := by have := ho.size; omega
  have k0 := HFB.out.only ho (by omega)
  have k1 := HAB.out.only ho (by omega)
  have hoW2 : Only R w w2 := HOW.out.trans ho
  have HO := Lib.hid hoW2
  have HR := Lib.hid hr
  have hset : ∀ (i : Nat) (u : Value), Only R w (w2.setCell ⟨w.heap.size + 1, i, none⟩ u) := fun i u => hoW2.setNew (by omega) i u
  match o, hp, hr with
  | .next s', hp, hr =>
    obtain ⟨rfl, hT⟩ := hp
    have k11 := k1.set_ 0 (.bool false)
    have c1 : (w2.setCell ⟨w.heap.size + 1, 0, none⟩ (.bool false)).cell? ⟨w.heap.size + 1, 0, none⟩ = some (.bool false) := k11.cell 0
    have c0 : w2.cell? ⟨w.heap.size + 1, 0, none⟩ = some (.bool false) := k1.cell 0
    have f1 := k1.frozen 0
    have HT := Lib.hid (hT.set (S := w.heap.size + 1) (by omega) 0 (.bool false))
    have HS := Lib.hid (hset 0 (.bool false))
    clear hr ho k0 k1 k11 hset hoW2 hT hp
    go_wp2_with fail
    refine leaves_cons (f := 109) (args := #[.pointer (some ⟨w.heap.size, 0, none⟩), .pointer (some ⟨w.heap.size + 1, 0, none⟩)]) (by simp) (by simp [go_sem]) ?_
    refine (leave_idle w.heap.size (w.heap.size + 1) _).mono ?_
    rintro e u' w'' ⟨rfl, rfl, rfl⟩
    simp [Leaves, settle, results, Tryz.results99, go_sem, c1]
    exact ⟨_, HR.out, HS.out, rfl, HT.out⟩
  | .leave 0 s', hp, hr =>
    obtain ⟨⟨older, hgo, rfl⟩, hT⟩ := hp
    have k11 := k1.set_ 0 (.bool b)
    have c1 : ((w2.setCell ⟨w.heap.size + 1, 0, none⟩ (.bool b)).alloc (.cells #[.int .i64 0] 166)).cell? ⟨w.heap.size + 1, 0, none⟩ = some (.bool b) := (k11.alloc _).cell 0
    have HT := Lib.hid (Blk.alloc (hT.set (S := w.heap.size + 1) (by omega) 0 (.bool b)) (.cells #[.int .i64 0] 166))
    have HS := Lib.hid ((hset 0 (.bool b)).alloc (.cells #[.int .i64 0] 166))
    have HK0 := Lib.hid k0
    have HK1 := Lib.hid k1
    clear hr ho k0 k1 k11 hset hoW2 hT
    refine leaves_cons (f := 109) (args := #[.pointer (some ⟨w.heap.size, 0, none⟩), .pointer (some ⟨w.heap.size + 1, 0, none⟩)]) (by simp) (by simp [go_sem]) ?_
    refine (leave_again w.heap.size (w.heap.size + 1) b v older _ HK0.out HK1.out).mono ?_
    rintro e u' w'' ⟨rfl, rfl, rfl⟩
    have hdrop : older.dropWhile (!·.goexit) = [] := dropWhile_none hgo
    simp [Leaves, settle, hdrop, results, Tryz.results99, go_sem, c1]
    exact ⟨_, HR.out, HS.out, rfl, HT.out⟩
  | .leave (n + 1) s', hp, hr =>
    obtain ⟨⟨older, hgo, rfl⟩, hT⟩ := hp
    have hn : n ≤ 1000 := by have := Runs.leave_lt (t := .l l) (f := f + 1) hr hl; omega
    have HT := Lib.hid (Blk.alloc hT (.cells #[.int .i64 ((n + 1 : Nat) : Int)] 166))
    have HS := Lib.hid (hoW2.alloc (.cells #[.int .i64 ((n + 1 : Nat) : Int)] 166))
    clear hr ho k0 k1 hset hoW2 hT
    refine leaves_cons (f := 109) (args := #[.pointer (some ⟨w.heap.size, 0, none⟩), .pointer (some ⟨w.heap.size + 1, 0, none⟩)]) (by simp) (by simp [go_sem]) ?_
    refine (leave_outer w.heap.size (w.heap.size + 1) n hn older _).mono ?_
    rintro e u' w'' ⟨rfl, rfl, rfl⟩
    simp only [Leaves, raised, List.cons_append, List.nil_append]
    refine ⟨_, HR.out, HS.out, ⟨_, ?_, rfl⟩, HT.out⟩
    intro p hp
    rcases List.mem_cons.1 hp with rfl | hp
    · rfl
    · exact hgo p hp
  | .fin k t m, hp, hr =>
    obtain ⟨⟨older, hgo, rfl⟩, hT⟩ := hp
    have HT := Lib.hid hT
    clear hr ho k0 k1 hset hoW2 hT
    refine leaves_cons (f := 109) (args := #[.pointer (some ⟨w.heap.size, 0, none⟩), .pointer (some ⟨w.heap.size + 1, 0, none⟩)]) (by simp) (by simp [go_sem]) ?_
    refine (leave_fin w.heap.size (w.heap.size + 1) k older _).mono ?_
    rintro e u' w'' ⟨rfl, rfl, rfl⟩
    simp only [Leaves, raised, List.cons_append, List.nil_append]
    refine ⟨_, HR.out, HO.out, ⟨_, ?_, rfl⟩, HT.out⟩
    intro p hp
    rcases List.mem_cons.1 hp with rfl | hp
    · rfl
    · exact hgo p hp
end Go.Proofs.YtgkamcnbpiipoaaGreat
