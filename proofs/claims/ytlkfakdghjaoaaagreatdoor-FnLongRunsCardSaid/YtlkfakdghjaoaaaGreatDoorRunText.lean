import Derived.Test.YtlkfakdghjaoaaaGreatDoorJ7
import Derived.Test.YtlkfakdghjaoaaaGreatDoorJ3
set_option maxRecDepth 100000
set_option maxHeartbeats 1600000
namespace Go.Proofs.YtlkfakdghjaoaaaGreatDoor
open Go.RowKit Go.Sort
attribute [local go_sem] Oper.semAt_some
theorem Ac (AB : Nat) (w : World) :
  CallsD Tryz.prog 167 #[.pointer (some ⟨AB, 0, none⟩)] .returning w fun e u' w' => e = .returned (.tuple #[]) ∧ u' = .returning ∧ w' = w.alloc (.cells #[.int .i64 0] 237) := by
 have a0 : ∀ w, (Instr.typeAssert .nilIface 20 237 true).run Tryz.prog w = .ok (.tuple #[.agg #[.int .i64 0], .bool false]) w := fun w => by kernel_rfl
 refine callsD_of_wpS Tryz.func167 rfl fun c₀ cs hu => ?_
 apply wpS_seq
 apply wpS_region
 simp [wpOpsS, go_sem, recoverD, hu, a0, Tryz.ntmps167, Exit.thenS]
 refine gY (Aa (w.alloc (.cells #[.int .i64 0] 237))) ?_ ?_
 ·clear hu
  simp only [Array.replicate_succ, Array.replicate_zero, List.push_toArray, List.setIfInBounds_toArray, List.set_cons_succ, List.set_cons_zero, List.append_toArray, List.cons_append, List.nil_append]
  go_wp2_with fail
  exact ⟨rfl, rfl, rfl⟩
 ·rintro e a' w' ⟨rfl, hd, rfl⟩
  cases c₀
  simp_all [bodyPostS, results, Tryz.results167]
theorem BZ (AB k : Nat) (older : List PanicEntry) (w : World) (hA : Blk w AB 3 #[.int .i64 0]) :
  CallsD Tryz.prog 167 #[.pointer (some ⟨AB, 0, none⟩)] (.panicking ({ v := .iface 237 (.agg #[.int .i64 (k : Nat)]), recovered := false } :: older)) w fun e u' w' =>
   e = .returned (.tuple #[]) ∧ u' = .panicking ({ v := .iface 237 (.agg #[.int .i64 (k : Nat)]), recovered := true } :: older) ∧ w' = (w.setCell ⟨AB, 0, none⟩ (.int .i64 (k : Nat))).alloc (.cells #[.int .i64 (k : Nat)] 237) := by
 obtain ⟨m, hm⟩ : ∃ m : Int, m = (k : Int) := ⟨_, rfl⟩
 rw [← hm]
 have a0 : ∀ w, (Instr.typeAssert (.iface 237 (.agg #[.int .i64 m])) 20 237 true).run Tryz.prog w = .ok (.tuple #[.agg #[.int .i64 m], .bool true]) w := fun w => by kernel_rfl
 have k1 := hA.alloc (.cells #[.int .i64 m] 237)
 have c1 := k1.cell 0
 have f1 := k1.frozen 0
 have l1 := hA.lt
 clear hA hm k1
 refine callsD_of_wpS Tryz.func167 rfl fun c₀ cs hu => ?_
 apply wpS_seq
 apply wpS_region
 simp [wpOpsS, go_sem, recoverD, hu, a0, Tryz.ntmps167, Exit.thenS]
 refine gY (Aa ((w.setCell ⟨AB, 0, none⟩ (.int .i64 m)).alloc (.cells #[.int .i64 m] 237))) ?_ ?_
 ·clear hu
  simp only [Array.replicate_succ, Array.replicate_zero, List.push_toArray, List.setIfInBounds_toArray, List.set_cons_succ, List.set_cons_zero, List.append_toArray, List.cons_append, List.nil_append]
  go_wp2_with fail
  exact ⟨rfl, rfl, rfl⟩
 ·rintro e a' w' ⟨rfl, hd, rfl⟩
  cases c₀
  simp_all [bodyPostS, results, Tryz.results167]
def Gy (R : Nat) (w : World) (o : ROut) (e : Ending) (w' : World) : Prop := Only R w w' ∧ e = .returned (.int .i64 (o.code : Nat)) ∧ ∃ s, Trn w' R s ∧ s.trace = o.trace ∧ s.num = o.num
theorem xV (R : Nat) (l : List It) (v : Value) (s : RSt) (w : World) (hs : s.ok) (hbl : (aH l).length ≤ 1048576) (hrow : RowAt w (js R) l v) (hol : az l 0) (hT : Trn w R s) :
  Calls Tryz.prog 129 #[.pointer (some ⟨R, 0, none⟩), v] w fun e w' => ∃ o, Runs (.l l) s o ∧ Gy R w o e w' := by
 have hmf : ∀ (fn : Fn) (first cap : Array Value) (w : World), (Instr.makeFunc fn first cap).run Tryz.prog w = .ok (.func fn first cap) w := fun _ _ _ _ => rfl
 have hR := Blk.lt hT
 obtain ⟨W, hW⟩ : ∃ W, W = w.alloc (.cells #[.int .i64 0] 3) := ⟨_, rfl⟩
 have hoW : Only R w W := by rw [hW]; exact (Only.refl R w).alloc _
 have hAB : Blk W w.heap.size 3 #[.int .i64 0] := by rw [hW]; exact Blk.new w _ _
 have hTW : Trn W R s := by rw [hW]; exact Blk.alloc hT _
 have hsW : W.heap.size = w.heap.size + 1 := by rw [hW]; simp
 have HD := GR (BW R l v 0 s W hs hbl (hrow.stay (gQ hoW)) hol hTW)
 have HW := GR hW
 have HOW := GR hoW
 have HAB := GR hAB
 have HOL := GR hol
 clear hW hoW hAB hTW hT hs hbl hrow hol
 go_enter_defers Tryz.func129, Tryz.ntmps129
 go_wp2_with fail
 rw [← HW.out]
 refine HD.out.mono ?_
 rintro e w2 ⟨o, hr, ho, hp⟩
 have hn2 : w.heap.size + 1 ≤ w2.heap.size := by have := ho.size; omega
 have k1 := HAB.out.only ho (by omega)
 have HO := GR (HOW.out.trans ho)
 have HR := GR hr
 have HK := GR k1
 match o, hp, hr with
 | .next s', hp, hr =>
  obtain ⟨rfl, hT⟩ := hp
  have k2 := k1.set_ 0 (.int .i64 0)
  have c0 : w2.cell? ⟨w.heap.size, 0, none⟩ = some (.int .i64 0) := k1.cell 0
  have f1 := k1.frozen 0
  have c1 : ((w2.setCell ⟨w.heap.size, 0, none⟩ (.int .i64 0)).alloc (.cells #[.int .i64 0] 237)).cell? ⟨w.heap.size, 0, none⟩ = some (.int .i64 0) := (k2.alloc _).cell 0
  have HT := GR (Blk.alloc (hT.set (S := w.heap.size) (by omega) 0 (.int .i64 0)) (.cells #[.int .i64 0] 237))
  have HO2 := GR ((HO.out.setNew (S := w.heap.size) (Nat.le_refl _) 0 (.int .i64 0)).alloc (.cells #[.int .i64 0] 237))
  clear hr ho k1 k2 hT hp
  go_wp2_with fail
  refine leaves_cons (f := 167) (args := #[.pointer (some ⟨w.heap.size, 0, none⟩)]) (by simp) (by simp [go_sem]) ?_
  refine (Ac w.heap.size _).mono ?_
  rintro e u' w'' ⟨rfl, rfl, rfl⟩
  simp [Leaves, settle, results, Tryz.results129, go_sem, c1]
  exact ⟨_, HR.out, HO2.out, rfl, s', HT.out, rfl, rfl⟩
 | .leave m s', hp, hr => exact absurd (Runs.leave_lt (t := .l l) (f := 0) hr HOL.out) (Nat.not_lt_zero _)
 | .fin q t m, hp, hr =>
  obtain ⟨⟨older, hgo, rfl⟩, s', hT, ht, hm⟩ := hp
  have k2 := (k1.set_ 0 (.int .i64 (q : Nat))).alloc (.cells #[.int .i64 (q : Nat)] 237)
  have c1 : ((w2.setCell ⟨w.heap.size, 0, none⟩ (.int .i64 (q : Nat))).alloc (.cells #[.int .i64 (q : Nat)] 237)).cell? ⟨w.heap.size, 0, none⟩ = some (.int .i64 (q : Nat)) := k2.cell 0
  have HT := GR (Blk.alloc (hT.set (S := w.heap.size) (by omega) 0 (.int .i64 (q : Nat))) (.cells #[.int .i64 (q : Nat)] 237))
  have HO2 := GR ((HO.out.setNew (S := w.heap.size) (Nat.le_refl _) 0 (.int .i64 (q : Nat))).alloc (.cells #[.int .i64 (q : Nat)] 237))
  clear hr ho k1 k2 hT
  refine leaves_cons (f := 167) (args := #[.pointer (some ⟨w.heap.size, 0, none⟩)]) (by simp) (by simp [go_sem]) ?_
  refine (BZ w.heap.size q older _ HK.out).mono ?_
  rintro e u' w'' ⟨rfl, rfl, rfl⟩
  have hdrop : older.dropWhile (!·.goexit) = [] := iL hgo
  simp [Leaves, settle, hdrop, results, Tryz.results129, go_sem, c1]
  exact ⟨_, HR.out, HO2.out, rfl, s', HT.out, ht, hm⟩
theorem DN {P : Nat → Prop} {R : Nat} {w w' : World} (h : Below w.heap.size w w') (hR : w.heap.size ≤ R) : Stay w P w' (js R) := ⟨h.size, fun b hb _ => ⟨by show b ≠ R; omega, h.block b hb⟩⟩
theorem xW {B : Nat} {w w' : World} (h : Below B w w') : Below B w w'.drew := ⟨h.os, h.tape, h.output, h.size, h.block⟩
def oV (o : ROut) : Value := .agg #[.string (tb o.trace), .int .i64 (o.code : Nat)]
theorem wk {P : Nat → Prop} (l : List It) (v : Value) (c : List UInt8) (w : World) (hbl : (aH l).length ≤ 1048576) (hrow : RowAt w P l v) (hol : az l 0) :
  Calls Tryz.prog 86 #[v, .string (tb c)] w fun e w' => ∃ o, Runs (.l l) (nc c) o ∧ e = .returned (.tuple #[oV o, .int .i64 (o.num : Nat)]) ∧ Below w.heap.size w w' := by
 obtain ⟨W, hW⟩ : ∃ W, W = (w.alloc (.cells #[.string (tb []), .int .i64 0] 124)).alloc (.cells #[.string (tb c), .string (tb []), .int .i64 0, .int .i64 0] 187) := ⟨_, rfl⟩
 have hbW : Below w.heap.size w W := by rw [hW]; exact ((Below.refl _ w).alloc (Nat.le_refl _) _).alloc (by simp) _
 have hsW : W.heap.size = w.heap.size + 2 := by rw [hW]; simp
 have hOB : Blk W w.heap.size 124 #[.string (tb []), .int .i64 0] := by rw [hW]; exact (Blk.new w _ _).alloc _
 have hTW : Trn W (w.heap.size + 1) (nc c) := by
  have := Blk.new (w.alloc (.cells #[.string (tb []), .int .i64 0] 124)) 187 #[.string (tb c), .string (tb []), .int .i64 0, .int .i64 0]
  rw [World.size_alloc] at this
  rw [hW]; exact this
 have HD := GR (xV (w.heap.size + 1) l v (nc c) W (FT c) hbl (hrow.stay (DN hbW (by omega))) hol hTW)
 have HW := GR hW
 have HBW := GR hbW
 have HOB := GR hOB
 clear hW hbW hOB hTW hbl hrow hol
 go_enter Tryz.func86, Tryz.ntmps86
 go_wp2_with fail
 rw [show (⟨#[]⟩ : ByteArray) = tb [] from rfl] at *
 rw [← HW.out]
 refine HD.out.mono ?_
 rintro e w2 ⟨o, hr, ho, rfl, s', hT, ht, hm⟩
 have hn2 : w.heap.size + 2 ≤ w2.heap.size := by have := ho.size; omega
 have k1 := HOB.out.only ho (by omega)
 have l0 := k1.lt
 have f0 := k1.frozen 0
 have f1 := k1.frozen 1
 have c10 : w2.cell? ⟨w.heap.size + 1, 1, none⟩ = some (.string (tb o.trace)) := by rw [← ht]; exact Blk.cell hT 1
 have c11 : w2.cell? ⟨w.heap.size + 1, 2, none⟩ = some (.int .i64 (o.num : Nat)) := by rw [← hm]; exact Blk.cell hT 2
 have hb2 : Below w.heap.size w w2 := ⟨ho.os.trans HBW.out.os, ho.tape.trans HBW.out.tape, ho.output.trans HBW.out.output, by omega, fun k hk => (ho.block k (by omega) (by omega)).trans (HBW.out.block k hk)⟩
 have c00 : w2.cell? ⟨w.heap.size, 0, none⟩ = some (.string (tb [])) := k1.cell 0
 have c01 : w2.cell? ⟨w.heap.size, 1, none⟩ = some (.int .i64 0) := k1.cell 1
 have kd : Blk w2.drew w.heap.size 124 #[.string (tb []), .int .i64 0] := k1
 have kd1 := kd.set_ 0 (.string (tb o.trace))
 have c02 : (w2.drew.setCell ⟨w.heap.size, 0, none⟩ (.string (tb o.trace))).cell? ⟨w.heap.size, 1, none⟩ = some (.int .i64 0) := kd1.cell 1
 have f02 := kd1.frozen 1
 have k5 := (k1.set_ 0 (.string (tb o.trace))).set_ 1 (.int .i64 (o.code : Nat))
 have c10' : ((w2.setCell ⟨w.heap.size, 0, none⟩ (.string (tb o.trace))).setCell ⟨w.heap.size, 1, none⟩ (.int .i64 (o.code : Nat))).cell? ⟨w.heap.size, 0, none⟩ = some (.string (tb o.trace)) := k5.cell 0
 have c11' : ((w2.setCell ⟨w.heap.size, 0, none⟩ (.string (tb o.trace))).setCell ⟨w.heap.size, 1, none⟩ (.int .i64 (o.code : Nat))).cell? ⟨w.heap.size, 1, none⟩ = some (.int .i64 (o.code : Nat)) := k5.cell 1
 have HR := GR hr
 have HB2 := GR hb2
 have hTd : Trn ((w2.drew.setCell ⟨w.heap.size, 0, none⟩ (.string (tb o.trace))).setCell ⟨w.heap.size, 1, none⟩ (.int .i64 (o.code : Nat))) (w.heap.size + 1) s' := Trn.set (Trn.set (show Trn w2.drew (w.heap.size + 1) s' from hT) (by omega) 0 _) (by omega) 1 _
 have c11s : ((w2.drew.setCell ⟨w.heap.size, 0, none⟩ (.string (tb o.trace))).setCell ⟨w.heap.size, 1, none⟩ (.int .i64 (o.code : Nat))).cell? ⟨w.heap.size + 1, 2, none⟩ = some (.int .i64 (o.num : Nat)) := by rw [← hm]; exact Blk.cell hTd 2
 clear hr ho ht hm hT k1 hb2 kd kd1 k5 hTd
 go_wp2_with fail
 go_region
 all_goals
  go_wp2_with fail
  refine bodyPost_ret (v := .tuple #[oV o, .int .i64 (o.num : Nat)]) (by simp [results, Tryz.results86, go_sem, c10', c11', oV]) rfl ?_
  exact ⟨_, HR.out, rfl, xW (dE (dE HB2.out (Nat.le_refl _) 0 _) (Nat.le_refl _) 1 _)⟩
theorem kM (s c : List UInt8) (w : World) (hc : c.length ≤ 4611686018427387904) :
  Calls Tryz.prog 46 #[.string (tb s), .string (tb c)] w fun e w' => ∃ o, RanT s c o ∧ e = .returned (n7 o) ∧ Below w.heap.size w w' := by
 have HIT := GR (k8 s w)
 have HCS := GR (by rw [aB]; exact hc : (tb c).size ≤ 4611686018427387904)
 clear hc
 go_enter Tryz.func46, Tryz.ntmps46
 go_wp2_with fail
 refine HIT.out.mono ?_
 rintro e w1 (⟨l, v, htx, rfl, h1c, hrow, hb⟩ | ⟨hno, rfl, hb⟩)
 ·obtain ⟨A, cp, m, rfl, hrow⟩ := eA hrow
  have HC := GR (ie (tb c) w1 HCS.out)
  have HB := GR hb
  have HTX := GR htx
  have HROW := GR hrow
  clear htx hrow hb h1c
  go_wp2_with fail
  refine HC.out.mono ?_
  rintro e w2 ⟨rfl, hb2⟩
  have HB2 := GR (HB.out.trans (hb2.mono HB.out.size))
  cases hcb : bT (tb c) with
  | false =>
   have HN := GR (show RanT s c none from .inr hcb)
   clear hb2 hcb
   go_wp2_with fail
   refine bodyPost_ret (v := n7 none) (by simp [results, Tryz.results46, go_sem, n7, tb]) rfl ?_
   exact ⟨none, HN.out, rfl, HB2.out⟩
  | true =>
   have hlen : (aH l).length ≤ 1048576 := by have h := HTX.out; have h1 := h.1; rw [h.2.2] at h1; omega
   have HD := GR (wk (P := bi w) l (.slice A m cp) c w2 hlen (HROW.out.stay ⟨hb2.size, fun b hb hp => ⟨hp, hb2.block b hb⟩⟩) HTX.out.2.1)
   have HC1 := GR hcb
   clear hb2 hcb hlen
   go_wp2_with fail
   refine HD.out.mono ?_
   rintro e w3 ⟨o, hr, rfl, hb3⟩
   have HN := GR (show RanT s c (some o) from ⟨l, HTX.out, HC1.out, hr⟩)
   have HB3 := GR (HB2.out.trans (hb3.mono HB2.out.size))
   clear hr hb3
   unfold oV
   go_wp2_with fail
   go_quiet (fail)
   go_wp2_with fail
   refine bodyPost_ret (v := n7 (some o)) (by simp [results, Tryz.results46, go_sem, n7]) rfl ?_
   exact ⟨some o, HN.out, rfl, (HB3.out.alloc HB3.out.size _).trans ((iW _ _).mono (by have := HB3.out.size; simp; omega))⟩
 ·have HN := GR (show RanT s c none from .inl hno)
  have HB := GR hb
  clear hno hb
  go_wp2_with fail
  refine bodyPost_ret (v := n7 none) (by simp [results, Tryz.results46, go_sem, n7, tb]) rfl ?_
  exact ⟨none, HN.out, rfl, HB.out⟩
end Go.Proofs.YtlkfakdghjaoaaaGreatDoor
