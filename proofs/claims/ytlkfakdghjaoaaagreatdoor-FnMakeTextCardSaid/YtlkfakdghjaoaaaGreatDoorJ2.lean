import Derived.Test.YtlkfakdghjaoaaaGreatDoorShelf
import Derived.Lib.Builder
import Derived.Lib.AppendStr
import Derived.Lib.UnsafeStr
import Derived.KernelRfl
import Derived.Laws.EntriesVeiled
import Derived.WalkLawsBesides
import Derived.Deep.OwnRows
import Derived.Deep.RegionWith
import Derived.Test.YtlkfakdghjaoaaaGreatDoorIter
import Derived.Lib.OthersKept
import Derived.Test.YtlkfakdghjaoaaaGreatDoorJ1
import Derived.Laws.BytesArg
import Derived.Lib.QuietBelow
import Derived.OwnWalk
import Derived.Deep.AppendLies
import Derived.Deep.RegionLaw
import Derived.Laws.Bits64
import Derived.Test.YtlkfakdghjaoaaaGreatDoorTextMath
import Derived.Recover
set_option maxRecDepth 100000
set_option maxHeartbeats 800000
namespace Go.Proofs.YtlkfakdghjaoaaaGreatDoor
open Go.RowKit
theorem jp : (Tryz.prog.info? 61).map (·.size) = some 2 := by kernel_rfl
theorem mQ : (Tryz.prog.info? 5).map (fun i => (i.zero, i.size, i.bytes)) = some (some (.int .u8 0), 1, 1) := by kernel_rfl
theorem tL : liesAt Tryz.prog Tryz.prog.depth 61 (2 / Tryz.prog.cellsOf 61) 0 61 1 = true := by kernel_rfl
abbrev Bd (B b : Nat) (bs : List Value) (w : World) : Prop := Lib.IsBuilder 61 5 B b bs w
theorem kL (b : Nat) (w : World) (h0 : w.cell? ⟨b, 0, none⟩ = some (.pointer (some ⟨b, 0, none⟩))) :
  Calls Tryz.prog 101 #[.pointer (some ⟨b, 0, none⟩)] w fun e w' => e = .returned (.tuple #[]) ∧ w = w' := by
 obtain ⟨j, hj, _⟩ := Option.map_eq_some_iff.1 jp
 have hne := Lib.run_neq_ptr_same (P := Tryz.prog) w ⟨b, 0, none⟩ Tryz.underlying59 hj
 go_enter Tryz.func101, Tryz.ntmps101
 go_wp2
 go_end0
 exact ⟨rfl, rfl⟩
theorem jP (b : Nat) (w : World) (h0 : w.cell? ⟨b, 0, none⟩ = some (.pointer none)) (hsh : w.shape? b = some (61, 2)) (hfz : w.frozen? ⟨b, 0, none⟩ = false) :
  Calls Tryz.prog 101 #[.pointer (some ⟨b, 0, none⟩)] w fun e w' => e = .returned (.tuple #[]) ∧ w.setCell ⟨b, 0, none⟩ (.pointer (some ⟨b, 0, none⟩)) = w' := by
 obtain ⟨j, hj, hjs⟩ := Option.map_eq_some_iff.1 jp
 have r1 := Lib.run_to_unsafe (P := Tryz.prog) w ⟨b, 0, none⟩ Tryz.underlying59 Tryz.underlying207 hj (by rw [hjs]; decide) hsh (Nat.zero_lt_succ 1)
 have r2 := Lib.run_from_unsafe (P := Tryz.prog) w ⟨b, 0, none⟩ Tryz.underlying207 Tryz.underlying59 hj hsh tL
 have hne := fun W => Lib.run_neq_ptr_same (P := Tryz.prog) W ⟨b, 0, none⟩ Tryz.underlying59 hj
 go_enter Tryz.func101, Tryz.ntmps101
 go_wp2
 rw [run_callFunc_extern Tryz.func147 (by kernel_rfl) (by kernel_rfl) (by kernel_rfl) (e := Extern.AbiNoEscape.same) (by kernel_rfl), Lib.run_noEscape]
 simp only [Result.andThen]
 rw [Oper.upon_value]
 go_wp2
 go_end0
 exact ⟨rfl, rfl⟩
theorem tc (B b : Nat) (bs : List Value) (w : World) (h : Bd B b bs w) :
  Calls Tryz.prog 101 #[.pointer (some ⟨b, 0, none⟩)] w fun e w' => e = .returned (.tuple #[]) ∧ Lib.BuilderAt 61 5 B b (.pointer (some ⟨b, 0, none⟩)) bs w' ∧ Below B w w' := by
 rcases h with h | h
 ·refine (jP b w h.cell0 h.shape h.frozen0).mono ?_
  rintro e w' ⟨rfl, rfl⟩
  exact ⟨rfl, h.used _, (Below.refl B w).setCell (p := ⟨b, 0, none⟩) h.1 _⟩
 ·refine (kL b w h.cell0).mono ?_
  rintro e w' ⟨rfl, rfl⟩
  exact ⟨rfl, h, Below.refl B _⟩
theorem rO (B b : Nat) (bs : List Value) (s : ByteArray) (w : World) (h : Bd B b bs w) (hlen : bs.length + s.size ≤ 1048576) (hBw : B ≤ w.heap.size) :
  Calls Tryz.prog 57 #[.pointer (some ⟨b, 0, none⟩), .string s] w fun e w' => e = .returned (.tuple #[.int .i64 s.size, .nilIface]) ∧ Bd B b (bs ++ Lib.strCells s) w' ∧ Below B w w' := by
 obtain ⟨i0, hi, hz0, hz1, hz2⟩ := info_parts mQ
 go_enter Tryz.func57, Tryz.ntmps57
 go_wp2_with fail
 refine (tc B b bs _ h).mono ?_
 rintro e w1 ⟨rfl, ⟨hB, v, hbk, hown, hne⟩, hb1⟩
 have hblk : Blk w1 b 61 #[.pointer (some ⟨b, 0, none⟩), v] := hbk
 have c1 := hblk.cell 1
 have hw1 := hb1.size
 go_wp2_with (at_builtin; refine Lib.wpList_append_own_string _ rfl _ _ 22 9 rfl B 5 i0 Tryz.underlying22 Tryz.underlying9 hi hz0 hz1 hz2 _ _ _ rfl hown s rfl ?c3 ?c4 ?c5 ?_)
 case c3 => unfold maxLen; omega
 case c4 => omega
 case c5 => omega
 intro v' w2 hown' hgrow _
 have hblk2 : Blk w2 b 61 #[.pointer (some ⟨b, 0, none⟩), v] := (hgrow.block b hblk.lt (fun e => hne e.symm)).trans hblk
 have d1 := hblk2.cell 1
 have f1 := hblk2.frozen 1
 obtain ⟨ao, n', cap, rfl⟩ : ∃ ao n' cap, v' = .slice ao n' cap := by
  rcases hown'.2 with ⟨hv, _⟩ | ⟨g, cap, cur, hv, _⟩
  ·exact ⟨_, _, _, hv⟩
  ·exact ⟨_, _, _, hv⟩
 go_wp2
 go_ret2
 refine ⟨rfl, Or.inr (Lib.BuilderAt.put (T := 61) (e := 5) hB hblk2 (bs' := bs ++ Lib.strCells s) (by simpa [Lib.strCells_length] using hown') (by decide)), ?_⟩
 exact (hb1.grown hgrow (by omega) (fun k hk => (hown.lt k hk).1)).setCell (p := ⟨b, 1, none⟩) hB _
theorem zv (w : World) : Bd w.heap.size w.heap.size [] (w.alloc (.cells #[.pointer none, .slice none 0 0] 61)) :=
 Or.inl ⟨Nat.le_refl _, .slice none 0 0, Blk.new _ _ _, World.ownsRow_nil _ _ _ _, by simp [Value.ownBlock]⟩
theorem mR (s t : ByteArray) : Lib.strCells (s ++ t) = Lib.strCells s ++ Lib.strCells t := by
 simp [Lib.strCells]
theorem pM (B b : Nat) (s : ByteArray) (w : World) (h : Bd B b (Lib.strCells s) w) (hBw : B ≤ w.heap.size) :
  Calls Tryz.prog 53 #[.pointer (some ⟨b, 0, none⟩)] w fun e w' => e = .returned (.string s) ∧ Below B w w' := by
 have := Tryz.Builder_String_any B b s.data.toList w h hBw
 exact this
end Go.Proofs.YtlkfakdghjaoaaaGreatDoor
namespace Go.Proofs.YtlkfakdghjaoaaaGreatDoor
open Go.RowKit
theorem oZ {P : Program} {w : World} {t u ty e : TypeId} {i : TypeInfo} (ht : P.underlying t = some (.slice e)) (hu : P.underlying u = some .string) (hi : P.info? e = some i) (hz : i.zero = some (.int .u8 0))
  (hsize : i.size = 1) (hby : i.bytes = 1) {base : Nat} {v : Value} {n : Nat} {xs : List Value} (hown : w.ownsRow base e 1 v n xs) {s : ByteArray}
  (h63 : n + s.size ≤ maxLen) (hbytes : n + s.size ≤ 140737488355328) (hbase : base ≤ w.heap.size) {v' : Value} {w' : World}
  (hr : (Builtin.append_ #[t, u] ty #[v, .string s]).run P w = .ok v' w') : v'.ownBlock = v.ownBlock ∨ v'.ownBlock = some w.heap.size := by
 have hsmall : n + s.size ≤ 9223372036854775807 := by simp only [maxLen] at h63; omega
 have hxl : xs.length = n := by simpa using hown.1
 obtain ⟨v2, w2, hr2, _, _, hnil⟩ := Lib.run_append_own_string (P := P) w base t u ty e i ht hu hi hz hsize hby v n xs hown s h63 hbytes hbase
 rw [hr] at hr2
 injection hr2 with e1 e2
 subst e1
 clear e2
 rcases hown.2 with ⟨rfl, rfl⟩ | ⟨g, cap, cur, rfl, hbg, hg, hnc, hcm, hcs, _⟩
 ·by_cases hm : s.size = 0
  ·left; rw [hnil.2 ⟨rfl, hm⟩]
  ·right
   have h3 := run_append_nil_string (P := P) w t u ty e i (.int .u8 0) ht hu hi hz s (by omega) (by omega) (by rw [hby]; omega)
   rw [hr] at h3
   injection h3 with e1 _
   rw [e1]; rfl
 ·by_cases hroom : n + s.size ≤ cap
  ·left
   have h3 := Lib.run_append_room_string (P := P) w t u ty e i ht hu hi hsize g n cap cur hg s hroom (by have : cur.size = cap := by simpa using hcs
                                                                                                         omega)
   rw [hr] at h3
   injection h3 with e1 _
   rw [e1]; rfl
  ·right
   have h3 := Lib.run_append_grow_string (P := P) w t u ty e i (.int .u8 0) ht hu hi hz ⟨g, 0, none⟩ n cap xs (by rw [hsize]; simpa using hxl) (hown.cells (g := g) rfl) s (by omega) (by omega) (by rw [hby]; exact growslice_fits (by omega) (by omega))
   rw [hr] at h3
   injection h3 with e1 _
   rw [e1]; rfl
theorem jO {P : Program} {w : World} {ops : Array Oper} {rest : List Oper} {o : Oper} {a : Act} {Q : Exit → Act → World → Prop} (hgd : o.guard = none) (sl x : Operand) (t u : TypeId)
  (ho : o.op = .call { callee := .builtin .append, args := #[sl, x], argTypes := #[t, u] })
  (base : Nat) (e : TypeId) (i : TypeInfo) (ht : P.underlying t = some (.slice e)) (hu : P.underlying u = some .string) (hi : P.info? e = some i) (hz : i.zero = some (.int .u8 0)) (hsize : i.size = 1) (hby : i.bytes = 1)
  (v : Value) (n : Nat) (xs : List Value) (hs : a.eval sl = v) (hown : w.ownsRow base e 1 v n xs) (s : ByteArray) (hx : a.eval x = .string s)
  (h63 : n + s.size ≤ maxLen) (hbytes : n + s.size ≤ 140737488355328) (hbase : base ≤ w.heap.size)
  (h : ∀ v' w', w'.ownsRow base e 1 v' (n + s.size) (xs ++ Lib.strCells s) → w.grownBy w' v.ownBlock → (v'.ownBlock = v.ownBlock ∨ v'.ownBlock = some w.heap.size) → wpList P ops Q rest (a.put o.dst v') w') : wpList P ops Q (o :: rest) a w := by
 refine wpList_plain hgd fun K hK => ?_
 obtain ⟨v', w', hr, h2, h3, _⟩ := Lib.run_append_own_string (P := P) w base t u o.type e i ht hu hi hz hsize hby v n xs hown s h63 hbytes hbase
 have h4 := oZ ht hu hi hz hsize hby hown h63 hbytes hbase hr
 unfold Oper.wp execOp
 simp only [ho, resolve, invoke, builtin, Sem.run_bind, Sem.run_pure, Result.andThen_ok, List.map_toArray, List.map_cons, List.map_nil, hs, hx, hr]
 exact hK _ _ (h v' w' h2 h3 h4)
def BdK (b : Nat) (bs : List Value) (K : Nat → Prop) (w : World) : Prop :=
 ∃ p v, (p = .pointer none ∨ p = .pointer (some ⟨b, 0, none⟩)) ∧ Blk w b 61 #[p, v] ∧ w.ownsRow b 5 1 v bs.length bs ∧ v.ownBlock ≠ some b ∧ ∀ g, v.ownBlock = some g → ¬ K g
theorem BdK.bd {b : Nat} {bs : List Value} {K : Nat → Prop} {w : World} (h : BdK b bs K w) : Bd b b bs w := by
 obtain ⟨p, v, rfl | rfl, hb, hown, hne, _⟩ := h
 ·exact .inl ⟨Nat.le_refl _, v, hb, hown, hne⟩
 ·exact .inr ⟨Nat.le_refl _, v, hb, hown, hne⟩
theorem EA {b : Nat} {w : World} (K : Nat → Prop) (h : Blk w b 61 #[.pointer none, .slice none 0 0]) : BdK b [] K w :=
 ⟨_, .slice none 0 0, .inl rfl, h, World.ownsRow_nil _ _ _ _, by simp [Value.ownBlock], fun g h => by cases h⟩
theorem BdK.lt {b : Nat} {bs : List Value} {K : Nat → Prop} {w : World} (h : BdK b bs K w) : b < w.heap.size := by
 obtain ⟨_, _, _, hb, _⟩ := h
 exact hb.lt
theorem xf {w : World} {b : Nat} {e : TypeId} {v : Value} {n : Nat} {xs : List Value} {base : Nat} (h : w.ownsRow base e 1 v n xs) (hne : v.ownBlock ≠ some b) (l : Nat) (u : Value) : (w.setCell ⟨b, l, none⟩ u).ownsRow base e 1 v n xs := by
 refine ⟨h.1, ?_⟩
 rcases h.2 with hn | ⟨g, cap, cur, rfl, hb2, hg, rest⟩
 ·exact .inl hn
 ·exact .inr ⟨g, cap, cur, rfl, hb2, (Below.heap_setCell w ⟨b, l, none⟩ u g (fun e => hne (by rw [e]; rfl))).trans hg, rest⟩
theorem tN {w w' : World} {e : TypeId} {v : Value} {n : Nat} {xs : List Value} {base : Nat} (h : w.ownsRow base e 1 v n xs) (hk : ∀ g, v.ownBlock = some g → w'.heap[g]? = w.heap[g]?) : w'.ownsRow base e 1 v n xs := by
 refine ⟨h.1, ?_⟩
 rcases h.2 with hn | ⟨g, cap, cur, rfl, hb2, hg, rest⟩
 ·exact .inl hn
 ·exact .inr ⟨g, cap, cur, rfl, hb2, (hk g rfl).trans hg, rest⟩
theorem BdK.kept {b : Nat} {bs : List Value} {K K' : Nat → Prop} {w w' : World} (h : BdK b bs K w) (hb : w'.heap[b]? = w.heap[b]?) (hk : ∀ g, g < w.heap.size → ¬ K g → w'.heap[g]? = w.heap[g]? ∧ ¬ K' g) : BdK b bs K' w' := by
 obtain ⟨p, v, hp, hbk, hown, hne, hno⟩ := h
 exact ⟨p, v, hp, hb.trans hbk, tN hown fun g hg => (hk g (hown.lt g hg).2 (hno g hg)).1, hne, fun g hg => (hk g (hown.lt g hg).2 (hno g hg)).2⟩
theorem vU (b : Nat) (w : World) (p v : Value) (hp : p = .pointer none ∨ p = .pointer (some ⟨b, 0, none⟩)) (hbk : Blk w b 61 #[p, v]) (bs : List Value) (hown : w.ownsRow b 5 1 v bs.length bs) (hne : v.ownBlock ≠ some b) :
  Calls Tryz.prog 101 #[.pointer (some ⟨b, 0, none⟩)] w fun e w' => e = .returned (.tuple #[]) ∧ Blk w' b 61 #[.pointer (some ⟨b, 0, none⟩), v] ∧ w'.ownsRow b 5 1 v bs.length bs ∧
   w'.heap.size = w.heap.size ∧ Below b w w' ∧ ∀ k, k ≠ b → w'.heap[k]? = w.heap[k]? := by
 rcases hp with rfl | rfl
 ·have hB : Lib.BuilderAt 61 5 b b (.pointer none) bs w := ⟨Nat.le_refl _, v, hbk, hown, hne⟩
  refine (jP b w hB.cell0 hB.shape hB.frozen0).mono ?_
  rintro e w' ⟨rfl, rfl⟩
  refine ⟨rfl, ?_, xf hown hne 0 _, by simp, (Below.refl b w).setCell (p := ⟨b, 0, none⟩) (Nat.le_refl _) _, fun k hk => Below.heap_setCell w ⟨b, 0, none⟩ _ k hk⟩
  exact hbk.set_ 0 (.pointer (some ⟨b, 0, none⟩))
 ·refine (kL b w (hbk.cell 0)).mono ?_
  rintro e w' ⟨rfl, rfl⟩
  exact ⟨rfl, hbk, hown, rfl, Below.refl _ _, fun _ _ => rfl⟩
theorem Do (b : Nat) (bs : List Value) (s : ByteArray) (K : Nat → Prop) (w : World) (h : BdK b bs K w) (hK : ∀ k, K k → k < w.heap.size ∧ k ≠ b) (hlen : bs.length + s.size ≤ 1048576) :
  Calls Tryz.prog 57 #[.pointer (some ⟨b, 0, none⟩), .string s] w fun e w' => e = .returned (.tuple #[.int .i64 s.size, .nilIface]) ∧ BdK b (bs ++ Lib.strCells s) K w' ∧ Below b w w' ∧ Keeps K w w' := by
 obtain ⟨i0, hi, hz0, hz1, hz2⟩ := info_parts mQ
 obtain ⟨p, v, hp, hbk, hown, hne, hno⟩ := h
 have HC := F7 (vU b w p v hp hbk bs hown hne)
 have hblt := hbk.lt
 have hol := hown.lt
 clear hp hbk hown
 go_enter Tryz.func57, Tryz.ntmps57
 go_wp2_with fail
 refine HC.out.mono ?_
 rintro e w1 ⟨rfl, hblk, hown, hs1, hb1, hk1⟩
 have c1 := hblk.cell 1
 have HS1 := F7 hs1
 have HK1 := F7 hk1
 have hbw1 : b ≤ w1.heap.size := by omega
 clear hk1 hs1
 go_wp2_with (at_builtin; refine jO rfl _ _ 22 9 rfl b 5 i0 Tryz.underlying22 Tryz.underlying9 hi hz0 hz1 hz2 _ _ _ rfl hown s rfl ?c3 ?c4 ?c5 ?_)
 case c3 => unfold maxLen; omega
 case c4 => omega
 case c5 => exact hbw1
 intro v' w2 hown' hgrow hat
 have hne1 : some b ≠ v.ownBlock := fun e => hne e.symm
 have hblk2 : Blk w2 b 61 #[.pointer (some ⟨b, 0, none⟩), v] := (hgrow.block b hblk.lt hne1).trans hblk
 have hne' : v'.ownBlock ≠ some b := by
  rcases hat with e | e
  ·rw [e]; exact hne
  ·rw [e]; intro h; injection h with h; have := hblk.lt; omega
 have hno' : ∀ g, v'.ownBlock = some g → ¬ K g := by
  intro g hg hk
  rcases hat with e | e
  ·rw [e] at hg; exact hno g hg hk
  ·rw [e] at hg; injection hg with hg; have := (hK g hk).1; have := HS1.out; omega
 have hkk : ∀ k, K k → w2.heap[k]? = w.heap[k]? := by
  intro k hk
  have h1 := hK k hk
  refine (hgrow.block k (by have := HS1.out; omega) fun e => hno k e.symm hk).trans (HK1.out k h1.2)
 have HKK := F7 hkk
 have HNE := F7 hne'
 have HNO := F7 hno'
 have HOWN := F7 hown'
 have HBG := F7 (hb1.grown hgrow (by omega) (fun k hk => (hown.lt k hk).1))
 have hsz2 := hgrow.size
 have d1 := hblk2.cell 1
 have f1 := hblk2.frozen 1
 have HBK := F7 hblk2
 clear hkk hne' hno' hat hgrow hown hblk c1 hne1
 obtain ⟨ao, n', cap, rfl⟩ : ∃ ao n' cap, v' = .slice ao n' cap := by
  rcases hown'.2 with ⟨hv, _⟩ | ⟨g, cap, cur, hv, _⟩
  ·exact ⟨_, _, _, hv⟩
  ·exact ⟨_, _, _, hv⟩
 clear hown'
 go_wp2
 go_ret2
 have hlc : (bs ++ Lib.strCells s).length = bs.length + s.size := by rw [List.length_append, Lib.strCells_length]
 refine ⟨rfl, ⟨_, _, .inr rfl, HBK.out.set_ 1 (.slice ao n' cap), ?_, HNE.out, HNO.out⟩, HBG.out.setCell (p := ⟨b, 1, none⟩) (Nat.le_refl _) _, ⟨?_, fun k hk hKk => ?_⟩⟩
 ·rw [hlc]; exact xf HOWN.out HNE.out 1 _
 ·have := HS1.out; simp; omega
 ·exact (Below.heap_setCell w2 ⟨b, 1, none⟩ _ k (hK k hKk).2).trans (HKK.out k hKk)
end Go.Proofs.YtlkfakdghjaoaaaGreatDoor

namespace Go.Proofs.YtlkfakdghjaoaaaGreatDoor
open Go.RowKit Go.Sort
def Strs (w : World) (A : Option Addr) (ps : List ByteArray) : Prop :=
 0 < ps.length → ∃ b off, A = some ⟨b, off, none⟩ ∧ b < w.heap.size ∧ ∀ k (h : k < ps.length), w.cell? ⟨b, off + k, none⟩ = some (.string ps[k])
theorem Strs.below {w w' : World} {A : Option Addr} {ps : List ByteArray} (h : Strs w A ps) (hb : Below w.heap.size w w') : Strs w' A ps := by
 intro hn
 obtain ⟨b, off, rfl, hlt, hc⟩ := h hn
 have := hb.size
 exact ⟨b, off, rfl, by omega, fun k hk => (hb.cell (p := ⟨b, off + k, none⟩) hlt).trans (hc k hk)⟩
theorem gY : (Tryz.prog.info? 9).map (fun i => (i.zero, i.size, i.bytes)) = some (some (.string ⟨#[]⟩), 1, 16) := by kernel_rfl
theorem gZ {w : World} {base : Nat} {v : Value} {ps : List ByteArray} (h : w.ownsRow base 9 1 v ps.length (ps.map Value.string)) : ∃ A cap, v = .slice A ps.length cap ∧ Strs w A ps := by
 rcases h.2 with ⟨rfl, hn⟩ | ⟨gb, cap, cur, hv, _, hg, _⟩
 ·exact ⟨none, 0, by rw [hn], fun hpos => absurd hpos (by omega)⟩
 ·subst hv
  refine ⟨_, _, rfl, fun _ => ⟨gb, 0, rfl, ?_, fun j hj => ?_⟩⟩
  ·rcases Nat.lt_or_ge gb w.heap.size with h' | h'
   ·exact h'
   ·rw [Array.getElem?_eq_none h'] at hg; cases hg
  ·have hc := h.cellAt j (by omega)
   rw [List.getElem?_map, List.getElem?_eq_getElem hj] at hc
   rw [Nat.zero_add]; exact hc
abbrev OwnStr (w : World) (base : Nat) (v : Value) (ps : List ByteArray) : Prop := w.ownsRow base 9 1 v ps.length (ps.map Value.string)
theorem OwnStr.strs {w : World} {base : Nat} {A : Option Addr} {cap : Nat} {ps : List ByteArray} (h : OwnStr w base (.slice A ps.length cap) ps) : Strs w A ps := by
 obtain ⟨A', cap', he, hs⟩ := gZ h
 injection he with h1 _ _
 rw [h1]; exact hs
theorem fB {w w' : World} {base : Nat} {e : TypeId} {size : Nat} {v : Value} {n : Nat} {xs : List Value} (h : w.ownsRow base e size v n xs) (hb : Below w.heap.size w w') : w'.ownsRow base e size v n xs := by
 refine ⟨h.1, ?_⟩
 rcases h.2 with hn | ⟨g, cap, cur, hv, hb2, hg, rest⟩
 ·exact .inl hn
 ·refine .inr ⟨g, cap, cur, hv, hb2, ?_, rest⟩
  have hlt : g < w.heap.size := by
   rcases Nat.lt_or_ge g w.heap.size with h' | h'
   ·exact h'
   ·rw [Array.getElem?_eq_none h'] at hg; cases hg
  exact (hb.block g hlt).trans hg
end Go.Proofs.YtlkfakdghjaoaaaGreatDoor

set_option maxHeartbeats 1600000
set_option maxRecDepth 100000
namespace Go.Proofs.YtlkfakdghjaoaaaGreatDoor
open Go.RowKit Go.Sort
theorem DV (a b : Nat) (ha : a < 4611686018427387904) (hb : b < 4611686018427387904) : bits .xor .i64 (a : Int) (b : Int) = ((a ^^^ b : Nat) : Int) := by
 have hx : a ^^^ b < 2 ^ 62 := Nat.xor_lt_two_pow (by omega) (by omega)
 have h1 : (BitVec.ofInt 64 (a : Int)).toNat = a := by
  rw [BitVec.ofInt_natCast, BitVec.toNat_ofNat]; exact Nat.mod_eq_of_lt (by omega)
 have h2 : (BitVec.ofInt 64 (b : Int)).toNat = b := by
  rw [BitVec.ofInt_natCast, BitVec.toNat_ofNat]; exact Nat.mod_eq_of_lt (by omega)
 show IntKind.i64.wrap ((BitVec.ofInt 64 (a : Int) ^^^ BitVec.ofInt 64 (b : Int)).toNat : Int) = _
 rw [BitVec.toNat_xor, h1, h2, IntKind.wrap_i64]
 omega
theorem wG (x y : Int) (h1 : 0 ≤ x) (h2 : x < 4611686018427387904) (h3 : 0 ≤ y) (h4 : y < 4611686018427387904) : ∃ z : Nat, bits .xor .i64 x y = (z : Int) ∧ z < 4611686018427387904 := by
 obtain ⟨a, rfl⟩ := Int.eq_ofNat_of_zero_le h1
 obtain ⟨b, rfl⟩ := Int.eq_ofNat_of_zero_le h3
 refine ⟨a ^^^ b, DV a b (by omega) (by omega), ?_⟩
 have hx : a ^^^ b < 2 ^ 62 := Nat.xor_lt_two_pow (by omega) (by omega)
 omega
structure Rd (w : World) (R : Nat) (A : Option Addr) (len cap p : Nat) : Prop where
 blk : Blk w R 136 #[.slice A len cap, .int .i64 p]
 bytes : 0 < len → ∃ b off, A = some ⟨b, off, none⟩ ∧ b < w.heap.size ∧ b ≠ R ∧ ∀ k, k < len → ∃ c : UInt8, w.cell? ⟨b, off + k, none⟩ = some (.int .u8 c.toNat)
 small : len ≤ 2000
theorem Rd.next {w : World} {R : Nat} {A : Option Addr} {len cap p : Nat} (h : Rd w R A len cap p) (m : Nat) : Rd ((w.setCell ⟨R, 1, none⟩ (.int .i64 ((p : Int) + 1))).drewN m) R A len cap (p + 1) := by
 refine ⟨?_, fun hl => ?_, h.small⟩
 ·have h1 := h.blk.set_ 1 (.int .i64 ((p : Int) + 1))
  have e : ((p + 1 : Nat) : Int) = (p : Int) + 1 := by omega
  rw [e]; exact h1
 obtain ⟨b, off, rfl, hlt, hne, hc⟩ := h.bytes hl
 refine ⟨b, off, rfl, by simpa using hlt, hne, fun k hk => ?_⟩
 obtain ⟨c, hcc⟩ := hc k hk
 exact ⟨c, (World.cell?_setCell_other w ⟨R, 1, none⟩ ⟨b, off + k, none⟩ _ (fun e => hne (by injection e with e1 _; exact e1.symm))).trans hcc⟩
def Cz (R : Nat) (p : Nat) (n : Int) (w : World) (e : Ending) (w' : World) : Prop :=
 ∃ (x : Nat) (m : Nat), e = .returned (.int .i64 x) ∧ (x : Int) < n ∧ w' = (w.setCell ⟨R, 1, none⟩ (.int .i64 ((p : Int) + 1))).drewN m
theorem py (R : Nat) (A : Option Addr) (len cap p : Nat) (n : Nat) (w : World) (h : Rd w R A len cap p) (hn : 1 ≤ n) (hn2 : n ≤ 1000) (hp : p ≤ 1048576) :
  Calls Tryz.prog 90 #[.pointer (some ⟨R, 0, none⟩), .int .i64 n] w (Cz R p n w) := by
 have c0 := h.blk.cell 0
 have c1 := h.blk.cell 1
 have f1 := h.blk.frozen 1
 have g1 : decide ((n : Int) < 1) = false := by simp; omega
 by_cases h0 : len = 0
 ·have g2 : ((len : Int) == 0) = true := by rw [h0]; rfl
  clear h0
  go_enter Tryz.func90, Tryz.ntmps90
  go_wp2_with fail
  go_ret
  exact ⟨0, 0, rfl, by omega, rfl⟩
 ·have g2 : ((len : Int) == 0) = false := by simpa using h0
  have hl : 0 < len := by omega
  obtain ⟨b, off, rfl, hlt, hne, hc⟩ := h.bytes hl
  have hsm := h.small
  clear h0
  by_cases hk : p < len
  ·obtain ⟨c, hcc⟩ := hc p hk
   have hcl : c.toNat < 256 := UInt8.toNat_lt c
   go_enter Tryz.func90, Tryz.ntmps90
   have HX : Hid ((c.toNat : Int) % (n : Int) = ((c.toNat % n : Nat) : Int)) := (Int.natCast_emod _ _).symm
   have HM : Hid (c.toNat % n < n) := Nat.mod_lt _ (by omega)
   go_wp2_with fail
   go_ret
   exact ⟨c.toNat % n, 0, cC HX.out, by have := HM.out; omega, rfl⟩
  ·obtain ⟨c, hcc⟩ := hc (p % len) (Nat.mod_lt _ hl)
   obtain ⟨d, hdd⟩ := hc ((p * 7 + 3) % len) (Nat.mod_lt _ hl)
   have hcl : c.toNat < 256 := UInt8.toNat_lt c
   have hdl : d.toNat < 256 := UInt8.toNat_lt d
   have m1 : p % len < len := Nat.mod_lt _ hl
   have m2 : (p * 7 + 3) % len < len := Nat.mod_lt _ hl
   have q1 : p / len ≤ p := Nat.div_le_self _ _
   have z1 : ¬ (len : Int) = 0 := by omega
   have z2 : (1 : Int) ≤ len := by omega
   have z0 : ¬ len = 0 := by omega
   have e1 : ((p : Int) % (len : Int)).toNat = p % len := by omega
   have e2 : (((p : Int) * 7 + 3) % (len : Int)).toNat = (p * 7 + 3) % len := by
    have e3 : (p : Int) * 7 + 3 = ((p * 7 + 3 : Nat) : Int) := by omega
    rw [e3, ← Int.natCast_emod, Int.toNat_natCast]
   have j1 : 0 ≤ (p : Int) / (len : Int) := Int.ediv_nonneg (by omega) (by omega)
   have j2 : (p : Int) / (len : Int) ≤ (p : Int) := by rw [← Int.natCast_ediv]; omega
   have i1 : 0 ≤ (p : Int) % (len : Int) := Int.emod_nonneg _ (by omega)
   have i2 : (p : Int) % (len : Int) < (len : Int) := Int.emod_lt_of_pos _ (by omega)
   have i3 : 0 ≤ ((p : Int) * 7 + 3) % (len : Int) := Int.emod_nonneg _ (by omega)
   have i4 : ((p : Int) * 7 + 3) % (len : Int) < (len : Int) := Int.emod_lt_of_pos _ (by omega)
   go_enter Tryz.func90, Tryz.ntmps90
   go_wp2_with fail
   go_quiet (fail)
   have hX : 0 ≤ (c.toNat : Int) * 131 + (d.toNat : Int) * 1117 + (p : Int) * 29 + (p : Int) / (len : Int) * 53 ∧ (c.toNat : Int) * 131 + (d.toNat : Int) * 1117 + (p : Int) * 29 + (p : Int) / (len : Int) * 53 < 1000000000 := by omega
   generalize (c.toNat : Int) * 131 + (d.toNat : Int) * 1117 + (p : Int) * 29 + (p : Int) / (len : Int) * 53 = X at hX ⊢
   obtain ⟨hX1, hX2⟩ := hX
   have hX3 : 0 ≤ X / 64 := by omega
   obtain ⟨z, hz, hzb⟩ := wG X (X / 64) hX1 (by omega) hX3 (by omega)
   have HX : Hid ((z : Int) % (n : Int) = ((z % n : Nat) : Int)) := (Int.natCast_emod _ _).symm
   have HM : Hid (z % n < n) := Nat.mod_lt _ (by omega)
   clear e1 e2 i1 i2 i3 i4 j1 j2 m1 m2 q1
   go_wp2_with fail
   go_ret
   exact ⟨z % n, nq, cC HX.out, by have := HM.out; omega, rfl⟩
def EP (R : Nat) (p : Nat) (ls : List ByteArray) (w : World) (e : Ending) (w' : World) : Prop :=
 ∃ (x : Nat) (h : x < ls.length) (m : Nat), e = .returned (.string (ls[x]'h)) ∧ w' = (w.setCell ⟨R, 1, none⟩ (.int .i64 ((p : Int) + 1))).drewN m
theorem EQ (R : Nat) (A : Option Addr) (len cap p L : Nat) (ls : List ByteArray) (w : World) (h : Rd w R A len cap p) (hL : L ≠ R) (hc : ∀ j (h : j < ls.length), w.cell? ⟨L, j, none⟩ = some (.string ls[j])) (h1 : 1 ≤ ls.length) (h2 : ls.length ≤ 1000) (hp : p ≤ 1048576) :
  Calls Tryz.prog 123 #[.pointer (some ⟨R, 0, none⟩), .slice (some ⟨L, 0, none⟩) ls.length ls.length] w (EP R p ls w) := by
 have HC := F7 (py R A len cap p ls.length w h h1 h2 hp)
 have HCC := F7 hc
 clear hc h
 go_enter Tryz.func123, Tryz.ntmps123
 go_wp2_with fail
 refine HC.out.mono ?_
 rintro e w1 ⟨x, m, rfl, hx, rfl⟩
 have hx' : x < ls.length := by omega
 have c0 : ((w.setCell ⟨R, 1, none⟩ (.int .i64 ((p : Int) + 1))).drewN m).cell? ⟨L, x, none⟩ = some (.string (ls[x]'hx')) :=
  (World.cell?_setCell_other w ⟨R, 1, none⟩ ⟨L, x, none⟩ _ (fun e => hL (by injection e with e1 _; exact e1.symm))).trans (HCC.out x hx')
 go_wp2_with fail
 go_ret
 exact ⟨x, hx', m, rfl, rfl⟩
def DW (R : Nat) (p : Nat) (ls : List Int) (w : World) (e : Ending) (w' : World) : Prop :=
 ∃ (x : Nat) (h : x < ls.length) (m : Nat), e = .returned (.int .i64 (ls[x]'h)) ∧ w' = (w.setCell ⟨R, 1, none⟩ (.int .i64 ((p : Int) + 1))).drewN m
theorem DX (R : Nat) (A : Option Addr) (len cap p L : Nat) (ls : List Int) (w : World) (h : Rd w R A len cap p) (hL : L ≠ R) (hc : ∀ j (h : j < ls.length), w.cell? ⟨L, j, none⟩ = some (.int .i64 ls[j])) (h1 : 1 ≤ ls.length) (h2 : ls.length ≤ 1000) (hp : p ≤ 1048576) :
  Calls Tryz.prog 92 #[.pointer (some ⟨R, 0, none⟩), .slice (some ⟨L, 0, none⟩) ls.length ls.length] w (DW R p ls w) := by
 have HC := F7 (py R A len cap p ls.length w h h1 h2 hp)
 have HCC := F7 hc
 clear hc h
 go_enter Tryz.func92, Tryz.ntmps92
 go_wp2_with fail
 refine HC.out.mono ?_
 rintro e w1 ⟨x, m, rfl, hx, rfl⟩
 have hx' : x < ls.length := by omega
 have c0 : ((w.setCell ⟨R, 1, none⟩ (.int .i64 ((p : Int) + 1))).drewN m).cell? ⟨L, x, none⟩ = some (.int .i64 (ls[x]'hx')) :=
  (World.cell?_setCell_other w ⟨R, 1, none⟩ ⟨L, x, none⟩ _ (fun e => hL (by injection e with e1 _; exact e1.symm))).trans (HCC.out x hx')
 go_wp2_with fail
 go_ret
 exact ⟨x, hx', m, rfl, rfl⟩
def CA (w : World) (e : Ending) (w' : World) : Prop :=
 ∃ A len cap, e = .returned (.pointer (some ⟨w.heap.size, 0, none⟩)) ∧ Rd w' w.heap.size A len cap 0 ∧ Below w.heap.size w w'
def Bytes (w : World) (A : Option Addr) (len : Nat) : Prop :=
 0 < len → ∃ b off, A = some ⟨b, off, none⟩ ∧ b < w.heap.size ∧ ∀ k, k < len → ∃ c : UInt8, w.cell? ⟨b, off + k, none⟩ = some (.int .u8 c.toNat)
theorem AL (w : World) (A : Option Addr) (len cap : Nat) (hb : Bytes w A len) (hl : len ≤ 2000) : Rd (w.alloc (.cells #[.slice A len cap, .int .i64 0] 136)) w.heap.size A len cap 0 := by
 refine ⟨Blk.new _ _ _, fun hpos => ?_, hl⟩
 obtain ⟨b, off, rfl, hlt, hc⟩ := hb hpos
 refine ⟨b, off, rfl, by simp; omega, by omega, fun k hk => ?_⟩
 obtain ⟨c, hcc⟩ := hc k hk
 exact ⟨c, (World.cell?_alloc_lt w _ ⟨b, off + k, none⟩ hlt).trans hcc⟩
theorem CC (A : Option Addr) (len cap : Nat) (w : World) (hb : Bytes w A len) (hlc : len ≤ cap) (hl : cap ≤ 9223372036854775807) :
  Calls Tryz.prog 51 #[.slice A len cap] w (CA w) := by
 by_cases h : (2000 : Int) < len
 ·obtain ⟨b, off, rfl, hlt, hc⟩ := hb (by omega)
  have HC := F7 hc
  have h2 : (2000 : Int) ≤ cap := by omega
  clear hc hb
  go_enter Tryz.func51, Tryz.ntmps51
  go_wp2_with fail
  exact bodyPost_ret (v := .pointer (some ⟨w.heap.size, 0, none⟩)) (by simp [results, Tryz.results51, go_sem]) rfl
   ⟨_, 2000, cap, rfl, AL w _ 2000 cap (fun _ => ⟨b, off, rfl, hlt, fun k hk => HC.out k (by omega)⟩) (Nat.le_refl _), (Below.refl _ _).alloc (Nat.le_refl _) _⟩
 ·have HB := F7 hb
  clear hb
  go_enter Tryz.func51, Tryz.ntmps51
  go_wp2_with fail
  exact bodyPost_ret (v := .pointer (some ⟨w.heap.size, 0, none⟩)) (by simp [results, Tryz.results51, go_sem]) rfl
   ⟨A, len, cap, rfl, AL w A len cap HB.out (by omega), (Below.refl _ _).alloc (Nat.le_refl _) _⟩
end Go.Proofs.YtlkfakdghjaoaaaGreatDoor
namespace Go.Proofs.YtlkfakdghjaoaaaGreatDoor
open Go.RowKit Go.Sort
theorem Rd.below {w w' : World} {R : Nat} {A : Option Addr} {len cap p : Nat} (h : Rd w R A len cap p) (hb : Below w.heap.size w w') : Rd w' R A len cap p := by
 refine ⟨h.blk.below hb h.blk.lt, fun hl => ?_, h.small⟩
 obtain ⟨b, off, rfl, hlt, hne, hc⟩ := h.bytes hl
 have := hb.size
 refine ⟨b, off, rfl, by omega, hne, fun k hk => ?_⟩
 obtain ⟨c, hcc⟩ := hc k hk
 exact ⟨c, (hb.cell (p := ⟨b, off + k, none⟩) hlt).trans hcc⟩
def FI (R : Nat) (A : Option Addr) (len cap p n : Nat) (w : World) (e : Ending) (w' : World) : Prop :=
 ∃ x : Nat, e = .returned (.int .i64 x) ∧ x < n ∧ Only R w w' ∧ Rd w' R A len cap (p + 1)
theorem l4 (R : Nat) (A : Option Addr) (len cap p : Nat) (n : Nat) (w : World) (h : Rd w R A len cap p) (hn : 1 ≤ n) (hn2 : n ≤ 1000) (hp : p ≤ 1048576) :
  Calls Tryz.prog 90 #[.pointer (some ⟨R, 0, none⟩), .int .i64 n] w (FI R A len cap p n w) := by
 refine (py R A len cap p n w h hn hn2 hp).mono ?_
 rintro e w' ⟨x, m, rfl, hx, rfl⟩
 exact ⟨x, rfl, by omega, Only.step _ _ _ _, h.next m⟩
def FY (R : Nat) (A : Option Addr) (len cap p : Nat) (ls : List Int) (w : World) (e : Ending) (w' : World) : Prop :=
 ∃ z : Int, e = .returned (.int .i64 z) ∧ z ∈ ls ∧ Only R w w' ∧ Rd w' R A len cap (p + 1)
theorem CD (R : Nat) (A : Option Addr) (len cap p : Nat) (ls : List Int) (w : World) (h : Rd w R A len cap p) (h1 : 1 ≤ ls.length) (h2 : ls.length ≤ 1000) (hp : p ≤ 1048576) :
  Calls Tryz.prog 92 #[.pointer (some ⟨R, 0, none⟩), .slice (some ⟨w.heap.size, 0, none⟩) ls.length ls.length] (w.alloc (.cells (ls.map (Value.int .i64)).toArray 3)) (FY R A len cap p ls w) := by
 have hR := h.blk.lt
 have hr := h.below ((Below.refl w.heap.size w).alloc (Nat.le_refl _) (.cells (ls.map (Value.int .i64)).toArray 3))
 refine (DX R A len cap p w.heap.size ls _ hr (by omega) (fun j hj => ?_) h1 h2 hp).mono ?_
 ·rw [(Blk.new w 3 (ls.map (Value.int .i64)).toArray).cell j]
  simp [hj]
 ·rintro e w' ⟨x, hx, m, rfl, rfl⟩
  exact ⟨_, rfl, List.getElem_mem hx, ((Only.refl R w).alloc _).trans (Only.step _ _ _ _), hr.next m⟩
def F6 (R : Nat) (A : Option Addr) (len cap p : Nat) (ls : List ByteArray) (w : World) (e : Ending) (w' : World) : Prop :=
 ∃ s : ByteArray, e = .returned (.string s) ∧ s ∈ ls ∧ Only R w w' ∧ Rd w' R A len cap (p + 1)
theorem FS (R : Nat) (A : Option Addr) (len cap p : Nat) (ls : List ByteArray) (w : World) (h : Rd w R A len cap p) (h1 : 1 ≤ ls.length) (h2 : ls.length ≤ 1000) (hp : p ≤ 1048576) :
  Calls Tryz.prog 123 #[.pointer (some ⟨R, 0, none⟩), .slice (some ⟨w.heap.size, 0, none⟩) ls.length ls.length] (w.alloc (.cells (ls.map Value.string).toArray 9)) (F6 R A len cap p ls w) := by
 have hR := h.blk.lt
 have hr := h.below ((Below.refl w.heap.size w).alloc (Nat.le_refl _) (.cells (ls.map Value.string).toArray 9))
 refine (EQ R A len cap p w.heap.size ls _ hr (by omega) (fun j hj => ?_) h1 h2 hp).mono ?_
 ·rw [(Blk.new w 9 (ls.map Value.string).toArray).cell j]
  simp [hj]
 ·rintro e w' ⟨x, hx, m, rfl, rfl⟩
  exact ⟨_, rfl, List.getElem_mem hx, ((Only.refl R w).alloc _).trans (Only.step _ _ _ _), hr.next m⟩
end Go.Proofs.YtlkfakdghjaoaaaGreatDoor

set_option maxRecDepth 100000
namespace Go.Proofs.YtlkfakdghjaoaaaGreatDoor
open Go.RowKit Go.Sort
def tb (s : List UInt8) : ByteArray := ⟨s.toArray⟩
theorem ay (s : List UInt8) : (tb s).size = s.length := by show s.toArray.size = _; simp
theorem al (s : List UInt8) : (tb s).toList = s := by rw [Lib.toList_data]; simp [tb]
theorem aA (s : List UInt8) : (tb s).data.toList = s := by simp [tb]
theorem tG (b : ByteArray) : tb b.data.toList = b := by apply aV; rw [aA]
theorem xA (c : UInt8) (s : List UInt8) : (tb (c :: s)).extract 0 1 = tb [c] := by
 apply aV; rw [← Lib.toList_data, Lib.extract_toList, aA, aA]; simp
theorem xB (c : UInt8) (s : List UInt8) : (tb (c :: s)).extract 1 (s.length + 1) = tb s := by
 apply aV; rw [← Lib.toList_data, Lib.extract_toList, aA, aA]; simp
def oL (e : Ending) : Prop := ∃ v, e = .panicked [{ v := .iface 9 (.string v), recovered := false }]
def Rdr (w : World) (R : Nat) (s : List UInt8) (f : Nat) : Prop := Blk w R 143 #[.string (tb s), .int .i64 f]
theorem Rdr.to {w : World} {R : Nat} {s : List UInt8} {f : Nat} (h : Rdr w R s f) (t : List UInt8) : Rdr (w.setCell ⟨R, 0, none⟩ (.string (tb t))) R t f := Blk.set_ h 0 _
theorem Rdr.in_ {w : World} {R : Nat} {s : List UInt8} {f : Nat} (h : Rdr w R s f) (k : Nat) : Rdr (w.setCell ⟨R, 1, none⟩ (.int .i64 k)) R s k := Blk.set_ h 1 _
theorem Rdr.left {w : World} {R : Nat} {s : List UInt8} {f : Nat} (h : Rdr w R s f) : w.cell? ⟨R, 0, none⟩ = some (.string (tb s)) := Blk.cell h 0
theorem Rdr.frames {w : World} {R : Nat} {s : List UInt8} {f : Nat} (h : Rdr w R s f) : w.cell? ⟨R, 1, none⟩ = some (.int .i64 f) := Blk.cell h 1
theorem Only.set (R : Nat) (w : World) (i : Nat) (u : Value) : Only R w (w.setCell ⟨R, i, none⟩ u) :=
 ⟨rfl, rfl, rfl, by simp, fun k hk _ => Below.heap_setCell w ⟨R, i, none⟩ u k hk⟩
theorem j5 (R f : Nat) (w : World) (h : Rdr w R [] f) :
  Calls Tryz.prog 182 #[.pointer (some ⟨R, 0, none⟩)] w fun e w' => oL e ∧ w' = w := by
 have c0 := h.left
 have t1 : ((tb []).toList == ([] : List UInt8)) = true := by rw [al]; rfl
 clear h
 go_enter Tryz.func182, Tryz.ntmps182
 go_wp2_with fail
 exact ⟨rfl, ⟨_, rfl⟩, rfl⟩
theorem dn (R f : Nat) (c : UInt8) (s : List UInt8) (w : World) (h : Rdr w R (c :: s) f) :
  Calls Tryz.prog 182 #[.pointer (some ⟨R, 0, none⟩)] w fun e w' => e = .returned (.string (tb [c])) ∧ w' = w.setCell ⟨R, 0, none⟩ (.string (tb s)) := by
 have c0 := h.left
 have f0 : w.frozen? ⟨R, 0, none⟩ = false := Blk.frozen h 0
 have HT := F7 (xB c s)
 have HH := F7 (xA c s)
 obtain ⟨x, hx⟩ : ∃ x, x = tb (c :: s) := ⟨_, rfl⟩
 have hz : x.size = s.length + 1 := by rw [hx, ay]; rfl
 have t1 : (x.toList == ([] : List UInt8)) = false := by rw [hx, al]; rfl
 rw [← hx] at c0 HT HH
 have l1 : 1 ≤ x.size := by omega
 have l2 : (1 : Int) ≤ (x.size : Int) := by omega
 rw [← hz] at HT
 clear h hx hz
 go_enter Tryz.func182, Tryz.ntmps182
 go_wp2_with fail
 go_ret
 exact ⟨by rw [HH.out]; rfl, by rw [HT.out]⟩
theorem FJ {c x : UInt8} (h : c ≠ x) : ((tb [c]).toList == (tb [x]).toList) = false := by
 rw [al, al]; simpa using h
theorem pz (R f : Nat) (c : UInt8) (s : List UInt8) (w : World) (h : Rdr w R (c :: s) f) :
  Calls Tryz.prog 209 #[.pointer (some ⟨R, 0, none⟩), .string (tb [c])] w fun e w' => e = .returned (.tuple #[]) ∧ w' = w.setCell ⟨R, 0, none⟩ (.string (tb s)) := by
 have HC := F7 (dn R f c s w h)
 have t1 : ((tb [c]).toList == (tb [c]).toList) = true := by simp
 have t2 : ((tb [c]).toList != (tb [c]).toList) = false := by simp
 clear h
 go_enter Tryz.func209, Tryz.ntmps209
 go_wp2_with fail
 refine HC.out.mono ?_
 rintro e w1 ⟨rfl, rfl⟩
 go_wp2_with fail
 first | (go_ret; exact ⟨rfl, rfl⟩) | (go_end0; exact ⟨rfl, rfl⟩) | go_end0
theorem rz (R f : Nat) (x : UInt8) (s : List UInt8) (w : World) (h : Rdr w R s f) (hx : ∀ t, s ≠ x :: t) :
  Calls Tryz.prog 209 #[.pointer (some ⟨R, 0, none⟩), .string (tb [x])] w fun e w' => oL e ∧ Only R w w' := by
 cases s with
 | nil =>
  have HC := F7 (j5 R f w h)
  clear h
  go_enter Tryz.func209, Tryz.ntmps209
  go_wp2_with fail
  refine HC.out.mono ?_
  rintro e w1 ⟨⟨v, rfl⟩, rfl⟩
  go_wp2_with fail
  exact ⟨rfl, ⟨_, rfl⟩, Only.refl _ _⟩
 | cons c t =>
  have HC := F7 (dn R f c t w h)
  have hne : c ≠ x := fun e => hx t (by rw [e])
  have t1 := FJ hne
  clear h hx hne
  go_enter Tryz.func209, Tryz.ntmps209
  go_wp2_with fail
  refine HC.out.mono ?_
  rintro e w1 ⟨rfl, rfl⟩
  go_wp2_with fail
  exact ⟨rfl, ⟨_, rfl⟩, Only.set R w 0 _⟩
theorem D4 (R f : Nat) (w : World) (h : Rdr w R [] f) :
  Calls Tryz.prog 99 #[.pointer (some ⟨R, 0, none⟩)] w fun e w' => e = .returned (.tuple #[]) ∧ w' = w := by
 have c0 := h.left
 have t1 : ((tb []).toList == ([] : List UInt8)) = true := by rw [al]; rfl
 clear h
 go_enter Tryz.func99, Tryz.ntmps99
 go_wp2_with fail
 first | (go_ret; exact ⟨rfl, rfl⟩) | (go_end0; exact ⟨rfl, rfl⟩) | go_end0
theorem ES (R f : Nat) (c : UInt8) (s : List UInt8) (w : World) (h : Rdr w R (c :: s) f) :
  Calls Tryz.prog 99 #[.pointer (some ⟨R, 0, none⟩)] w fun e w' => oL e ∧ w' = w := by
 have c0 := h.left
 have t1 : ((tb (c :: s)).toList == ([] : List UInt8)) = false := by rw [al]; rfl
 clear h
 go_enter Tryz.func99, Tryz.ntmps99
 go_wp2_with fail
 exact ⟨rfl, ⟨_, rfl⟩, rfl⟩
theorem uU (c : UInt8) : eD (tb [c]) = aW c := by
 unfold eD
 rw [ay, aA]; simp
theorem uV (R : Nat) (c : UInt8) (w : World) (hc : aW c = true) :
  Calls Tryz.prog 183 #[.pointer (some ⟨R, 0, none⟩), .string (tb [c])] w fun e w' => e = .returned (.string (tb [c])) ∧ w' = w := by
 have HC := F7 (by have := gB (tb [c]) w; rw [uU, hc] at this; exact this : Calls Tryz.prog 105 #[.string (tb [c])] w fun e w' => e = .returned (.bool true) ∧ w = w')
 go_enter Tryz.func183, Tryz.ntmps183
 go_wp2_with fail
 refine HC.out.mono ?_
 rintro e w1 ⟨rfl, rfl⟩
 go_wp2_with fail
 go_ret
 exact ⟨rfl, rfl⟩
theorem xC (R : Nat) (c : UInt8) (w : World) (hc : aW c = false) :
  Calls Tryz.prog 183 #[.pointer (some ⟨R, 0, none⟩), .string (tb [c])] w fun e w' => oL e ∧ w' = w := by
 have HC := F7 (by have := gB (tb [c]) w; rw [uU, hc] at this; exact this : Calls Tryz.prog 105 #[.string (tb [c])] w fun e w' => e = .returned (.bool false) ∧ w = w')
 go_enter Tryz.func183, Tryz.ntmps183
 go_wp2_with fail
 refine HC.out.mono ?_
 rintro e w1 ⟨rfl, rfl⟩
 go_wp2_with fail
 exact ⟨rfl, ⟨_, rfl⟩, rfl⟩
def rA : List UInt8 := [48, 49, 50, 51, 52, 53, 54, 55, 56, 57]
theorem xD : ∀ n, n < 10 → Lib.indexByte rA (dz n) = (n : Int) := by decide
theorem CE {c : UInt8} (h : c ∈ rA) : ∃ n, n < 10 ∧ c = dz n := by
 unfold rA at h
 simp only [List.mem_cons, List.not_mem_nil, or_false] at h
 rcases h with h | h | h | h | h | h | h | h | h | h
 ·exact ⟨0, by decide, h⟩
 ·exact ⟨1, by decide, h⟩
 ·exact ⟨2, by decide, h⟩
 ·exact ⟨3, by decide, h⟩
 ·exact ⟨4, by decide, h⟩
 ·exact ⟨5, by decide, h⟩
 ·exact ⟨6, by decide, h⟩
 ·exact ⟨7, by decide, h⟩
 ·exact ⟨8, by decide, h⟩
 ·exact ⟨9, by decide, h⟩
theorem CF (c : UInt8) (W : World) : Calls Tryz.prog 107 #[.string ⟨#[48, 49, 50, 51, 52, 53, 54, 55, 56, 57]⟩, .string (tb [c])] W fun e w' => e = .returned (.int .i64 (Lib.indexByte rA c)) ∧ w' = W :=
 Tryz.strings_Index_one ⟨#[48, 49, 50, 51, 52, 53, 54, 55, 56, 57]⟩ c W
theorem sA (R f n lim : Nat) (s : List UInt8) (w : World) (h : Rdr w R (dz n :: s) f) (h10 : n < 10) (hl : n < lim) :
  Calls Tryz.prog 186 #[.pointer (some ⟨R, 0, none⟩), .int .i64 lim] w fun e w' => e = .returned (.int .i64 n) ∧ w' = w.setCell ⟨R, 0, none⟩ (.string (tb s)) := by
 have HC := F7 (dn R f (dz n) s w h)
 have HI := F7 (fun W => (by have := Tryz.strings_Index_one ⟨#[48, 49, 50, 51, 52, 53, 54, 55, 56, 57]⟩ (dz n) W; rw [show Lib.indexByte (⟨#[48, 49, 50, 51, 52, 53, 54, 55, 56, 57]⟩ : ByteArray).data.toList (dz n) = (n : Int) from xD n h10] at this; exact this : Calls Tryz.prog 107 #[.string ⟨#[48, 49, 50, 51, 52, 53, 54, 55, 56, 57]⟩, .string (tb [dz n])] W fun e w' => e = .returned (.int .i64 n) ∧ w' = W))
 have q1 : decide ((lim : Int) ≤ (n : Int)) = false := decide_eq_false (by omega)
 have q2 : ¬ lim ≤ n := by omega
 clear h
 go_enter Tryz.func186, Tryz.ntmps186
 go_wp2_with fail
 refine HC.out.mono ?_
 rintro e w1 ⟨rfl, rfl⟩
 go_wp2_with fail
 refine (HI.out _).mono ?_
 rintro e w2 ⟨rfl, rfl⟩
 go_wp2_with fail
 go_ret
 exact ⟨rfl, rfl⟩
theorem uW (R f lim : Nat) (s : List UInt8) (w : World) (h : Rdr w R s f) (hx : ∀ n t, n < 10 → n < lim → s ≠ dz n :: t) :
  Calls Tryz.prog 186 #[.pointer (some ⟨R, 0, none⟩), .int .i64 lim] w fun e w' => oL e ∧ Only R w w' := by
 cases s with
 | nil =>
  have HC := F7 (j5 R f w h)
  clear h
  go_enter Tryz.func186, Tryz.ntmps186
  go_wp2_with fail
  refine HC.out.mono ?_
  rintro e w1 ⟨⟨v, rfl⟩, rfl⟩
  go_wp2_with fail
  exact ⟨rfl, ⟨_, rfl⟩, Only.refl _ _⟩
 | cons c t =>
  have HC := F7 (dn R f c t w h)
  have HI := F7 (fun W => CF c W)
  clear h
  by_cases hm : c ∈ rA
  ·obtain ⟨n, hn, rfl⟩ := CE hm
   have hl : ¬ n < lim := fun hl => hx n t hn hl rfl
   rw [xD n hn] at HI
   have q1 : decide ((lim : Int) ≤ (n : Int)) = true := decide_eq_true (by omega)
   have q2 : lim ≤ n := by omega
   clear hx hm
   go_enter Tryz.func186, Tryz.ntmps186
   go_wp2_with fail
   refine HC.out.mono ?_
   rintro e w1 ⟨rfl, rfl⟩
   go_wp2_with fail
   refine (HI.out _).mono ?_
   rintro e w2 ⟨rfl, rfl⟩
   go_wp2_with fail
   exact ⟨rfl, ⟨_, rfl⟩, Only.set R w 0 _⟩
  ·have hneg := rf.2 hm
   obtain ⟨z, hz⟩ : ∃ z, z = Lib.indexByte rA c := ⟨_, rfl⟩
   rw [← hz] at HI hneg
   have q1 : decide (z < 0) = true := decide_eq_true hneg
   clear hx hm hz
   go_enter Tryz.func186, Tryz.ntmps186
   go_wp2_with fail
   refine HC.out.mono ?_
   rintro e w1 ⟨rfl, rfl⟩
   go_wp2_with fail
   refine (HI.out _).mono ?_
   rintro e w2 ⟨rfl, rfl⟩
   go_wp2_with fail
   exact ⟨rfl, ⟨_, rfl⟩, Only.set R w 0 _⟩
end Go.Proofs.YtlkfakdghjaoaaaGreatDoor
namespace Go.Proofs.YtlkfakdghjaoaaaGreatDoor
open Go.RowKit Go.Sort
def Reads (w : World) (P : Nat → Prop) (v : Value) (vs : List Value) : Prop :=
 ∃ A cap, v = .slice A vs.length cap ∧ (0 < vs.length → ∃ b off, A = some ⟨b, off, none⟩ ∧ b < w.heap.size ∧ P b ∧ ∀ k (h : k < vs.length), w.cell? ⟨b, off + k, none⟩ = some vs[k])
mutual
def ItemAt (w : World) (P : Nat → Prop) : It → Value → Prop
 | .blk c, v => v = .iface 152 (.agg #[.string (tb [c])])
 | .ask c l r, v => ∃ vl vr xs ys, v = .iface 154 (.agg #[.string (tb [c]), vl, vr]) ∧ Reads w P vl xs ∧ AllAt w P l xs ∧ Reads w P vr ys ∧ AllAt w P r ys
 | .stop, v => v = .iface 248 (.agg #[])
 | .frame b l, v => ∃ vl xs, v = .iface 147 (.agg #[.bool b, vl]) ∧ Reads w P vl xs ∧ AllAt w P l xs
 | .leave n, v => v = .iface 218 (.agg #[.int .i64 n])
 | .set n, v => v = .iface 220 (.agg #[.int .i64 n])
 | .pick bs, v => ∃ vb xs, v = .iface 222 (.agg #[vb]) ∧ Reads w P vb xs ∧ AllRows w P bs xs
def AllAt (w : World) (P : Nat → Prop) : List It → List Value → Prop
 | [], vs => vs = []
 | i :: l, vs => ∃ v t, vs = v :: t ∧ ItemAt w P i v ∧ AllAt w P l t
def AllRows (w : World) (P : Nat → Prop) : List (List It) → List Value → Prop
 | [], vs => vs = []
 | b :: bs, vs => ∃ v t xs, vs = v :: t ∧ Reads w P v xs ∧ AllAt w P b xs ∧ AllRows w P bs t
end
def RowAt (w : World) (P : Nat → Prop) (l : List It) (v : Value) : Prop := ∃ xs, Reads w P v xs ∧ AllAt w P l xs
def RowsAt (w : World) (P : Nat → Prop) (bs : List (List It)) (v : Value) : Prop := ∃ xs, Reads w P v xs ∧ AllRows w P bs xs
structure Stay (w : World) (P : Nat → Prop) (w' : World) (P' : Nat → Prop) : Prop where
 size : w.heap.size ≤ w'.heap.size
 same : ∀ b, b < w.heap.size → P b → P' b ∧ w'.heap[b]? = w.heap[b]?
theorem eM {w w' : World} {b : Nat} (h : w'.heap[b]? = w.heap[b]?) (o : Nat) : w'.cell? ⟨b, o, none⟩ = w.cell? ⟨b, o, none⟩ := by
 unfold World.cell?
 rw [h]
theorem Reads.stay {w w' : World} {P P' : Nat → Prop} {v : Value} {vs : List Value} (h : Reads w P v vs) (k : Stay w P w' P') : Reads w' P' v vs := by
 obtain ⟨A, cap, e, hc⟩ := h
 refine ⟨A, cap, e, fun hl => ?_⟩
 obtain ⟨b, off, e2, hb, hp, hcell⟩ := hc hl
 obtain ⟨hp', hs⟩ := k.same b hb hp
 exact ⟨b, off, e2, Nat.lt_of_lt_of_le hb k.size, hp', fun j hj => (eM hs _).trans (hcell j hj)⟩
mutual
theorem ItemAt.stay {w w' : World} {P P' : Nat → Prop} (k : Stay w P w' P') : ∀ (i : It) (v : Value), ItemAt w P i v → ItemAt w' P' i v
 | .blk c, v, h => by rw [ItemAt] at h ⊢; exact h
 | .ask c l r, v, h => by
  rw [ItemAt] at h ⊢
  obtain ⟨vl, vr, xs, ys, e, h1, h2, h3, h4⟩ := h
  exact ⟨vl, vr, xs, ys, e, h1.stay k, AllAt.stay k l xs h2, h3.stay k, AllAt.stay k r ys h4⟩
 | .stop, v, h => by rw [ItemAt] at h ⊢; exact h
 | .frame b l, v, h => by
  rw [ItemAt] at h ⊢
  obtain ⟨vl, xs, e, h1, h2⟩ := h
  exact ⟨vl, xs, e, h1.stay k, AllAt.stay k l xs h2⟩
 | .leave n, v, h => by rw [ItemAt] at h ⊢; exact h
 | .set n, v, h => by rw [ItemAt] at h ⊢; exact h
 | .pick bs, v, h => by
  rw [ItemAt] at h ⊢
  obtain ⟨vb, xs, e, h1, h2⟩ := h
  exact ⟨vb, xs, e, h1.stay k, AllRows.stay k bs xs h2⟩
theorem AllAt.stay {w w' : World} {P P' : Nat → Prop} (k : Stay w P w' P') : ∀ (l : List It) (vs : List Value), AllAt w P l vs → AllAt w' P' l vs
 | [], vs, h => by rw [AllAt] at h ⊢; exact h
 | i :: l, vs, h => by
  rw [AllAt] at h ⊢
  obtain ⟨v, t, e, h1, h2⟩ := h
  exact ⟨v, t, e, ItemAt.stay k i v h1, AllAt.stay k l t h2⟩
theorem AllRows.stay {w w' : World} {P P' : Nat → Prop} (k : Stay w P w' P') : ∀ (bs : List (List It)) (vs : List Value), AllRows w P bs vs → AllRows w' P' bs vs
 | [], vs, h => by rw [AllRows] at h ⊢; exact h
 | b :: bs, vs, h => by
  rw [AllRows] at h ⊢
  obtain ⟨v, t, xs, e, h1, h2, h3⟩ := h
  exact ⟨v, t, xs, e, h1.stay k, AllAt.stay k b xs h2, AllRows.stay k bs t h3⟩
end
theorem RowAt.stay {w w' : World} {P P' : Nat → Prop} {l : List It} {v : Value} (h : RowAt w P l v) (k : Stay w P w' P') : RowAt w' P' l v := by
 obtain ⟨xs, h1, h2⟩ := h
 exact ⟨xs, h1.stay k, AllAt.stay k l xs h2⟩
theorem RowsAt.stay {w w' : World} {P P' : Nat → Prop} {bs : List (List It)} {v : Value} (h : RowsAt w P bs v) (k : Stay w P w' P') : RowsAt w' P' bs v := by
 obtain ⟨xs, h1, h2⟩ := h
 exact ⟨xs, h1.stay k, AllRows.stay k bs xs h2⟩
theorem AllAt.len {w : World} {P : Nat → Prop} : ∀ {l : List It} {vs : List Value}, AllAt w P l vs → vs.length = l.length
 | [], vs, h => by rw [AllAt] at h; rw [h]; rfl
 | i :: l, vs, h => by rw [AllAt] at h; obtain ⟨v, t, e, _, h2⟩ := h; rw [e, List.length_cons, List.length_cons, h2.len]
theorem AllRows.len {w : World} {P : Nat → Prop} : ∀ {l : List (List It)} {vs : List Value}, AllRows w P l vs → vs.length = l.length
 | [], vs, h => by rw [AllRows] at h; rw [h]; rfl
 | i :: l, vs, h => by rw [AllRows] at h; obtain ⟨v, t, xs, e, _, _, h2⟩ := h; rw [e, List.length_cons, List.length_cons, h2.len]
theorem AllAt.nil (w : World) (P : Nat → Prop) : AllAt w P [] [] := by rw [AllAt]
theorem AllAt.snoc {w : World} {P : Nat → Prop} {i : It} {v : Value} (hi : ItemAt w P i v) : ∀ {l : List It} {vs : List Value}, AllAt w P l vs → AllAt w P (l ++ [i]) (vs ++ [v])
 | [], vs, h => by rw [AllAt] at h; rw [h, List.nil_append, List.nil_append, AllAt]; exact ⟨v, [], rfl, hi, AllAt.nil w P⟩
 | j :: l, vs, h => by
  rw [AllAt] at h
  obtain ⟨u, t, e, h1, h2⟩ := h
  rw [e, List.cons_append, List.cons_append, AllAt]
  exact ⟨u, t ++ [v], rfl, h1, AllAt.snoc hi h2⟩
theorem AllRows.nil (w : World) (P : Nat → Prop) : AllRows w P [] [] := by rw [AllRows]
theorem AllRows.snoc {w : World} {P : Nat → Prop} {b : List It} {v : Value} (hb : RowAt w P b v) : ∀ {l : List (List It)} {vs : List Value}, AllRows w P l vs → AllRows w P (l ++ [b]) (vs ++ [v])
 | [], vs, h => by
  obtain ⟨xs, h1, h2⟩ := hb
  rw [AllRows] at h; rw [h, List.nil_append, List.nil_append, AllRows]; exact ⟨v, [], xs, rfl, h1, h2, AllRows.nil w P⟩
 | j :: l, vs, h => by
  rw [AllRows] at h
  obtain ⟨u, t, xs, e, h1, h2, h3⟩ := h
  rw [e, List.cons_append, List.cons_append, AllRows]
  exact ⟨u, t ++ [v], xs, rfl, h1, h2, AllRows.snoc hb h3⟩
theorem gw {w : World} {base : Nat} {e : TypeId} {v : Value} {n : Nat} {xs : List Value} (h : w.ownsRow base e 1 v n xs) (hn : n = xs.length) : Reads w (fun b => base ≤ b) v xs := by
 rcases h.2 with ⟨rfl, h0⟩ | ⟨gb, cap, cur, hv, hb, hg, _⟩
 ·exact ⟨none, 0, by rw [← hn, h0], fun hpos => absurd hpos (by omega)⟩
 ·subst hv
  subst hn
  refine ⟨_, _, rfl, fun _ => ⟨gb, 0, rfl, ?_, hb, fun j hj => ?_⟩⟩
  ·rcases Nat.lt_or_ge gb w.heap.size with h' | h'
   ·exact h'
   ·rw [Array.getElem?_eq_none h'] at hg; cases hg
  ·have hc := h.cellAt j (by omega)
   rw [List.getElem?_eq_getElem hj] at hc
   rw [Nat.zero_add]; exact hc
end Go.Proofs.YtlkfakdghjaoaaaGreatDoor
namespace Go.Proofs.YtlkfakdghjaoaaaGreatDoor
open Go.RowKit Go.Sort
abbrev aZ (w : World) : Nat → Prop := fun b => w.heap.size ≤ b
def AN (R f : Nat) (s : List UInt8) (w : World) (e : Ending) (w' : World) : Prop :=
 (∃ l r v, RdL f s l r ∧ e = .returned v ∧ v.oneCell' = true ∧ RowAt w' (aZ w) l v ∧ Rdr w' R r f ∧ Only R w w') ∨ (oL e ∧ Bj f s ∧ Only R w w')
def eA (R f : Nat) (s : List UInt8) (w : World) (e : Ending) (w' : World) : Prop :=
 (∃ i r v, RdI f s i r ∧ e = .returned v ∧ v.oneCell' = true ∧ ItemAt w' (aZ w) i v ∧ Rdr w' R r f ∧ Only R w w') ∨ (oL e ∧ dr f s ∧ Only R w w')
def ET (R f : Nat) (s : List UInt8) (w : World) (e : Ending) (w' : World) : Prop :=
 (∃ l r v, RdB f s l r ∧ e = .returned v ∧ v.oneCell' = true ∧ RowAt w' (aZ w) l v ∧ Rdr w' R r f ∧ Only R w w') ∨ (oL e ∧ sP f s ∧ Only R w w')
def fg (n : Nat) : Prop := ∀ (R f : Nat) (s : List UInt8) (w : World), s.length ≤ n → f ≤ 9 → Rdr w R s f →
 Calls Tryz.prog 98 #[.pointer (some ⟨R, 0, none⟩)] w (AN R f s w)
theorem Rdr.lt {w : World} {R : Nat} {s : List UInt8} {f : Nat} (h : Rdr w R s f) : R < w.heap.size := Blk.lt h
theorem gl {w w1 : World} {R : Nat} (hR : R < w.heap.size) (i : Nat) (u : Value) : Stay w1 (aZ w) (w1.setCell ⟨R, i, none⟩ u) (aZ w) :=
 ⟨by simp, fun b hb hp => ⟨hp, Below.heap_setCell w1 ⟨R, i, none⟩ u b (by show b ≠ R; have : w.heap.size ≤ b := hp; omega)⟩⟩
theorem eq {w : World} (R i : Nat) (u : Value) : aZ (w.setCell ⟨R, i, none⟩ u) = aZ w := by
 funext b; unfold aZ; simp
theorem ky (n : Nat) (HI : fg n) (R f : Nat) (s : List UInt8) (w : World) (hs : s.length ≤ n + 1) (hf : f ≤ 9) (h : Rdr w R s f) :
  Calls Tryz.prog 184 #[.pointer (some ⟨R, 0, none⟩)] w (ET R f s w) := by
 have HIX := F7 HI
 clear HI
 by_cases hb : ∃ t, s = 91 :: t
 ·obtain ⟨t, rfl⟩ := hb
  have HN := F7 (pz R f 91 t w h)
  have HT := F7 (HIX.out R f t _ (by simpa using hs) hf (h.to t))
  have hR := h.lt
  clear h
  go_enter Tryz.func184, Tryz.ntmps184
  go_wp2_with fail
  refine HN.out.mono ?_
  rintro e w1 ⟨rfl, rfl⟩
  go_wp2_with fail
  refine HT.out.mono ?_
  rintro e w2 (⟨l, r, v, hl, rfl, h1c, hrow, hr, ho⟩ | ⟨⟨u, rfl⟩, hno, ho⟩)
  ·have HL := F7 hl
   have HROW := F7 hrow
   have HO := F7 ho
   have H1 := F7 h1c
   by_cases hr93 : ∃ q, r = 93 :: q
   ·obtain ⟨q, rfl⟩ := hr93
    have HN2 := F7 (pz R f 93 q w2 hr)
    have HR2 := F7 (hr.to q)
    clear hl hrow ho hr h1c
    go_wp2_with fail
    refine HN2.out.mono ?_
    rintro e w3 ⟨rfl, rfl⟩
    go_wp2_with fail
    go_ret
    refine .inl ⟨l, q, v, Fi HL.out, rfl, H1.out, ?_, HR2.out, ((Only.set R w 0 _).trans HO.out).trans (Only.set R w2 0 _)⟩
    have := HROW.out
    rw [eq] at this
    exact this.stay (gl hR 0 _)
   ·have HN2 := F7 (rz R f 93 r w2 hr fun q e => hr93 ⟨q, e⟩)
    have HNO := F7 (Eo hl fun q e => hr93 ⟨q, e⟩)
    clear hl hrow ho hr h1c hr93
    go_wp2_with fail
    refine HN2.out.mono ?_
    rintro e w3 ⟨⟨u, rfl⟩, ho3⟩
    go_wp2_with fail
    exact ⟨rfl, .inr ⟨⟨_, rfl⟩, HNO.out, ((Only.set R w 0 _).trans HO.out).trans ho3⟩⟩
  ·go_wp2_with fail
   exact ⟨rfl, .inr ⟨⟨_, rfl⟩, Bk hno, (Only.set R w 0 _).trans ho⟩⟩
 ·have HN := F7 (rz R f 91 s w h fun t e => hb ⟨t, e⟩)
  have HNO := F7 (Fj (f := f) fun t e => hb ⟨t, e⟩)
  clear h hb
  go_enter Tryz.func184, Tryz.ntmps184
  go_wp2_with fail
  refine HN.out.mono ?_
  rintro e w1 ⟨⟨u, rfl⟩, ho⟩
  go_wp2_with fail
  exact ⟨rfl, .inr ⟨⟨_, rfl⟩, HNO.out, ho⟩⟩
def EU (R f : Nat) (b : Bool) (s : List UInt8) (w : World) (e : Ending) (w' : World) : Prop :=
 (∃ l r v, f < 9 ∧ RdL (f + 1) s l (fC b :: r) ∧ e = .returned v ∧ v.oneCell' = true ∧ RowAt w' (aZ w) l v ∧ Rdr w' R r f ∧ Only R w w') ∨ (oL e ∧ dr f (et b :: s) ∧ Only R w w')
theorem sB (n : Nat) (HI : fg n) (R f : Nat) (b : Bool) (s : List UInt8) (w : World) (hs : s.length ≤ n) (hf : f ≤ 9) (h : Rdr w R s f) :
  Calls Tryz.prog 185 #[.pointer (some ⟨R, 0, none⟩), .string (tb [fC b])] w (EU R f b s w) := by
 have c1 := h.frames
 have f1 : w.frozen? ⟨R, 1, none⟩ = false := Blk.frozen h 1
 by_cases h9 : f = 9
 ·have t1 : ((f : Int) == 9) = true := by subst h9; rfl
  have HNO := F7 (lq b (t := s) (by omega : 9 ≤ f))
  clear HI h h9
  go_enter Tryz.func185, Tryz.ntmps185
  go_wp2_with fail
  exact ⟨rfl, .inr ⟨⟨_, rfl⟩, HNO.out, Only.refl _ _⟩⟩
 ·have t1 : ((f : Int) == 9) = false := beq_eq_false_iff_ne.2 (by omega)
  have hi := h.in_ (f + 1)
  have e1 : ((f + 1 : Nat) : Int) = (f : Int) + 1 := by omega
  rw [e1] at hi
  have HT := F7 (HI R (f + 1) s _ hs (by omega) hi)
  have hR := h.lt
  have s2 : IntKind.i64.wrap ((f : Int) + 1 - 1) = (f : Int) := by rw [show (f : Int) + 1 - 1 = (f : Int) by omega]; exact IntWalk.i64_in _ (by omega)
  clear HI h hi
  go_enter Tryz.func185, Tryz.ntmps185
  go_wp2_with fail
  refine HT.out.mono ?_
  rintro e w2 (⟨l, r, v, hl, rfl, h1c, hrow, hr, ho⟩ | ⟨⟨u, rfl⟩, hno, ho⟩)
  ·have d1 := hr.frames
   have g1 : w2.frozen? ⟨R, 1, none⟩ = false := Blk.frozen hr 1
   have hr2 := hr.in_ f
   have HL := F7 hl
   have HROW := F7 hrow
   have HO := F7 ho
   have H1 := F7 h1c
   rw [e1] at d1
   by_cases hrc : ∃ q, r = fC b :: q
   ·obtain ⟨q, rfl⟩ := hrc
    have HN2 := F7 (pz R f (fC b) q _ hr2)
    have HR2 := F7 (hr2.to q)
    clear hl hrow ho hr hr2 h1c
    go_wp2_with fail
    refine HN2.out.mono ?_
    rintro e w3 ⟨rfl, rfl⟩
    go_wp2_with fail
    go_ret
    refine .inl ⟨l, q, v, by omega, HL.out, rfl, H1.out, ?_, HR2.out, (((Only.set R w 1 _).trans HO.out).trans (Only.set R w2 1 _)).trans (Only.set R _ 0 _)⟩
    have := HROW.out
    rw [eq] at this
    exact (this.stay (gl hR 1 _)).stay (gl hR 0 _)
   ·have HN2 := F7 (rz R f (fC b) r _ hr2 fun q e => hrc ⟨q, e⟩)
    have HNO := F7 (tD b hl fun q e => hrc ⟨q, e⟩)
    clear hl hrow ho hr hr2 h1c hrc
    go_wp2_with fail
    refine HN2.out.mono ?_
    rintro e w3 ⟨⟨u, rfl⟩, ho3⟩
    go_wp2_with fail
    exact ⟨rfl, .inr ⟨⟨_, rfl⟩, HNO.out, (((Only.set R w 1 _).trans HO.out).trans (Only.set R w2 1 _)).trans ho3⟩⟩
  ·go_wp2_with fail
   exact ⟨rfl, .inr ⟨⟨_, rfl⟩, Bp b hno, (Only.set R w 1 _).trans ho⟩⟩
end Go.Proofs.YtlkfakdghjaoaaaGreatDoor

namespace Go.Proofs.YtlkfakdghjaoaaaGreatDoor
structure RSt where
 left : List UInt8
 trace : List UInt8
 num : Nat
 idle : Nat
def RSt.step (s : RSt) : RSt := { s with idle := s.idle + 1 }
def RSt.blk (s : RSt) (c : UInt8) : RSt := { s with trace := s.trace ++ [c], idle := 0 }
inductive ROut
 | next (s : RSt)
 | leave (n : Nat) (s : RSt)
 | fin (e : Nat) (t : List UInt8) (m : Nat)
inductive Tk
 | l (l : List It)
 | i (i : It)
 | f (b : Bool) (l : List It)
def run : Nat → Tk → RSt → Option ROut
 | 0, _, _ => none
 | _ + 1, .l [], s => some (.next s)
 | N + 1, .l (i :: l), s => if s.idle = 4000 then some (.fin 2 s.trace s.num) else
   match run N (.i i) s.step with
   | some (.next s') => run N (.l l) s'
   | r => r
 | _ + 1, .i (.blk c), s => if s.trace.length = 60 then some (.fin 2 s.trace s.num) else some (.next (s.blk c))
 | N + 1, .i (.ask c l r), s => if s.trace.length = 60 then some (.fin 2 s.trace s.num) else
   match s.left with
   | [] => some (.fin 1 (s.blk c).trace s.num)
   | x :: t => run N (.l (if x = 108 then l else r)) { s.blk c with left := t }
 | _ + 1, .i .stop, s => some (.fin 0 s.trace s.num)
 | N + 1, .i (.frame b l), s => run N (.f b l) s
 | _ + 1, .i (.leave n), s => some (.leave n s)
 | _ + 1, .i (.set n), s => some (.next { s with num := n })
 | N + 1, .i (.pick bs), s => match bs[s.num]? with
   | some b => run N (.l b) s
   | none => some (.next s)
 | N + 1, .f b l, s => match run N (.l l) s with
   | some (.leave 0 s') => if b = true then (if s'.idle = 4000 then some (.fin 2 s'.trace s'.num) else run N (.f b l) s'.step) else some (.next s')
   | some (.leave (n + 1) s') => some (.leave n s')
   | r => r
theorem CJ : ∀ (N : Nat) (t : Tk) (s : RSt) (o : ROut), run N t s = some o → run (N + 1) t s = some o := by
 intro N
 induction N with
 | zero => intro t s o h; cases h
 | succ N ih =>
  intro t s o h
  match t, h with
  | .l [], h => exact h
  | .l (i :: l), h =>
   rw [run] at h ⊢
   split at h
   ·rename_i hi; rw [if_pos hi]; exact h
   ·rename_i hi
    rw [if_neg hi]
    cases hr : run N (.i i) s.step with
    | none => rw [hr] at h; cases h
    | some r =>
     rw [ih _ _ _ hr]
     rw [hr] at h
     cases r with
     | next s' => exact ih _ _ _ h
     | leave n s' => exact h
     | fin e t m => exact h
  | .i (.blk c), h => exact h
  | .i (.ask c l r), h =>
   rw [run] at h ⊢
   split at h
   ·rename_i hi; rw [if_pos hi]; exact h
   ·rename_i hi
    rw [if_neg hi]
    cases hl : s.left with
    | nil => rw [hl] at h; exact h
    | cons x t => rw [hl] at h; exact ih _ _ _ h
  | .i .stop, h => exact h
  | .i (.frame b l), h => rw [run] at h ⊢; exact ih _ _ _ h
  | .i (.leave n), h => exact h
  | .i (.set n), h => exact h
  | .i (.pick bs), h =>
   rw [run] at h ⊢
   cases hb : bs[s.num]? with
   | none => rw [hb] at h; exact h
   | some b => rw [hb] at h; exact ih _ _ _ h
  | .f b l, h =>
   rw [run] at h ⊢
   cases hr : run N (.l l) s with
   | none => rw [hr] at h; cases h
   | some r =>
    rw [ih _ _ _ hr]
    rw [hr] at h
    cases r with
    | next s' => exact h
    | fin e t m => exact h
    | leave n s' =>
     cases n with
     | succ n => exact h
     | zero =>
      simp only at h ⊢
      split at h
      ·rename_i hb
       rw [if_pos hb]
       split at h
       ·rename_i hi; rw [if_pos hi]; exact h
       ·rename_i hi; rw [if_neg hi]; exact ih _ _ _ h
      ·rename_i hb; rw [if_neg hb]; exact h
theorem k8 {N K : Nat} (hk : N ≤ K) {t : Tk} {s : RSt} {o : ROut} (h : run N t s = some o) : run K t s = some o := by
 obtain ⟨d, rfl⟩ := Nat.le.dest hk
 clear hk
 induction d with
 | zero => exact h
 | succ d ih => exact CJ _ _ _ _ ih
def Runs (t : Tk) (s : RSt) (o : ROut) : Prop := ∃ N, run N t s = some o
theorem Runs.uniq {t : Tk} {s : RSt} {o o' : ROut} (h : Runs t s o) (h' : Runs t s o') : o = o' := by
 obtain ⟨N, h⟩ := h
 obtain ⟨K, h'⟩ := h'
 have h1 := k8 (Nat.le_max_left N K) h
 have h2 := k8 (Nat.le_max_right N K) h'
 rw [h1] at h2
 exact Option.some.inj h2
theorem Runs.nil (s : RSt) : Runs (.l []) s (.next s) := ⟨1, rfl⟩
theorem Runs.long {i : It} {l : List It} {s : RSt} (h : s.idle = 4000) : Runs (.l (i :: l)) s (.fin 2 s.trace s.num) := ⟨1, by rw [run, if_pos h]⟩
theorem Runs.cons {i : It} {l : List It} {s s' : RSt} {o : ROut} (h : s.idle ≠ 4000) (h1 : Runs (.i i) s.step (.next s')) (h2 : Runs (.l l) s' o) : Runs (.l (i :: l)) s o := by
 obtain ⟨N, h1⟩ := h1
 obtain ⟨K, h2⟩ := h2
 refine ⟨max N K + 1, ?_⟩
 rw [run, if_neg h, k8 (Nat.le_max_left N K) h1]
 exact k8 (Nat.le_max_right N K) h2
theorem Runs.cons_leave {i : It} {l : List It} {s s' : RSt} {n : Nat} (h : s.idle ≠ 4000) (h1 : Runs (.i i) s.step (.leave n s')) : Runs (.l (i :: l)) s (.leave n s') := by
 obtain ⟨N, h1⟩ := h1
 exact ⟨N + 1, by rw [run, if_neg h, h1]⟩
theorem Runs.cons_fin {i : It} {l : List It} {s : RSt} {e : Nat} {t : List UInt8} {m : Nat} (h : s.idle ≠ 4000) (h1 : Runs (.i i) s.step (.fin e t m)) : Runs (.l (i :: l)) s (.fin e t m) := by
 obtain ⟨N, h1⟩ := h1
 exact ⟨N + 1, by rw [run, if_neg h, h1]⟩
theorem Runs.blk {c : UInt8} {s : RSt} (h : s.trace.length ≠ 60) : Runs (.i (.blk c)) s (.next (s.blk c)) := ⟨1, by rw [run, if_neg h]⟩
theorem Runs.blkLong {c : UInt8} {s : RSt} (h : s.trace.length = 60) : Runs (.i (.blk c)) s (.fin 2 s.trace s.num) := ⟨1, by rw [run, if_pos h]⟩
theorem Runs.askLong {c : UInt8} {l r : List It} {s : RSt} (h : s.trace.length = 60) : Runs (.i (.ask c l r)) s (.fin 2 s.trace s.num) := ⟨1, by rw [run, if_pos h]⟩
theorem Runs.askNone {c : UInt8} {l r : List It} {s : RSt} (h : s.trace.length ≠ 60) (hl : s.left = []) : Runs (.i (.ask c l r)) s (.fin 1 (s.blk c).trace s.num) := ⟨1, by rw [run, if_neg h, hl]⟩
theorem Runs.ask {c x : UInt8} {l r : List It} {s : RSt} {t : List UInt8} {o : ROut} (h : s.trace.length ≠ 60) (hl : s.left = x :: t) (h1 : Runs (.l (if x = 108 then l else r)) { s.blk c with left := t } o) : Runs (.i (.ask c l r)) s o := by
 obtain ⟨N, h1⟩ := h1
 exact ⟨N + 1, by rw [run, if_neg h, hl]; exact h1⟩
theorem Runs.stop (s : RSt) : Runs (.i .stop) s (.fin 0 s.trace s.num) := ⟨1, rfl⟩
theorem Runs.leave (n : Nat) (s : RSt) : Runs (.i (.leave n)) s (.leave n s) := ⟨1, rfl⟩
theorem Runs.set (n : Nat) (s : RSt) : Runs (.i (.set n)) s (.next { s with num := n }) := ⟨1, rfl⟩
theorem Runs.frame {b : Bool} {l : List It} {s : RSt} {o : ROut} (h : Runs (.f b l) s o) : Runs (.i (.frame b l)) s o := by
 obtain ⟨N, h⟩ := h
 exact ⟨N + 1, by rw [run]; exact h⟩
theorem Runs.pick {bs : List (List It)} {b : List It} {s : RSt} {o : ROut} (hb : bs[s.num]? = some b) (h : Runs (.l b) s o) : Runs (.i (.pick bs)) s o := by
 obtain ⟨N, h⟩ := h
 exact ⟨N + 1, by rw [run, hb]; exact h⟩
theorem Runs.pickNone {bs : List (List It)} {s : RSt} (hb : bs[s.num]? = none) : Runs (.i (.pick bs)) s (.next s) := ⟨1, by rw [run, hb]⟩
theorem Runs.f_next {b : Bool} {l : List It} {s s' : RSt} (h : Runs (.l l) s (.next s')) : Runs (.f b l) s (.next s') := by
 obtain ⟨N, h⟩ := h
 exact ⟨N + 1, by rw [run, h]⟩
theorem Runs.f_fin {b : Bool} {l : List It} {s : RSt} {e : Nat} {t : List UInt8} {m : Nat} (h : Runs (.l l) s (.fin e t m)) : Runs (.f b l) s (.fin e t m) := by
 obtain ⟨N, h⟩ := h
 exact ⟨N + 1, by rw [run, h]⟩
theorem Runs.f_out {b : Bool} {l : List It} {s s' : RSt} {n : Nat} (h : Runs (.l l) s (.leave (n + 1) s')) : Runs (.f b l) s (.leave n s') := by
 obtain ⟨N, h⟩ := h
 exact ⟨N + 1, by rw [run, h]⟩
theorem Runs.f_once {l : List It} {s s' : RSt} (h : Runs (.l l) s (.leave 0 s')) : Runs (.f false l) s (.next s') := by
 obtain ⟨N, h⟩ := h
 exact ⟨N + 1, by rw [run, h]; rfl⟩
theorem Runs.f_long {l : List It} {s s' : RSt} (h : Runs (.l l) s (.leave 0 s')) (hi : s'.idle = 4000) : Runs (.f true l) s (.fin 2 s'.trace s'.num) := by
 obtain ⟨N, h⟩ := h
 exact ⟨N + 1, by rw [run, h]; simp only [if_true]; rw [if_pos hi]⟩
theorem Runs.f_again {l : List It} {s s' : RSt} {o : ROut} (h : Runs (.l l) s (.leave 0 s')) (hi : s'.idle ≠ 4000) (h2 : Runs (.f true l) s'.step o) : Runs (.f true l) s o := by
 obtain ⟨N, h⟩ := h
 obtain ⟨K, h2⟩ := h2
 refine ⟨max N K + 1, ?_⟩
 rw [run, k8 (Nat.le_max_left N K) h]
 simp only [if_true]
 rw [if_neg hi]
 exact k8 (Nat.le_max_right N K) h2
def RSt.ok (s : RSt) : Prop := s.trace.length ≤ 60 ∧ s.idle ≤ 4000
def RSt.room (s : RSt) : Nat := (60 - s.trace.length) * 4001 + (4000 - s.idle)
theorem RSt.step_ok {s : RSt} (h : s.ok) (hi : s.idle ≠ 4000) : s.step.ok ∧ s.step.room < s.room := by
 unfold RSt.ok RSt.room RSt.step at *
 simp only
 omega
theorem RSt.blk_ok {s : RSt} (h : s.ok) (hl : s.trace.length ≠ 60) (c : UInt8) : (s.blk c).ok ∧ (s.blk c).room ≤ s.room := by
 unfold RSt.ok RSt.room RSt.blk at *
 simp only [List.length_append, List.length_singleton]
 omega
def ROut.ok (o : ROut) (r : Nat) : Prop := match o with
 | .next s => s.ok ∧ s.room ≤ r
 | .leave _ s => s.ok ∧ s.room ≤ r
 | .fin _ t _ => t.length ≤ 60
theorem ROut.ok.le {o : ROut} {r q : Nat} (h : o.ok r) (hq : r ≤ q) : o.ok q := by
 cases o with
 | next s => exact ⟨h.1, Nat.le_trans h.2 hq⟩
 | leave n s => exact ⟨h.1, Nat.le_trans h.2 hq⟩
 | fin e t m => exact h
theorem E3 : ∀ (N : Nat) (t : Tk) (s : RSt) (o : ROut), run N t s = some o → s.ok → o.ok s.room := by
 intro N
 induction N with
 | zero => intro t s o h; cases h
 | succ N ih =>
  intro t s o h hs
  match t, h with
  | .l [], h => rw [run] at h; injection h with h; subst h; exact ⟨hs, Nat.le_refl _⟩
  | .l (i :: l), h =>
   rw [run] at h
   split at h
   ·injection h with h; subst h; exact hs.1
   ·rename_i hi
    have h1 := RSt.step_ok hs hi
    cases hr : run N (.i i) s.step with
    | none => rw [hr] at h; cases h
    | some r =>
     have h2 := ih _ _ _ hr h1.1
     rw [hr] at h
     cases r with
     | next s' => exact (ih _ _ _ h h2.1).le (by have := h2.2; omega)
     | leave n s' => injection h with h; subst h; exact h2.le (by omega)
     | fin e t m => injection h with h; subst h; exact h2
  | .i (.blk c), h =>
   rw [run] at h
   split at h
   ·injection h with h; subst h; exact hs.1
   ·rename_i hi; injection h with h; subst h; exact RSt.blk_ok hs hi c
  | .i (.ask c l r), h =>
   rw [run] at h
   split at h
   ·injection h with h; subst h; exact hs.1
   ·rename_i hi
    have h1 := RSt.blk_ok hs hi c
    cases hl : s.left with
    | nil => rw [hl] at h; injection h with h; subst h; exact h1.1.1
    | cons x t => rw [hl] at h; exact (ih _ _ _ h h1.1).le h1.2
  | .i .stop, h => rw [run] at h; injection h with h; subst h; exact hs.1
  | .i (.frame b l), h => rw [run] at h; exact ih _ _ _ h hs
  | .i (.leave n), h => rw [run] at h; injection h with h; subst h; exact ⟨hs, Nat.le_refl _⟩
  | .i (.set n), h => rw [run] at h; injection h with h; subst h; exact ⟨hs, Nat.le_refl _⟩
  | .i (.pick bs), h =>
   rw [run] at h
   cases hb : bs[s.num]? with
   | none => rw [hb] at h; injection h with h; subst h; exact ⟨hs, Nat.le_refl _⟩
   | some b => rw [hb] at h; exact ih _ _ _ h hs
  | .f b l, h =>
   rw [run] at h
   cases hr : run N (.l l) s with
   | none => rw [hr] at h; cases h
   | some r =>
    have h2 := ih _ _ _ hr hs
    rw [hr] at h
    cases r with
    | next s' => injection h with h; subst h; exact h2
    | fin e t m => injection h with h; subst h; exact h2
    | leave n s' =>
     cases n with
     | succ n => injection h with h; subst h; exact h2
     | zero =>
      simp only at h
      split at h
      ·split at h
       ·injection h with h; subst h; exact h2.1.1
       ·rename_i hi
        have h3 := RSt.step_ok h2.1 hi
        exact (ih _ _ _ h h3.1).le (by have := h2.2; omega)
      ·injection h with h; subst h; exact h2
theorem Runs.ok {t : Tk} {s : RSt} {o : ROut} (h : Runs t s o) (hs : s.ok) : o.ok s.room := by
 obtain ⟨N, h⟩ := h
 exact E3 N t s o h hs
def Tk.fits (t : Tk) (f : Nat) : Prop := match t with
 | .l xs => az xs f
 | .i x => aB x f
 | .f _ xs => f < 9 ∧ az xs (f + 1)
theorem rB : ∀ {bs : List (List It)} {f : Nat}, di bs f → ∀ {k : Nat} {b : List It}, bs[k]? = some b → az b f
 | [], _, _, k, b, h => by simp at h
 | a :: bs, f, ho, k, b, h => by
  rw [di] at ho
  cases k with
  | zero => simp at h; rw [← h]; exact ho.1
  | succ k => exact rB ho.2 (by simpa using h)
theorem AQ : ∀ (N : Nat) (t : Tk) (f : Nat) (s : RSt) (n : Nat) (s' : RSt), run N t s = some (.leave n s') → t.fits f → n < f := by
 intro N
 induction N with
 | zero => intro t f s n s' h; cases h
 | succ N ih =>
  intro t f s n s' h ht
  match t, h, ht with
  | .l [], h, ht => rw [run] at h; cases h
  | .l (i :: l), h, ht =>
   rw [run] at h
   have ht' : aB i f ∧ az l f := by have : az (i :: l) f := ht; rw [az] at this; exact this
   split at h
   ·cases h
   ·cases hr : run N (.i i) s.step with
    | none => rw [hr] at h; cases h
    | some r =>
     rw [hr] at h
     cases r with
     | next s1 => exact ih _ f _ _ _ h ht'.2
     | leave m s1 => injection h with h; injection h with h1 h2; subst h1; exact ih _ f _ _ _ hr ht'.1
     | fin e t m => cases h
  | .i (.blk c), h, ht => rw [run] at h; split at h <;> cases h
  | .i (.ask c l r), h, ht =>
   rw [run] at h
   have ht' : aW c = true ∧ az l f ∧ az r f := by have : aB (.ask c l r) f := ht; rw [aB] at this; exact this
   split at h
   ·cases h
   ·cases hl : s.left with
    | nil => rw [hl] at h; cases h
    | cons x t =>
     rw [hl] at h
     refine ih _ f _ _ _ h ?_
     show az _ f
     split
     ·exact ht'.2.1
     ·exact ht'.2.2
  | .i .stop, h, ht => rw [run] at h; cases h
  | .i (.frame b l), h, ht =>
   rw [run] at h
   have ht' : f < 9 ∧ az l (f + 1) := by have : aB (.frame b l) f := ht; rw [aB] at this; exact this
   exact ih (.f b l) f _ _ _ h ht'
  | .i (.leave k), h, ht =>
   rw [run] at h
   have ht' : k < f := by have : aB (.leave k) f := ht; rw [aB] at this; exact this.1
   injection h with h; injection h with h1 h2; omega
  | .i (.set k), h, ht => rw [run] at h; cases h
  | .i (.pick bs), h, ht =>
   rw [run] at h
   have ht' : di bs f := by have : aB (.pick bs) f := ht; rw [aB] at this; exact this.2.2
   cases hb : bs[s.num]? with
   | none => rw [hb] at h; cases h
   | some b => rw [hb] at h; exact ih (.l b) f _ _ _ h (rB ht' hb)
  | .f b l, h, ht =>
   rw [run] at h
   have ht' : f < 9 ∧ az l (f + 1) := ht
   cases hr : run N (.l l) s with
   | none => rw [hr] at h; cases h
   | some r =>
    rw [hr] at h
    cases r with
    | next s1 => cases h
    | fin e t m => cases h
    | leave m s1 =>
     cases m with
     | succ m =>
      injection h with h; injection h with h1 h2; subst h1
      have := ih (.l l) (f + 1) _ _ _ hr ht'.2
      omega
     | zero =>
      simp only at h
      split at h
      ·split at h
       ·cases h
       ·exact ih (.f b l) f _ _ _ h ht
      ·cases h
theorem Runs.leave_lt {t : Tk} {f : Nat} {s : RSt} {n : Nat} {s' : RSt} (h : Runs t s (.leave n s')) (ht : t.fits f) : n < f := by
 obtain ⟨N, h⟩ := h
 exact AQ N t f s n s' h ht
end Go.Proofs.YtlkfakdghjaoaaaGreatDoor
