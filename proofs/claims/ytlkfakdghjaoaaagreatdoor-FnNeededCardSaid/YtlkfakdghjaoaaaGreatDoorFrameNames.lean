import Derived.Shelf.Strings.BuilderF
import Derived.Deep.AppendSrc
import Derived.Lib.AppendZerosOnto
import Derived.Lib.SliceRun
import Derived.Laws.AppendOwnNone
import Derived.Test.YtlkfakdghjaoaaaGreatDoorJ13
import Derived.Test.YtlkfakdghjaoaaaGreatDoorModelMake
set_option maxRecDepth 100000
set_option maxHeartbeats 800000
namespace Go.Proofs.YtlkfakdghjaoaaaGreatDoor
open Go.RowKit
theorem zk : liesAt Tryz.prog Tryz.prog.depth 64 (6 / Tryz.prog.cellsOf 64) 3 61 1 = true := by kernel_rfl
theorem zl : Tryz.prog.cellsOf 5 = 1 := by kernel_rfl
def MBd (w : World) (M : Nat) (c0 c1 c2 v c5 : Value) (out : List UInt8) : Prop :=
 (∃ p, (p = .pointer none ∨ p = .pointer (some ⟨M, 3, none⟩)) ∧ Blk w M 64 #[c0, c1, c2, p, v, c5]) ∧ w.ownsRowF 0 5 1 v out.length (Lib.byteCells out) ∧ v.ownBlock ≠ some M
section
variable {w w' : World} {M : Nat} {c0 c1 c2 v c5 : Value} {out : List UInt8}
theorem MBd.lt (h : MBd w M c0 c1 c2 v c5 out) : M < w.heap.size := by obtain ⟨⟨p, _, hb⟩, _⟩ := h; exact hb.lt
theorem MBd.slice (h : MBd w M c0 c1 c2 v c5 out) : ∃ a cap, v = .slice a out.length cap := by
 rcases h.2.1.2 with ⟨hv, h0⟩ | ⟨g, cap, cur, fz, hv, _⟩
 ·exact ⟨none, 0, by rw [hv, h0]⟩
 ·exact ⟨_, _, hv⟩
theorem MBd.own_lt (h : MBd w M c0 c1 c2 v c5 out) : ∀ k, v.ownBlock = some k → k < w.heap.size := fun k hk => (h.2.1.lt k hk).2
theorem nz {e : TypeId} {n base : Nat} {xs : List Value} (h : w.ownsRowF base e 1 v n xs) (hk : ∀ g, v.ownBlock = some g → w'.heap[g]? = w.heap[g]?) : w'.ownsRowF base e 1 v n xs := by
 refine ⟨h.1, ?_⟩
 rcases h.2 with hn | ⟨g, cap, cur, fz, rfl, hb, hg, rest⟩
 ·exact .inl hn
 ·exact .inr ⟨g, cap, cur, fz, rfl, hb, (hk g rfl).trans hg, rest⟩
theorem MBd.kept (h : MBd w M c0 c1 c2 v c5 out) (hb : w'.heap[M]? = w.heap[M]?) (hk : ∀ g, v.ownBlock = some g → w'.heap[g]? = w.heap[g]?) : MBd w' M c0 c1 c2 v c5 out := by
 obtain ⟨⟨p, hp, hbk⟩, hown, hne⟩ := h
 exact ⟨⟨p, hp, hb.trans hbk⟩, nz hown hk, hne⟩
theorem MBd.turn {O : Nat → Prop} (h : MBd w M c0 c1 c2 v c5 out) (hT : Turns O w w') (h1 : ¬ O M) (h2 : ∀ k, v.ownBlock = some k → ¬ O k) : MBd w' M c0 c1 c2 v c5 out :=
 h.kept (hT.block M h.lt h1) fun g hg => hT.block g (h.own_lt g hg) (h2 g hg)
theorem MBd.below (h : MBd w M c0 c1 c2 v c5 out) (hb : Below w.heap.size w w') : MBd w' M c0 c1 c2 v c5 out :=
 h.turn (O := fun _ => False) (.of_below hb) id fun _ _ => id
theorem Er (w : World) (c0 c1 c2 c5 : Value) : MBd (w.alloc (.cells #[c0, c1, c2, .pointer none, .slice none 0 0, c5] 64)) w.heap.size c0 c1 c2 (.slice none 0 0) c5 [] :=
 ⟨⟨_, .inl rfl, Blk.new _ _ _⟩, World.ownsRowF_nil _ _ _ _, by simp [Value.ownBlock]⟩
end
def Wr (M : Nat) (w : World) (v : Value) (w' : World) (v' : Value) : Prop :=
 Turns (fun k => k = M ∨ v.ownBlock = some k) w w' ∧ (v'.ownBlock = v.ownBlock ∨ ∃ k, v'.ownBlock = some k ∧ w.heap.size ≤ k)
theorem AL (M : Nat) (c0 c1 c2 v c5 : Value) (out : List UInt8) (w : World) (h : MBd w M c0 c1 c2 v c5 out) :
  Calls Tryz.prog 101 #[.pointer (some ⟨M, 3, none⟩)] w fun e w' => e = .returned (.tuple #[]) ∧ Blk w' M 64 #[c0, c1, c2, .pointer (some ⟨M, 3, none⟩), v, c5] ∧
   w'.ownsRowF 0 5 1 v out.length (Lib.byteCells out) ∧ w'.heap.size = w.heap.size ∧ Turns (fun k => k = M) w w' := by
 obtain ⟨⟨p, hp, hbk⟩, hown, hne⟩ := h
 obtain ⟨j, hj, hjs⟩ := Option.map_eq_some_iff.1 jY
 rcases hp with rfl | rfl
 ·have h0 : w.cell? ⟨M, 3, none⟩ = some (.pointer none) := hbk.cell 3
  have hfz := hbk.frozen 3
  have hsh : w.shape? M = some (64, 6) := by unfold Blk at hbk; simp [World.shape?, hbk]
  have r1 := Lib.run_to_unsafe (P := Tryz.prog) w ⟨M, 3, none⟩ Tryz.underlying59 Tryz.underlying207 hj (by rw [hjs]; decide) hsh (show 3 < 6 by decide)
  have r2 := Lib.run_from_unsafe (P := Tryz.prog) w ⟨M, 3, none⟩ Tryz.underlying207 Tryz.underlying59 hj hsh zk
  have hne := fun W => Lib.run_neq_ptr_same (P := Tryz.prog) W ⟨M, 3, none⟩ Tryz.underlying59 hj
  have HBK := GR hbk
  have HOWN := GR (nz (w' := w.setCell ⟨M, 3, none⟩ (.pointer (some ⟨M, 3, none⟩))) hown fun g hg => Below.heap_setCell w ⟨M, 3, none⟩ _ g fun e => by have e : g = M := e; subst e; contradiction)
  clear hbk hown
  go_enter Tryz.func101, Tryz.ntmps101
  go_wp2
  rw [run_callFunc_extern Tryz.func147 (by kernel_rfl) (by kernel_rfl) (by kernel_rfl) (e := Extern.AbiNoEscape.same) (by kernel_rfl), Lib.run_noEscape]
  simp only [Result.andThen]
  rw [Oper.upon_value]
  go_wp2
  go_end0
  exact ⟨rfl, HBK.out.set_ 3 (.pointer (some ⟨M, 3, none⟩)), HOWN.out, by simp, Turns.setCell (O := fun k => k = M) (p := ⟨M, 3, none⟩) rfl _⟩
 ·have h0 : w.cell? ⟨M, 3, none⟩ = some (.pointer (some ⟨M, 3, none⟩)) := hbk.cell 3
  have hne := Lib.run_neq_ptr_same (P := Tryz.prog) w ⟨M, 3, none⟩ Tryz.underlying59 hj
  have HBK := GR hbk
  have HOWN := GR hown
  clear hbk hown
  go_enter Tryz.func101, Tryz.ntmps101
  go_wp2
  go_end0
  exact ⟨rfl, HBK.out, HOWN.out, rfl, .refl _ _⟩
theorem oM {P : Program} {w : World} {t u ty e : TypeId} {i : TypeInfo} (ht : P.underlying t = some (.slice e)) (hu : P.underlying u = some .string) (hi : P.info? e = some i) (hz : i.zero = some (.int .u8 0))
  (hsize : i.size = 1) (hby : i.bytes = 1) {base : Nat} {v : Value} {n : Nat} {xs : List Value} (hown : w.ownsRowF base e 1 v n xs) {s : ByteArray}
  (h63 : n + s.size ≤ maxLen) (hbytes : n + s.size ≤ 140737488355328) (hbase : base ≤ w.heap.size) {v' : Value} {w' : World}
  (hr : (Builtin.append_ #[t, u] ty #[v, .string s]).run P w = .ok v' w') : v'.ownBlock = v.ownBlock ∨ v'.ownBlock = some w.heap.size := by
 have hsmall : n + s.size ≤ 9223372036854775807 := by simp only [maxLen] at h63; omega
 have hxl : xs.length = n := by simpa using hown.1
 obtain ⟨v2, w2, hr2, _, _, hnil⟩ := Lib.run_append_own_stringF (P := P) w base t u ty e i ht hu hi hz hsize hby v n xs hown s h63 hbytes hbase
 rw [hr] at hr2
 injection hr2 with e1 e2
 subst e1
 clear e2
 rcases hown.2 with ⟨rfl, rfl⟩ | ⟨g, cap, cur, fz, rfl, hbg, hg, hfz, hnc, hcm, hcs, _⟩
 ·by_cases hm : s.size = 0
  ·left; rw [hnil.2 ⟨rfl, hm⟩]
  ·right
   have h3 := run_append_nil_string (P := P) w t u ty e i (.int .u8 0) ht hu hi hz s (by omega) (by omega) (by rw [hby]; omega)
   rw [hr] at h3
   injection h3 with e1 _
   rw [e1]; rfl
 ·by_cases hroom : n + s.size ≤ cap
  ·left
   have hcs' : cur.size = cap := by simpa using hcs
   have h3 := Lib.run_append_room_stringF (P := P) w t u ty e i ht hu hi hsize g n cap cur fz hg (by simpa using hfz) s hroom (by omega)
   rw [hr] at h3
   injection h3 with e1 _
   rw [e1]; rfl
  ·right
   have h3 := Lib.run_append_grow_string (P := P) w t u ty e i (.int .u8 0) ht hu hi hz ⟨g, 0, none⟩ n cap xs (by rw [hsize]; simpa using hxl) (hown.cells (g := g) rfl) s (by omega) (by omega) (by rw [hby]; exact growslice_fits (by omega) (by omega))
   rw [hr] at h3
   injection h3 with e1 _
   rw [e1]; rfl
theorem jZ {P : Program} {w : World} {ops : Array Oper} {rest : List Oper} {o : Oper} {a : Act} {Q : Exit → Act → World → Prop} (hgd : o.guard = none) (sl x : Operand) (t u : TypeId)
  (ho : o.op = .call { callee := .builtin .append, args := #[sl, x], argTypes := #[t, u] })
  (base : Nat) (e : TypeId) (i : TypeInfo) (ht : P.underlying t = some (.slice e)) (hu : P.underlying u = some .string) (hi : P.info? e = some i) (hz : i.zero = some (.int .u8 0)) (hsize : i.size = 1) (hby : i.bytes = 1)
  (v : Value) (n : Nat) (xs : List Value) (hs : a.eval sl = v) (hown : w.ownsRowF base e 1 v n xs) (s : ByteArray) (hx : a.eval x = .string s)
  (h63 : n + s.size ≤ maxLen) (hbytes : n + s.size ≤ 140737488355328) (hbase : base ≤ w.heap.size)
  (h : ∀ v' w', w'.ownsRowF base e 1 v' (n + s.size) (xs ++ Lib.strCells s) → w.grownBy w' v.ownBlock → (v'.ownBlock = v.ownBlock ∨ v'.ownBlock = some w.heap.size) → wpList P ops Q rest (a.put o.dst v') w') : wpList P ops Q (o :: rest) a w := by
 refine wpList_plain hgd fun K hK => ?_
 obtain ⟨v', w', hr, h2, h3, _⟩ := Lib.run_append_own_stringF (P := P) w base t u o.type e i ht hu hi hz hsize hby v n xs hown s h63 hbytes hbase
 have h4 := oM ht hu hi hz hsize hby hown h63 hbytes hbase hr
 unfold Oper.wp execOp
 simp only [ho, resolve, invoke, builtin, Sem.run_bind, Sem.run_pure, Result.andThen_ok, List.map_toArray, List.map_cons, List.map_nil, hs, hx, hr]
 exact hK _ _ (h v' w' h2 h3 h4)
theorem zm (M : Nat) (c0 c1 c2 v c5 : Value) (out : List UInt8) (s : ByteArray) (w : World) (h : MBd w M c0 c1 c2 v c5 out) (hlen : out.length + s.size ≤ 1048576) :
  Calls Tryz.prog 57 #[.pointer (some ⟨M, 3, none⟩), .string s] w fun e w' => e = .returned (.tuple #[.int .i64 s.size, .nilIface]) ∧ ∃ v', MBd w' M c0 c1 c2 v' c5 (out ++ s.data.toList) ∧ Wr M w v w' v' := by
 obtain ⟨i0, hi, hz0, hz1, hz2⟩ := info_parts sA
 have HC := GR (AL M c0 c1 c2 v c5 out w h)
 have hne := h.2.2
 have hlt := h.lt
 have HLV := GR h.own_lt
 clear h
 go_enter Tryz.func57, Tryz.ntmps57
 go_wp2_with fail
 refine HC.out.mono ?_
 rintro e w1 ⟨rfl, hblk, hown, hs1, hT1⟩
 have c4 : w1.cell? ⟨M, 4, none⟩ = some v := hblk.cell 4
 have HS1 := GR hs1
 have HT1 := GR hT1
 clear hT1 hs1
 go_wp2_with (at_builtin; refine jZ rfl _ _ 22 9 rfl 0 5 i0 Tryz.underlying22 Tryz.underlying9 hi hz0 hz1 hz2 _ _ _ rfl hown s rfl ?c3 ?c4 ?c5 ?_)
 case c3 => unfold maxLen; omega
 case c4 => omega
 case c5 => omega
 intro v' w2 hown' hgrow hat
 have hne1 : some M ≠ v.ownBlock := fun e => hne e.symm
 have hblk2 : Blk w2 M 64 #[c0, c1, c2, .pointer (some ⟨M, 3, none⟩), v, c5] := (hgrow.block M hblk.lt hne1).trans hblk
 have hne' : v'.ownBlock ≠ some M := by
  rcases hat with e | e
  ·rw [e]; exact hne
  ·rw [e]; intro h; injection h with h; have := hblk.lt; omega
 have HT2 := GR (show Turns (fun k => k = M ∨ v.ownBlock = some k) w w2 from
  (HT1.out.wider fun k hk => .inl hk).trans ((Turns.of_grown (O := fun k => k = M ∨ v.ownBlock = some k) hgrow fun k hk => .inr hk).wider fun k hk => .inl hk))
 have HAT := GR (show v'.ownBlock = v.ownBlock ∨ ∃ k, v'.ownBlock = some k ∧ w.heap.size ≤ k by
  rcases hat with e | e
  ·exact .inl e
  ·exact .inr ⟨_, e, by have := HS1.out; omega⟩)
 have HNE := GR hne'
 have HOWN := GR hown'
 have d4 : w2.cell? ⟨M, 4, none⟩ = some v := hblk2.cell 4
 have f4 := hblk2.frozen 4
 have HBK := GR hblk2
 clear hne' hat hgrow hown hblk c4 hne1 hblk2
 obtain ⟨ao, n', cap, rfl⟩ : ∃ ao n' cap, v' = .slice ao n' cap := by
  rcases hown'.2 with ⟨hv, _⟩ | ⟨g, cap, cur, fz, hv, _⟩
  ·exact ⟨_, _, _, hv⟩
  ·exact ⟨_, _, _, hv⟩
 clear hown'
 go_wp2
 go_ret2
 have hlc : (out ++ s.data.toList).length = out.length + s.size := by rw [List.length_append]; rfl
 have hcc : Lib.byteCells (out ++ s.data.toList) = Lib.byteCells out ++ Lib.strCells s := by rw [Lib.byteCells_append, Lib.strCells_eq]
 refine ⟨rfl, _, ⟨⟨_, .inr rfl, HBK.out.set_ 4 (.slice ao n' cap)⟩, ?_, HNE.out⟩, HT2.out.trans ((Turns.setCell (O := fun k => k = M) (p := ⟨M, 4, none⟩) rfl _).wider fun k hk => .inl (.inl hk)), HAT.out⟩
 rw [hlc, hcc]
 exact nz HOWN.out fun g hg => Below.heap_setCell w2 ⟨M, 4, none⟩ _ g fun e => by have e : g = M := e; subst e; exact HNE.out hg
theorem C0 (M : Nat) (c0 c1 c2 v c5 : Value) (out : List UInt8) (w : World) (h : MBd w M c0 c1 c2 v c5 out) :
  Calls Tryz.prog 135 #[.pointer (some ⟨M, 3, none⟩)] w fun e w' => e = .returned (.int .i64 out.length) ∧ w = w' := by
 obtain ⟨a, cap, rfl⟩ := h.slice
 obtain ⟨⟨p, hp, hbk⟩, _⟩ := h
 have c4 : w.cell? ⟨M, 4, none⟩ = some (.slice a out.length cap) := hbk.cell 4
 clear hbk
 go_enter Tryz.func135, Tryz.ntmps135
 go_wp2_with fail
 go_ret
 exact ⟨rfl, rfl⟩
theorem xo (M : Nat) (c0 c1 c2 v c5 : Value) (out : List UInt8) (w : World) (h : MBd w M c0 c1 c2 v c5 out) (h0 : out ≠ []) (hl : out.length ≤ 1048576) :
  Calls Tryz.prog 53 #[.pointer (some ⟨M, 3, none⟩)] w fun e w' => e = .returned (.string ⟨out.toArray⟩) ∧ MBd w' M c0 c1 c2 v c5 out ∧ Turns (fun k => v.ownBlock = some k) w w' ∧ w'.heap.size = w.heap.size := by
 obtain ⟨⟨p, hp, hbk⟩, hown, hne⟩ := h
 have hl0 : out.length ≠ 0 := by simpa using h0
 obtain ⟨g, cap, cur, fz, rfl, hg, hfz, hnc, hcm, hcs, htake⟩ : ∃ g cap cur fz, v = .slice (some ⟨g, 0, none⟩) out.length cap ∧ w.heap[g]? = some (.cells cur 5 fz) ∧ fz.2 ≤ out.length * 1 ∧ out.length ≤ cap ∧ cap ≤ maxLen ∧ cur.size = cap * 1 ∧ cur.toList.take (out.length * 1) = Lib.byteCells out := by
  rcases hown.2 with ⟨_, hz⟩ | ⟨g, cap, cur, fz, hv, _, r⟩
  ·exact absurd hz hl0
  ·exact ⟨g, cap, cur, fz, hv, r⟩
 have hgM : g ≠ M := fun e => hne (by simp [Value.ownBlock, e])
 have c4 : w.cell? ⟨M, 4, none⟩ = some (.slice (some ⟨g, 0, none⟩) out.length cap) := hbk.cell 4
 have hSD : ∀ W : World, (Builtin.unsafeSliceData_ #[22] 138 #[.slice (some ⟨g, 0, none⟩) out.length cap]).run Tryz.prog W = .ok (.pointer (some ⟨g, 0, none⟩)) W := fun W =>
  Lib.run_unsafeSliceData_row _ _ _ _ _ _ (by omega)
 have hUS : (Builtin.unsafeString_ #[138, 3] 9 #[.pointer (some ⟨g, 0, none⟩), .int .i64 out.length]).run Tryz.prog w.drew = .ok (.string ⟨out.toArray⟩) (w.drew.freeze ⟨g, 0, none⟩ out.length) := by
  refine Lib.run_unsafeString_row w.drew 138 3 9 5 Tryz.underlying138 zl g cur.size (by have hg' : w.drew.heap[g]? = some (.cells cur 5 fz) := hg; simp [World.shape?, hg']) out h0 (by omega) (by omega) ?_
  intro j x hx
  exact hown.cells (g := g) rfl j (.int .u8 x.toNat) (by simp [Lib.byteCells, hx])
 have HKEEP : Hid (MBd (w.drew.freeze ⟨g, 0, none⟩ out.length) M c0 c1 c2 (.slice (some ⟨g, 0, none⟩) out.length cap) c5 out ∧ Turns (fun k => k = g) w (w.drew.freeze ⟨g, 0, none⟩ out.length) ∧ (w.drew.freeze ⟨g, 0, none⟩ out.length).heap.size = w.heap.size) := GR (by
  unfold World.freeze
  rw [if_neg (by simpa using hl0)]
  refine ⟨⟨⟨p, hp, ?_⟩, ⟨hown.1, .inr ⟨g, cap, cur, (if fz.1 == fz.2 then (0, 0 + out.length) else (min fz.1 0, max fz.2 (0 + out.length))), rfl, Nat.zero_le _, ?_, ?_, hnc, hcm, hcs, htake⟩⟩, hne⟩, ⟨rfl, rfl, rfl, by simp, fun k _ hk => ?_⟩, by simp⟩
  ·unfold Blk at hbk ⊢
   simp only [Array.getElem?_modify, if_neg hgM]
   exact hbk
  ·have hgd : w.drew.heap[g]? = some (.cells cur 5 fz) := hg
   simp only [Array.getElem?_modify, if_pos]
   rw [hgd]
   rfl
  ·split <;> simp <;> omega
  ·have hk : ¬ k = g := hk
   simp only [Array.getElem?_modify, if_neg (fun e : g = k => hk e.symm)]
   rfl)
 clear hbk hown hg hfz hnc hcs htake hne
 go_enter Tryz.func53, Tryz.ntmps53
 go_wp2
 go_region
 all_goals
  go_wp2
  go_ret
  obtain ⟨k1, k2, k3⟩ := HKEEP.out
  exact ⟨rfl, k1, k2.wider fun k hk => by subst hk; rfl, k3⟩
end Go.Proofs.YtlkfakdghjaoaaaGreatDoor
namespace Go.Proofs.YtlkfakdghjaoaaaGreatDoor
open Go.RowKit
theorem sH : (Tryz.prog.info? 242).map (fun i => (i.zero, i.size, i.bytes)) = some (some (.pointer none), 1, 8) := by kernel_rfl
theorem C1 (n : Nat) (w : World) (h1 : 1 ≤ n) (hn : n ≤ 1000) :
  Calls Tryz.prog 202 #[.slice none 0 0, .int .i64 n] w fun e w' => ∃ v, e = .returned v ∧ w'.ownsRow w.heap.size 242 1 v 0 [] ∧ Below w.heap.size w w' := by
 obtain ⟨i0, hi0, hz0, hz1, hz2⟩ := info_parts sH
 have hold : (Builtin.firstCells i0.size 0 (.slice none 0 0)).run Tryz.prog w.drew = .ok ([] : List Value).toArray w.drew := run_firstCells_none w.drew i0.size 0 0 0
 have hrz : ∀ ty, (Builtin.append_ #[198, 3] ty #[.slice none 0 0, .int .i64 n]).run Tryz.prog w = _ := fun ty =>
  Lib.run_append_grow_zeros w 198 3 ty 242 i0 (.pointer none) .i64 .i64 Tryz.underlying198 Tryz.underlying3 hi0 hz0 none 0 0 [] hold n (by omega) (by omega) (by omega) (by omega) (by rw [hz2]; omega) (by rw [hz2]; exact growslice_fits (by omega) (by omega))
 have hGn : 0 + n ≤ grownCap w (0 + n) 0 242 := grownCap_ge w _ _ _
 have hG63 := grownCap_le_maxLen w (0 + n) 0 242 (by unfold maxLen; omega)
 obtain ⟨G, hG⟩ : ∃ G, G = grownCap w (0 + n) 0 242 := ⟨_, rfl⟩
 rw [← hG] at hrz hGn hG63
 have hz1' : (Value.pointer none).cells.size = 1 := rfl
 obtain ⟨CS, hCS⟩ : ∃ CS, CS = ([] : List Value).toArray ++ Builtin.zeroCells (Value.pointer none).cells n ++ Builtin.zeroCells (Value.pointer none).cells (G - (0 + n)) := ⟨_, rfl⟩
 have hCl : CS.size = G := by rw [hCS]; simp only [Array.size_append, List.size_toArray, size_zeroCells, hz1', List.length_nil]; omega
 rw [← hCS] at hrz
 have HOWN := GR (show (w.drew.alloc (.cells CS 242)).ownsRow w.heap.size 242 1 (.slice (some ⟨w.heap.size, 0, none⟩) 0 G) 0 [] from
  ⟨rfl, .inr ⟨w.heap.size, G, _, rfl, Nat.le_refl _, heap_alloc_new w.drew _, Nat.zero_le _, hG63, by omega, by simp⟩⟩)
 have HB := GR ((Below.drew (Below.refl w.heap.size w)).alloc (Nat.le_refl _) (.cells CS 242))
 have hG' : G ≤ 9223372036854775807 := by unfold maxLen at hG63; omega
 clear hold hG hz1' hG63 hCS hCl
 go_enter Tryz.func202, Tryz.ntmps202
 go_wp2_with (at_builtin; refine Lib.wpList_append_run _ rfl _ _ _ _ rfl _ _ rfl rfl _ _ (hrz _) ?_)
 all_goals (go_ret; exact ⟨_, rfl, HOWN.out, HB.out⟩)
theorem AM (p : Addr) (j : Nat) : (p.add j).block = p.block := by unfold Addr.add; split <;> rfl
theorem zn (SB : Nat) (x0 : Value) (HB_ : Nat) (a : Option Addr) (n cap : Nat) (ys : List Value) (w : World) (hn : n ≤ 100) (c0 : w.cell? ⟨SB, 0, none⟩ = some (.slice (some ⟨HB_, 0, none⟩) 1 1)) (c1 : w.cell? ⟨SB, 1, none⟩ = some (.slice a n cap))
  (hx : w.cell? ⟨HB_, 0, none⟩ = some x0) (hx1 : x0.oneCell' = true) (hyl : ys.length = n) (ha : a = none → n = 0 ∧ cap = 0) (hy : ∀ p, a = some p → ∀ j u, ys[j]? = some u → w.cell? (p.add j) = some u) (hy1 : ∀ u ∈ ys, u.oneCell' = true)
  (hSB : SB < w.heap.size) (hHB : HB_ < w.heap.size) (hAB : ∀ p, a = some p → p.block < w.heap.size) :
  Calls Tryz.prog 174 #[.slice (some ⟨SB, 0, none⟩) 2 2] w fun e w' => ∃ v, e = .returned v ∧ w'.ownsRow w.heap.size 242 1 v (1 + n) (x0 :: ys) ∧ Below w.heap.size w w' := by
 obtain ⟨ip, hip, hz0, hz1, hz2⟩ := info_parts sH
 go_enter Tryz.func174, Tryz.ntmps174
 have HG := GR (C1 (1 + n) w (by omega) (by omega))
 have HY := GR hy
 have HY1 := GR hy1
 have HA := GR ha
 clear hy hy1 ha
 go_wp2_with fail
 go_loop [3, 11] (fun z i => (i = .int .i64 0 ∧ z = .int .i64 0) ∨ (i = .int .i64 1 ∧ z = .int .i64 1) ∨ (i = .int .i64 2 ∧ z = .int .i64 ((1 + n : Nat) : Int))) (fun _ i => 2 - (intOf i).toNat)
 case atStart => exact .inl ⟨rfl, rfl⟩
 case round =>
  rcases hrel with ⟨rfl, rfl⟩ | ⟨rfl, rfl⟩ | ⟨rfl, rfl⟩
  ·go_wp2_with fail
   go_round
   case rel => exact .inr (.inl ⟨by go_num, by go_num⟩)
   case measure => simp [intOf]
  ·have g1 : ¬ (9223372036854775807 : Int) < 1 + (n : Int) := by omega
   go_wp2_with fail
   go_round
   case rel => exact .inr (.inr ⟨by go_num, by go_num⟩)
   case measure => simp [intOf]
  ·go_wp2_with fail
   refine HG.out.mono ?_
   rintro e w1 ⟨v1, rfl, hown1, b1⟩
   have HOWN1 := GR hown1
   have HB1 := GR b1
   clear hown1 b1
   go_wp2_with fail
   go_loopw [6, 27] (fun v i wr => ∃ (k : Nat) (xs : List Value), ((k = 0 ∧ xs = []) ∨ (k = 1 ∧ xs = [x0]) ∨ (k = 2 ∧ xs = x0 :: ys)) ∧ i = .int .i64 k ∧ Hid (wr.ownsRow w.heap.size 242 1 v xs.length xs) ∧ Hid (Below w.heap.size w wr)) (fun _ i _ => 2 - (intOf i).toNat)
   case atStart => exact ⟨0, [], .inl ⟨rfl, rfl⟩, rfl, HOWN1, HB1⟩
   case round =>
    obtain ⟨k, xs, hk, rfl, HO, HB⟩ := hrel
    have HO' := HO.out
    rcases hk with ⟨rfl, rfl⟩ | ⟨rfl, rfl⟩ | ⟨rfl, rfl⟩
    ·have d0 := (HB.out.cell (p := ⟨SB, 0, none⟩) hSB).trans c0
     have HX := GR ((HB.out.cell (p := ⟨HB_, 0, none⟩) hHB).trans hx)
     have hsz := HB.out.size
     go_wp2_with (at_builtin; refine wpList_append_own _ rfl _ _ 198 rfl w.heap.size 242 ip (.pointer none) 1 8 Tryz.underlying198 hip hz0 hz1 hz2 rfl (by decide) _ _ _ rfl HO' ⟨HB_, 0, none⟩ 1 1 [x0] rfl rfl ?c1 ?c2 ?c3 ?c4 ?c5 ?_)
     case c1 =>
      intro j u hj
      match j, hj with
      | 0, hj =>
       have hu : x0 = u := by simpa using hj
       rw [← hu]
       exact HX.out
     case c2 => intro u hu; rw [List.mem_singleton] at hu; rw [hu]; exact hx1
     case c3 => unfold maxLen; simp
     case c4 => simp
     case c5 => exact hsz
     intro v' w8 hown' hgrow _
     have HON := GR hown'
     have HBN := GR (HB.out.grown hgrow hsz (fun j hj => (HO'.lt j hj).1))
     clear hown' hgrow
     go_wp2_with fail
     go_round
     case rel => exact ⟨1, [x0], .inr (.inl ⟨rfl, rfl⟩), by go_num, HON, HBN⟩
     case measure => simp [intOf]
    ·have d1 := (HB.out.cell (p := ⟨SB, 1, none⟩) hSB).trans c1
     have hsz := HB.out.size
     cases a with
     | none =>
      obtain ⟨hn0, hc0⟩ := HA.out rfl
      subst hn0
      subst hc0
      have hy0 : ys = [] := List.eq_nil_of_length_eq_zero hyl
      go_wp2_with (at_builtin; refine wpList_append_own_none rfl _ _ 198 rfl w.heap.size 242 ip 1 Tryz.underlying198 hip _ _ _ rfl HO' rfl ?_)
      exact ⟨⟨_, _, _, ⟨2, [x0], .inr (.inr ⟨rfl, rfl⟩), rfl, HO⟩, rfl, rfl, rfl⟩, by simp [intOf]⟩
     | some p =>
      have hpb := hAB p rfl
      have HYW := GR (fun j u (hu : ys[j]? = some u) => show wr.cell? (p.add j) = some u from (HB.out.cell (p := p.add j) ((AM p j).symm ▸ hpb)).trans (HY.out p rfl j u hu))
      go_wp2_with (at_builtin; refine wpList_append_own _ rfl _ _ 198 rfl w.heap.size 242 ip (.pointer none) 1 8 Tryz.underlying198 hip hz0 hz1 hz2 rfl (by decide) _ _ _ rfl HO' p n cap ys rfl (by rw [hyl, Nat.mul_one]) HYW.out HY1.out ?c3 ?c4 ?c5 ?_)
      case c3 => unfold maxLen; simp; omega
      case c4 => simp; omega
      case c5 => exact hsz
      intro v' w8 hown' hgrow _
      have HON := GR (show w8.ownsRow w.heap.size 242 1 v' (x0 :: ys).length (x0 :: ys) by
       rw [List.length_cons, hyl, Nat.add_comm]; exact hown')
      have HBN := GR (HB.out.grown hgrow hsz (fun j hj => (HO'.lt j hj).1))
      clear hown' hgrow
      go_wp2_with fail
      go_round
      case rel => exact ⟨2, x0 :: ys, .inr (.inr ⟨rfl, rfl⟩), by go_num, HON, HBN⟩
      case measure => simp [intOf]
    ·go_wp2_with fail
     go_ret
     refine ⟨_, rfl, ?_, HB.out⟩
     rw [List.length_cons, hyl, Nat.add_comm] at HO'
     exact HO'
def FrAt (w : World) (X : Nat → Prop) (NB : Nat) (fv : Value) (fr : List (Nat × Bool)) : Prop :=
 (fr = [] ∧ fv = .slice none 0 0) ∨ ∃ b off cap, fv = .slice (some ⟨b, off, none⟩) fr.length cap ∧ b < w.heap.size ∧ ¬ X b ∧
  ∀ j (h : j < fr.length), ∃ q, w.cell? ⟨b, off + j, none⟩ = some (.pointer (some ⟨q, 0, none⟩)) ∧ ¬ X q ∧ Blk w q 244 #[ag NB (fr[j]).1, .bool (fr[j]).2]
theorem C2 (w : World) (X : Nat → Prop) (NB : Nat) : FrAt w X NB (.slice none 0 0) [] := .inl ⟨rfl, rfl⟩
theorem FrAt.turn {w w' : World} {X X' : Nat → Prop} {NB : Nat} {fv : Value} {fr : List (Nat × Bool)} (h : FrAt w X NB fv fr) (hT : Turns X w w') (hX : ∀ k, k < w.heap.size → X' k → X k) : FrAt w' X' NB fv fr := by
 rcases h with h | ⟨b, off, cap, e, hb, hx, hc⟩
 ·exact .inl h
 ·refine .inr ⟨b, off, cap, e, Nat.lt_of_lt_of_le hb hT.size, fun k => hx (hX _ hb k), fun j hj => ?_⟩
  obtain ⟨q, c1, c2, c3⟩ := hc j hj
  refine ⟨q, ?_, fun k => c2 (hX _ c3.lt k), (hT.block _ c3.lt c2).trans c3⟩
  have := hT.block b hb hx
  unfold World.cell? at c1 ⊢
  rw [this]
  exact c1
theorem FrAt.below {w w' : World} {X : Nat → Prop} {NB : Nat} {fv : Value} {fr : List (Nat × Bool)} (h : FrAt w X NB fv fr) (hb : Below w.heap.size w w') : FrAt w' X NB fv fr :=
 h.turn (.of_below hb) fun _ _ => id
theorem FrAt.slice {w : World} {X : Nat → Prop} {NB : Nat} {fv : Value} {fr : List (Nat × Bool)} (h : FrAt w X NB fv fr) : ∃ a cap, fv = .slice a fr.length cap := by
 rcases h with ⟨rfl, rfl⟩ | ⟨b, off, cap, e, _⟩
 ·exact ⟨none, 0, rfl⟩
 ·exact ⟨_, _, e⟩
theorem oY (X : Nat → Prop) (NB t : Nat) (back : Bool) (fv : Value) (fr : List (Nat × Bool)) (w : World) (h : FrAt w X NB fv fr) (hl : fr.length ≤ 60) (hX : ∀ k, X k → k < w.heap.size) :
  Calls Tryz.prog 138 #[ag NB t, .bool back, fv] w fun e w' => ∃ v, e = .returned v ∧ FrAt w' X NB v ((t, back) :: fr) ∧ Below w.heap.size w w' := by
 obtain ⟨a, cap, rfl⟩ := h.slice
 have HF := GR h
 clear h
 go_enter Tryz.func138, Tryz.ntmps138
 go_wp2_with fail
 have hs1 : (w.alloc (.cells #[ag NB t, .bool back] 244)).heap.size = w.heap.size + 1 := by simp
 have hs2 : ((w.alloc (.cells #[ag NB t, .bool back] 244)).alloc (.cells #[.pointer (some ⟨w.heap.size, 0, none⟩)] 242)).heap.size = w.heap.size + 1 + 1 := by simp
 have k0 : Blk (((w.alloc (.cells #[ag NB t, .bool back] 244)).alloc (.cells #[.pointer (some ⟨w.heap.size, 0, none⟩)] 242)).alloc (.cells #[.slice (some ⟨w.heap.size + 1, 0, none⟩) 1 1, .slice a fr.length cap] 198)) w.heap.size 244 #[ag NB t, .bool back] := ((Blk.new w _ _).alloc _).alloc _
 have k1 : Blk (((w.alloc (.cells #[ag NB t, .bool back] 244)).alloc (.cells #[.pointer (some ⟨w.heap.size, 0, none⟩)] 242)).alloc (.cells #[.slice (some ⟨w.heap.size + 1, 0, none⟩) 1 1, .slice a fr.length cap] 198)) (w.heap.size + 1) 242 #[.pointer (some ⟨w.heap.size, 0, none⟩)] := by
  have := (Blk.new (w.alloc (.cells #[ag NB t, .bool back] 244)) 242 #[.pointer (some ⟨w.heap.size, 0, none⟩)]).alloc (.cells #[.slice (some ⟨w.heap.size + 1, 0, none⟩) 1 1, .slice a fr.length cap] 198)
  rw [hs1] at this
  exact this
 have k2 : Blk (((w.alloc (.cells #[ag NB t, .bool back] 244)).alloc (.cells #[.pointer (some ⟨w.heap.size, 0, none⟩)] 242)).alloc (.cells #[.slice (some ⟨w.heap.size + 1, 0, none⟩) 1 1, .slice a fr.length cap] 198)) (w.heap.size + 1 + 1) 198 #[.slice (some ⟨w.heap.size + 1, 0, none⟩) 1 1, .slice a fr.length cap] := by
  have := Blk.new ((w.alloc (.cells #[ag NB t, .bool back] 244)).alloc (.cells #[.pointer (some ⟨w.heap.size, 0, none⟩)] 242)) 198 #[.slice (some ⟨w.heap.size + 1, 0, none⟩) 1 1, .slice a fr.length cap]
  rw [hs2] at this
  exact this
 have HB := GR (show Below w.heap.size w (((w.alloc (.cells #[ag NB t, .bool back] 244)).alloc (.cells #[.pointer (some ⟨w.heap.size, 0, none⟩)] 242)).alloc (.cells #[.slice (some ⟨w.heap.size + 1, 0, none⟩) 1 1, .slice a fr.length cap] 198)) from
  (((Below.refl _ w).alloc (Nat.le_refl _) _).alloc (by simp) _).alloc (by rw [hs2]; omega) _)
 have hs3 : (((w.alloc (.cells #[ag NB t, .bool back] 244)).alloc (.cells #[.pointer (some ⟨w.heap.size, 0, none⟩)] 242)).alloc (.cells #[.slice (some ⟨w.heap.size + 1, 0, none⟩) 1 1, .slice a fr.length cap] 198)).heap.size = w.heap.size + 3 := by simp
 generalize (((w.alloc (.cells #[ag NB t, .bool back] 244)).alloc (.cells #[.pointer (some ⟨w.heap.size, 0, none⟩)] 242)).alloc (.cells #[.slice (some ⟨w.heap.size + 1, 0, none⟩) 1 1, .slice a fr.length cap] 198)) = W at k0 k1 k2 HB hs3 ⊢
 have HFW := GR (HF.out.below HB.out)
 have HK0 := GR k0
 have c0 := k2.cell 0
 have c1 := k2.cell 1
 have c2 := k1.cell 0
 obtain ⟨ys, hyl, hy0, hya, hy1, hab, hyf⟩ : ∃ ys : List Value, ys.length = fr.length ∧ (a = none → fr.length = 0 ∧ cap = 0) ∧ (∀ p, a = some p → ∀ j u, ys[j]? = some u → W.cell? (p.add j) = some u) ∧ (∀ u ∈ ys, u.oneCell' = true) ∧
   (∀ p, a = some p → p.block < W.heap.size ∧ ¬ X p.block) ∧ ∀ j (h : j < fr.length), ∃ q, ys[j]? = some (.pointer (some ⟨q, 0, none⟩)) ∧ ¬ X q ∧ Blk W q 244 #[ag NB (fr[j]).1, .bool (fr[j]).2] := by
  rcases HFW.out with ⟨h1, h2⟩ | ⟨b, off, cp, he, hb, hx, hc⟩
  ·injection h2 with e1 e2 e3
   refine ⟨[], by rw [h1]; rfl, fun _ => ⟨e2, e3⟩, (fun p hp => by rw [e1] at hp; cases hp), (fun _ h => by cases h), (fun p hp => by rw [e1] at hp; cases hp), fun j hj => by omega⟩
  ·injection he with e1 e2 e3
   have hq : ∀ j : Nat, ∃ q : Nat, ∀ h : j < fr.length, W.cell? ⟨b, off + j, none⟩ = some (.pointer (some ⟨q, 0, none⟩)) ∧ ¬ X q ∧ Blk W q 244 #[ag NB (fr[j]).1, .bool (fr[j]).2] := fun j => by
    by_cases h : j < fr.length
    ·obtain ⟨q, k⟩ := hc j h
     exact ⟨q, fun _ => k⟩
    ·exact ⟨0, fun h' => absurd h' h⟩
   obtain ⟨qf, hqf⟩ := Classical.axiomOfChoice hq
   have hget : ∀ j, j < fr.length → ((List.range fr.length).map fun j => Value.pointer (some ⟨qf j, 0, none⟩))[j]? = some (.pointer (some ⟨qf j, 0, none⟩)) := fun j hj => by simp [hj]
   refine ⟨(List.range fr.length).map fun j => .pointer (some ⟨qf j, 0, none⟩), by simp, (fun hn => by rw [e1] at hn; cases hn), (fun p hp j u hu => ?_), (fun u hu => ?_), (fun p hp => ?_), fun j hj => ⟨qf j, hget j hj, (hqf j hj).2⟩⟩
   ·rw [e1] at hp
    injection hp with hp
    have hj : j < fr.length := by
     have := (List.getElem?_eq_some_iff.1 hu).1
     simpa using this
    rw [hget j hj] at hu
    injection hu with hu
    rw [← hp, ← hu, Addr.add_lit]
    exact (hqf j hj).1
   ·obtain ⟨j, _, rfl⟩ := List.mem_map.1 hu
    rfl
   ·rw [e1] at hp
    injection hp with hp
    rw [← hp]
    exact ⟨hb, hx⟩
 have HC := GR (zn (w.heap.size + 1 + 1) (.pointer (some ⟨w.heap.size, 0, none⟩)) (w.heap.size + 1) a fr.length cap ys W (by omega) c0 c1 c2 rfl hyl hy0 hya hy1 (by omega) (by omega) fun p hp => (hab p hp).1)
 have HYF := GR hyf
 clear hyf hya hy1 hab c0 c1 c2 k0 k1 k2
 refine HC.out.mono ?_
 rintro e w' ⟨v, rfl, hown, hb⟩
 have HR : Hid (FrAt w' X NB v ((t, back) :: fr) ∧ Below w.heap.size w w') := GR (by
  refine ⟨.inr ?_, HB.out.trans (hb.mono HB.out.size)⟩
  rcases hown.2 with ⟨_, hz⟩ | ⟨g, gc, cur, rfl, hbg, hg, _⟩
  ·omega
  ·have hcell := hown.cells (g := g) rfl
   refine ⟨g, 0, gc, by rw [List.length_cons, Nat.add_comm], (Array.getElem?_eq_some_iff.1 hg).1, fun hx => by have := hX g hx; omega, fun j hj => ?_⟩
   cases j with
   | zero =>
    refine ⟨w.heap.size, ?_, fun hx => by have := hX _ hx; omega, HK0.out.below hb HK0.out.lt⟩
    have := hcell 0 (.pointer (some ⟨w.heap.size, 0, none⟩)) rfl
    rw [Addr.add_lit] at this
    exact this
   | succ j =>
    have hj' : j < fr.length := by simpa using hj
    obtain ⟨q, h1, h2, h3⟩ := HYF.out j hj'
    refine ⟨q, ?_, h2, h3.below hb h3.lt⟩
    have := hcell (j + 1) (.pointer (some ⟨q, 0, none⟩)) (by rw [List.getElem?_cons_succ]; exact h1)
    rw [Addr.add_lit] at this
    exact this)
 clear hown hb
 go_wp2_with fail
 go_ret
 exact ⟨_, rfl, HR.out⟩
end Go.Proofs.YtlkfakdghjaoaaaGreatDoor
namespace Go.Proofs.YtlkfakdghjaoaaaGreatDoor
open Go.RowKit
theorem xp (NB TB BB q x t : Nat) (g : List Bl) (c b : Bool) (w : World) (hN : NodesIn w NB g) (hx : x < g.length) (ht : t < g.length) (hF : Blk w q 244 #[ag NB x, .bool c]) (hT : w.cell? ⟨TB, 0, none⟩ = some (ag NB t)) (hB : w.cell? ⟨BB, 0, none⟩ = some (.bool b)) :
  Calls Tryz.prog 224 #[.pointer (some ⟨q, 0, none⟩), .pointer (some ⟨TB, 0, none⟩), .pointer (some ⟨BB, 0, none⟩)] w fun e w' => e = .returned (.bool (decide ((x, c) = (t, b)))) ∧ ∃ n, w' = w.drewN n := by
 obtain ⟨jt, hjt, hjs⟩ := Option.map_eq_some_iff.1 nY
 have c0 : w.cell? ⟨q, 0, none⟩ = some (ag NB x) := hF.cell 0
 have c1 : w.cell? ⟨q, 1, none⟩ = some (.bool c) := hF.cell 1
 have HN := GR hN
 clear hF hN
 have hcb : (c == b) = decide (c = b) := by cases c <;> cases b <;> rfl
 by_cases hq : x = t
 ·subst hq
  have heq := fun w => run_eql_ptr_same (P := Tryz.prog) w ⟨nb NB x, 0, none⟩ Tryz.underlying95 hjt
  have HE := GR (show decide ((x, c) = (x, b)) = decide (c = b) by simp)
  go_enter Tryz.func224, Tryz.ntmps224
  go_wp2_with fail
  go_quiet (fail)
  go_wp2_with fail
  go_ret
  exact ⟨jE (by rw [HE.out]), _, rfl⟩
 ·have heq := fun n => run_eql_ptr_other (P := Tryz.prog) (w.drewN n) (a := ⟨nb NB x, 0, none⟩) (b := ⟨nb NB t, 0, none⟩) Tryz.underlying95 hjt (by rw [hjs]; decide) (Ec hq) (HN.out x hx) (HN.out t ht)
  have HE := GR (show decide ((x, c) = (t, b)) = false from decide_eq_false fun e => hq (Prod.mk.inj e).1)
  clear hq
  go_enter Tryz.func224, Tryz.ntmps224
  go_wp2_with fail
  go_quiet (fail)
  go_wp2_with fail
  go_ret
  exact ⟨jE (by rw [HE.out]), _, rfl⟩
def pI (fr : List (Nat × Bool)) (x : Nat × Bool) : Nat := fr.findIdx fun y => decide (y = x)
theorem Es {fr : List (Nat × Bool)} {x : Nat × Bool} {k : Nat} (hk : k < fr.length) (he : fr[k] = x) (hb : ∀ j (h : j < fr.length), j < k → fr[j] ≠ x) : pI fr x = k := by
 unfold pI
 have h1 : fr.findIdx (fun y => decide (y = x)) ≤ k := by
  rcases Nat.lt_or_ge k (fr.findIdx fun y => decide (y = x)) with h | h
  ·have := List.not_of_lt_findIdx h
   simp at this
   exact absurd he this
  ·exact h
 rcases Nat.lt_or_ge (fr.findIdx fun y => decide (y = x)) k with h | h
 ·have h2 := List.findIdx_getElem (xs := fr) (p := fun y => decide (y = x)) (w := by omega)
  simp at h2
  exact absurd h2 (hb _ (by omega) h)
 ·omega
theorem yj {fr : List (Nat × Bool)} {x : Nat × Bool} (h : x ∈ fr) : pI fr x < fr.length := by
 unfold pI
 exact List.findIdx_lt_length_of_exists ⟨x, h, by simp⟩
theorem uh (X : Nat → Prop) (NB TB BB t : Nat) (b : Bool) (fv : Value) (fr : List (Nat × Bool)) (g : List Bl) (w : World) (h : FrAt w X NB fv fr) (hl : fr.length ≤ 60) (hN : NodesIn w NB g) (hfl : ∀ e ∈ fr, e.1 < g.length) (ht : t < g.length)
  (hT : w.cell? ⟨TB, 0, none⟩ = some (ag NB t)) (hB : w.cell? ⟨BB, 0, none⟩ = some (.bool b)) (hm : (t, b) ∈ fr) :
  Calls Tryz.prog 223 #[fv, .func (.func 224) #[] #[.pointer (some ⟨TB, 0, none⟩), .pointer (some ⟨BB, 0, none⟩)]] w fun e w' => e = .returned (.int .i64 (pI fr (t, b))) ∧ ∃ n, w' = w.drewN n := by
 have hpos : 0 < fr.length := List.length_pos_of_mem hm
 rcases h with ⟨h1, _⟩ | ⟨fb, off, cap, rfl, hb, hx, hc⟩
 ·rw [h1] at hm; cases hm
 have HC := GR hc
 have HN := GR hN
 have HFL := GR hfl
 have HM := GR hm
 have HIS := GR (fun (q x : Nat) (c : Bool) (n : Nat) (hx : x < g.length) (hF : Blk w q 244 #[ag NB x, .bool c]) => xp NB TB BB q x t g c b (w.drewN n) hN hx ht hF hT hB)
 clear hc hN hfl hm hT hB hx
 go_enter Tryz.func223, Tryz.ntmps223
 go_wp2_with fail
 go_loopw [8] (fun i wr => ∃ k n : Nat, k ≤ fr.length ∧ i = .int .i64 k ∧ wr = w.drewN n ∧ Hid (∀ j (h : j < fr.length), j < k → fr[j] ≠ (t, b))) (fun i _ => fr.length - (intOf i).toNat)
 case atStart => exact ⟨0, 0, Nat.zero_le _, rfl, rfl, fun j _ h => absurd h (by omega)⟩
 case round =>
  obtain ⟨k, n, hk, rfl, rfl, HK⟩ := hrel
  have hlt : k < fr.length := by
   obtain ⟨j, hj, e⟩ := List.getElem_of_mem HM.out
   rcases Nat.lt_or_ge j k with h | h
   ·exact absurd e (HK.out j hj h)
   ·omega
  obtain ⟨q, c0, _, hF⟩ := HC.out k hlt
  have c0' : (w.drewN n).cell? ⟨fb, off + k, none⟩ = some (.pointer (some ⟨q, 0, none⟩)) := c0
  have HQ := GR (HIS.out q fr[k].1 fr[k].2 n (HFL.out _ (List.getElem_mem hlt)) hF)
  clear hF c0
  by_cases he : fr[k] = (t, b)
  ·have HE := GR (show decide ((fr[k].1, fr[k].2) = (t, b)) = true from decide_eq_true he)
   rw [HE.out] at HQ
   have HX := GR (Es hlt he HK.out)
   clear he
   go_wp2_with fail
   refine HQ.out.mono ?_
   rintro e w' ⟨rfl, m, rfl⟩
   go_wp2_with fail
   go_ret
   exact ⟨bz (by rw [HX.out]), n + m, by simp⟩
  ·have HE := GR (show decide ((fr[k].1, fr[k].2) = (t, b)) = false from decide_eq_false he)
   rw [HE.out] at HQ
   have HNE := GR he
   clear he
   go_wp2_with fail
   refine HQ.out.mono ?_
   rintro e w' ⟨rfl, m, rfl⟩
   go_wp2_with fail
   go_round
   case rel =>
    refine ⟨k + 1, n + m, by omega, by go_num, by simp, fun j h hj => ?_⟩
    rcases Nat.lt_succ_iff_lt_or_eq.1 hj with hj | rfl
    ·exact HK.out j h hj
    ·exact HNE.out
   case measure => simp [intOf]; omega
end Go.Proofs.YtlkfakdghjaoaaaGreatDoor
namespace Go.Proofs.YtlkfakdghjaoaaaGreatDoor
open Go.RowKit Go.Sort
theorem uT (i : Nat) (hi : i < 100) (w : World) : Calls Tryz.prog 225 #[.int .i64 i] w fun e w' => e = .returned (.string (tb (el i))) ∧ w = w' := by
 refine (Tryz.strconv_Itoa_small i hi w).mono ?_
 rintro e w' ⟨rfl, rfl⟩
 refine ⟨?_, rfl⟩
 have : ∀ i, i < 100 → Lib.decDigits i = el i := by decide +kernel
 rw [this i hi]; rfl
theorem C3 {B b : Nat} {bs : List Value} {w w' : World} (h : Bd B b bs w) (hb : Below w.heap.size w w') : Bd B b bs w' := by
 have key : ∀ p, Lib.BuilderAt 61 5 B b p bs w → Lib.BuilderAt 61 5 B b p bs w' := by
  rintro p ⟨hB, v, hk, hown, hne⟩
  exact ⟨hB, v, (hb.block b (Blk.lt hk)).trans hk, uK hown fun q hq => hb.block q (hown.lt q hq).2, hne⟩
 exact h.elim (fun k => .inl (key _ k)) fun k => .inr (key _ k)
theorem lD (X : Nat → Prop) (NB : Nat) (fv : Value) (fr : Fr) (g : List Bl) (w : World) (hv : aa g = true) (h : FrAt w X NB fv fr) (hl : fr.length ≤ 60) (hN : NodesIn w NB g) (hfl : ∀ e ∈ fr, e.1 < g.length) :
  Calls Tryz.prog 139 #[fv] w fun e w' => e = .returned (.string (tb (cH g fr))) ∧ Below w.heap.size w w' := by
 obtain ⟨a, cap, rfl⟩ := h.slice
 have HF := GR h
 have HN := GR hN
 have HFL := GR hfl
 have HV := GR hv
 clear h hN hfl hv
 go_enter Tryz.func139, Tryz.ntmps139
 go_wp2_with fail
 have hs1 : (w.alloc (.cells #[.pointer none, .slice none 0 0] 61)).heap.size = w.heap.size + 1 := by simp
 go_loopw [9] (fun i wr => ∃ k : Nat, k ≤ fr.length ∧ i = .int .i64 k ∧ Hid (Bd w.heap.size w.heap.size (Lib.strCells (tb (cH g (fr.take k)))) wr) ∧ Hid (Below w.heap.size w wr)) (fun i _ => fr.length - (intOf i).toNat)
 case atStart => exact ⟨0, Nat.zero_le _, rfl, AC w, (Below.refl _ w).alloc (Nat.le_refl _) _⟩
 case round =>
  obtain ⟨k, hk, rfl, HBD, HB⟩ := hrel
  by_cases hlt : k < fr.length
  ·obtain ⟨ex, hex⟩ : ∃ ex, ex = fr[k] := ⟨_, rfl⟩
   have hxl := HFL.out ex (hex ▸ List.getElem_mem hlt)
   have hFr := HF.out.below HB.out
   have hxr := gV HV.out hxl
   obtain ⟨b, off, rfl, q, c0, c1, c2⟩ : ∃ b off, a = some ⟨b, off, none⟩ ∧ ∃ q, wr.cell? ⟨b, off + k, none⟩ = some (.pointer (some ⟨q, 0, none⟩)) ∧ wr.cell? ⟨q, 0, none⟩ = some (ag NB ex.1) ∧ wr.cell? ⟨q, 1, none⟩ = some (.bool ex.2) := by
    rcases hFr with ⟨h1, _⟩ | ⟨b, off, cp, he, _, _, hc⟩
    ·rw [h1] at hlt; exact absurd hlt (by simp)
    ·injection he with e1 _ _
     obtain ⟨q, k1, _, k3⟩ := hc k hlt
     rw [← hex] at k3
     exact ⟨b, off, e1, q, k1, k3.cell 0, k3.cell 1⟩
   have hnd := HN.out ex.1 hxl
   have n1 : wr.cell? ⟨nb NB ex.1, 1, none⟩ = some (.string (cy g ex.1)) := by
    have h1 := (hnd.below HB.out hnd.lt).cell 1
    have h2 := eM HV.out hxl
    rw [al hxl] at h2
    rw [h1, ← h2]; rfl
   have hst : Lib.strCells (tb (cH g (fr.take k))) ++ Lib.strCells (tb [jz g ex]) = Lib.strCells (tb (cH g (fr.take (k + 1)))) := by
    rw [← nr, FF, List.take_succ_eq_append_getElem hlt, ← hex]
    unfold cH
    rw [List.map_append]; rfl
   have hcl : (Lib.strCells (tb (cH g (fr.take k)))).length ≤ 60 := by
    rw [Lib.strCells_length, aB]
    unfold cH
    rw [List.length_map]
    have := List.length_take_le k fr
    omega
   have HST := GR hst
   have HEX := GR hex
   have HW := GR (fun W2 (hb2 : Below wr.heap.size wr W2) (hd : Bd w.heap.size w.heap.size (Lib.strCells (tb (cH g (fr.take k)))) W2) => sB w.heap.size w.heap.size _ (tb [jz g ex]) W2 hd (by rw [aB]; simp; omega) (by have := HB.out.size; have := hb2.size; omega))
   have hsz := HB.out.size
   obtain ⟨NM, hNM⟩ : ∃ NM, NM = cy g ex.1 := ⟨_, rfl⟩
   rw [← hNM] at n1
   have HNM := GR hNM
   clear hFr hnd hst hNM hex
   cases hbk : ex.2 with
   | true =>
    rw [hbk] at c2
    have HL := GR (Tryz.strings_ToLower_ascii NM wr (by rw [HNM.out]; show 1 ≤ _; omega) (by
     rw [HNM.out]
     intro j b hb
     cases j with
     | zero =>
      have : au g ex.1 = b := by simpa [cy] using hb
      rw [← this]; omega
     | succ j => simp [cy] at hb))
    have hlow : (⟨(Lib.toLowerA NM.data.toList).toArray⟩ : ByteArray) = tb [jz g ex] := by
     rw [HNM.out]
     unfold jz
     rw [if_pos hbk]
     show (⟨([Lib.lowerB (au g ex.1)]).toArray⟩ : ByteArray) = _
     unfold Lib.lowerB Lib.isUpperB
     rw [if_pos (by rw [Bool.and_eq_true, decide_eq_true_iff, decide_eq_true_iff]; exact ⟨UInt8.le_iff_toNat_le.2 hxr.1, UInt8.le_iff_toNat_le.2 hxr.2⟩)]
     rfl
    rw [hlow] at HL
    clear hlow hbk
    go_wp2_with fail
    refine HL.out.mono ?_
    rintro e w2 ⟨rfl, b2⟩
    have HW2 := GR (HW.out w2 b2 (C3 HBD.out b2))
    have HB2 := GR (HB.out.trans (b2.mono hsz))
    clear b2
    go_wp2_with fail
    refine HW2.out.mono ?_
    rintro e w3 ⟨rfl, hd3, b3⟩
    rw [HST.out] at hd3
    have HB3 := GR (HB2.out.trans b3)
    have HD3 := GR hd3
    clear b3 hd3
    go_wp2_with fail
    go_round
    case rel => exact ⟨k + 1, by omega, by go_num, HD3, HB3⟩
    case measure => simp [intOf]; omega
   | false =>
    rw [hbk] at c2
    have hlow : NM = tb [jz g ex] := by
     rw [HNM.out]
     unfold jz
     rw [if_neg (by rw [hbk]; simp)]
     rfl
    have HW2 := GR (HW.out wr (Below.refl _ _) HBD.out)
    rw [← hlow] at HW2
    rw [← hlow] at HST
    clear hlow hbk
    go_wp2_with fail
    refine HW2.out.mono ?_
    rintro e w3 ⟨rfl, hd3, b3⟩
    rw [HST.out] at hd3
    have HB3 := GR (HB.out.trans b3)
    have HD3 := GR hd3
    clear b3 hd3
    go_wp2_with fail
    go_round
    case rel => exact ⟨k + 1, by omega, by go_num, HD3, HB3⟩
    case measure => simp [intOf]; omega
  ·have hke : k = fr.length := by omega
   subst hke
   rw [List.take_length] at HBD
   have HS := GR (qh w.heap.size w.heap.size (tb (cH g fr)) wr HBD.out HB.out.size)
   go_wp2_with fail
   refine HS.out.mono ?_
   rintro e w2 ⟨rfl, b2⟩
   have HB2 := GR (HB.out.trans b2)
   clear b2
   go_wp2_with fail
   go_ret
   exact ⟨rfl, HB2.out⟩
end Go.Proofs.YtlkfakdghjaoaaaGreatDoor
