/-
  Contracts of a builder of strings that the call itself has made: writing to it, and what it then gives.
-/
import Derived.Test.YtdpjdhllaokbfaaGreatBase
import Derived.Test.YtdpjdhllaokbfaaGreatShelf
import Derived.Lib.Builder
import Derived.Lib.AppendStr
import Derived.Lib.UnsafeStr
import Derived.KernelRfl
import Derived.Laws.EntriesVeiled
import Derived.WalkLawsBesides
import Derived.Deep.OwnRows
import Derived.Deep.RegionWith
import Derived.Test.YtdpjdhllaokbfaaGreatIter
import Derived.Lib.OthersKept
namespace Go.Proofs.YtdpjdhllaokbfaaGreat
open Go.RowKit

theorem info_builder : (Tryz.prog.info? 92).map (·.size) = some 2 := by kernel_rfl
theorem info_byte : (Tryz.prog.info? 5).map (fun i => (i.zero, i.size, i.bytes)) = some (some (.int .u8 0), 1, 1) := by kernel_rfl
theorem lies_builder : liesAt Tryz.prog Tryz.prog.depth 92 (2 / Tryz.prog.cellsOf 92) 0 92 1 = true := by kernel_rfl

abbrev Bd (B b : Nat) (bs : List Value) (w : World) : Prop := Lib.IsBuilder 92 5 B b bs w

theorem copyCheck_used (b : Nat) (w : World) (h0 : w.cell? ⟨b, 0, none⟩ = some (.pointer (some ⟨b, 0, none⟩))) :
    Calls Tryz.prog 81 #[.pointer (some ⟨b, 0, none⟩)] w fun e w' => e = .returned (.tuple #[]) ∧ w = w' := by
  obtain ⟨j, hj, _⟩ := Option.map_eq_some_iff.1 info_builder
  have hne := Lib.run_neq_ptr_same (P := Tryz.prog) w ⟨b, 0, none⟩ Tryz.underlying90 hj
  go_enter Tryz.func81, Tryz.ntmps81
  go_wp2
  go_end0
  exact ⟨rfl, rfl⟩

set_option maxRecDepth 100000 in
theorem copyCheck_fresh (b : Nat) (w : World) (h0 : w.cell? ⟨b, 0, none⟩ = some (.pointer none)) (hsh : w.shape? b = some (92, 2)) (hfz : w.frozen? ⟨b, 0, none⟩ = false) :
    Calls Tryz.prog 81 #[.pointer (some ⟨b, 0, none⟩)] w fun e w' => e = .returned (.tuple #[]) ∧ w.setCell ⟨b, 0, none⟩ (.pointer (some ⟨b, 0, none⟩)) = w' := by
  obtain ⟨j, hj, hjs⟩ := Option.map_eq_some_iff.1 info_builder
  have r1 := Lib.run_to_unsafe (P := Tryz.prog) w ⟨b, 0, none⟩ Tryz.underlying90 Tryz.underlying130 hj (by rw [hjs]; decide) hsh (Nat.zero_lt_succ 1)
  have r2 := Lib.run_from_unsafe (P := Tryz.prog) w ⟨b, 0, none⟩ Tryz.underlying130 Tryz.underlying90 hj hsh lies_builder
  have hne := fun W => Lib.run_neq_ptr_same (P := Tryz.prog) W ⟨b, 0, none⟩ Tryz.underlying90 hj
  go_enter Tryz.func81, Tryz.ntmps81
  go_wp2
  rw [run_callFunc_extern Tryz.func95 (by kernel_rfl) (by kernel_rfl) (by kernel_rfl) (e := Extern.AbiNoEscape.same) (by kernel_rfl), Lib.run_noEscape]
  simp only [Result.andThen]
  rw [Oper.upon_value]
  go_wp2
  go_end0
  exact ⟨rfl, rfl⟩

theorem copyCheck_any (B b : Nat) (bs : List Value) (w : World) (h : Bd B b bs w) :
    Calls Tryz.prog 81 #[.pointer (some ⟨b, 0, none⟩)] w fun e w' => e = .returned (.tuple #[]) ∧ Lib.BuilderAt 92 5 B b (.pointer (some ⟨b, 0, none⟩)) bs w' ∧ Below B w w' := by
  rcases h with h | h
  · refine (copyCheck_fresh b w h.cell0 h.shape h.frozen0).mono ?_
    rintro e w' ⟨rfl, rfl⟩
    exact ⟨rfl, h.used _, (Below.refl B w).setCell (p := ⟨b, 0, none⟩) h.1 _⟩
  · refine (copyCheck_used b w h.cell0).mono ?_
    rintro e w' ⟨rfl, rfl⟩
    exact ⟨rfl, h, Below.refl B _⟩

set_option maxHeartbeats 800000 in
set_option maxRecDepth 100000 in
theorem write_any (B b : Nat) (bs : List Value) (s : ByteArray) (w : World) (h : Bd B b bs w) (hlen : bs.length + s.size ≤ 1048576) (hBw : B ≤ w.heap.size) :
    Calls Tryz.prog 68 #[.pointer (some ⟨b, 0, none⟩), .string s] w fun e w' => e = .returned (.tuple #[.int .i64 s.size, .nilIface]) ∧ Bd B b (bs ++ Lib.strCells s) w' ∧ Below B w w' := by
  obtain ⟨i0, hi, hz0, hz1, hz2⟩ := info_parts info_byte
  go_enter Tryz.func68, Tryz.ntmps68
  go_wp2_with fail
  refine (copyCheck_any B b bs _ h).mono ?_
  rintro e w1 ⟨rfl, ⟨hB, v, hbk, hown, hne⟩, hb1⟩
  have hblk : Blk w1 b 92 #[.pointer (some ⟨b, 0, none⟩), v] := hbk
  have c1 := hblk.cell 1
  have hw1 := hb1.size
  go_wp2_with (at_builtin; refine Lib.wpList_append_own_string _ rfl _ _ 89 9 rfl B 5 i0 Tryz.underlying89 Tryz.underlying9 hi hz0 hz1 hz2 _ _ _ rfl hown s rfl ?c3 ?c4 ?c5 ?_)
  case c3 => unfold maxLen; omega
  case c4 => omega
  case c5 => omega
  intro v' w2 hown' hgrow _
  have hblk2 : Blk w2 b 92 #[.pointer (some ⟨b, 0, none⟩), v] := (hgrow.block b hblk.lt (fun e => hne e.symm)).trans hblk
  have d1 := hblk2.cell 1
  have f1 := hblk2.frozen 1
  obtain ⟨ao, n', cap, rfl⟩ : ∃ ao n' cap, v' = .slice ao n' cap := by
    rcases hown'.2 with ⟨hv, _⟩ | ⟨g, cap, cur, hv, _⟩
    · exact ⟨_, _, _, hv⟩
    · exact ⟨_, _, _, hv⟩
  go_wp2
  go_ret2
  refine ⟨rfl, Or.inr (Lib.BuilderAt.put (T := 92) (e := 5) hB hblk2 (bs' := bs ++ Lib.strCells s) (by simpa [Lib.strCells_length] using hown') (by decide)), ?_⟩
  exact (hb1.grown hgrow (by omega) (fun k hk => (hown.lt k hk).1)).setCell (p := ⟨b, 1, none⟩) hB _

/-- A new builder. -/
theorem bd_new (w : World) : Bd w.heap.size w.heap.size [] (w.alloc (.cells #[.pointer none, .slice none 0 0] 92)) :=
  Or.inl ⟨Nat.le_refl _, .slice none 0 0, Blk.new _ _ _, World.ownsRow_nil _ _ _ _, by simp [Value.ownBlock]⟩

theorem cells_append (s t : ByteArray) : Lib.strCells (s ++ t) = Lib.strCells s ++ Lib.strCells t := by
  simp [Lib.strCells]

theorem string_any (B b : Nat) (s : ByteArray) (w : World) (h : Bd B b (Lib.strCells s) w) (hBw : B ≤ w.heap.size) :
    Calls Tryz.prog 69 #[.pointer (some ⟨b, 0, none⟩)] w fun e w' => e = .returned (.string s) ∧ Below B w w' := by
  have := Tryz.Builder_String_any B b s.data.toList w h hBw
  exact this
end Go.Proofs.YtdpjdhllaokbfaaGreat

/-
  Writing to a builder beside blocks that others hold: they stand as they stood, and the builder's own row is none of them.
-/
namespace Go.Proofs.YtdpjdhllaokbfaaGreat
open Go.RowKit

/-- Where the row of a string appended to an own row of bytes lies: where it lay, or in a new block. -/
theorem append_str_where {P : Program} {w : World} {t u ty e : TypeId} {i : TypeInfo} (ht : P.underlying t = some (.slice e)) (hu : P.underlying u = some .string) (hi : P.info? e = some i) (hz : i.zero = some (.int .u8 0))
    (hsize : i.size = 1) (hby : i.bytes = 1) {base : Nat} {v : Value} {n : Nat} {xs : List Value} (hown : w.ownsRow base e 1 v n xs) {s : ByteArray}
    (h63 : n + s.size ≤ maxLen) (hbytes : n + s.size ≤ 140737488355328) (hbase : base ≤ w.heap.size) {v' : Value} {w' : World}
    (hr : (Builtin.append_ #[t, u] ty #[v, .string s]).run P w = .ok v' w') : v'.ownBlock = v.ownBlock ∨ v'.ownBlock = some w.heap.size := by
  have hsmall : n + s.size ≤ 9223372036854775807 := by simp only [maxLen] at h63; omega
  have hxl : xs.length = n := by simpa using hown.1
  obtain ⟨v2, w2, hr2, _, _, hnil⟩ := Lib.run_append_own_string (P := P) w base t u ty e i ht hu hi hz hsize hby v n xs hown s h63 hbytes hbase
  rw [hr] at hr2
  injection hr2 with e1 e2
  subst e1
  clear e2
  rcases hown.2 with ⟨rfl, rfl⟩ | ⟨g, cap, cur, rfl, hbg, hg, hnc, hcm, hcs, _⟩
  · by_cases hm : s.size = 0
    · left; rw [hnil.2 ⟨rfl, hm⟩]
    · right
      have h3 := run_append_nil_string (P := P) w t u ty e i (.int .u8 0) ht hu hi hz s (by omega) (by omega) (by rw [hby]; omega)
      rw [hr] at h3
      injection h3 with e1 _
      rw [e1]; rfl
  · by_cases hroom : n + s.size ≤ cap
    · left
      have h3 := Lib.run_append_room_string (P := P) w t u ty e i ht hu hi hsize g n cap cur hg s hroom (by have : cur.size = cap := by simpa using hcs
                                                                                                            omega)
      rw [hr] at h3
      injection h3 with e1 _
      rw [e1]; rfl
    · right
      have h3 := Lib.run_append_grow_string (P := P) w t u ty e i (.int .u8 0) ht hu hi hz ⟨g, 0, none⟩ n cap xs (by rw [hsize]; simpa using hxl) (hown.cells (g := g) rfl) s (by omega) (by omega) (by rw [hby]; exact growslice_fits (by omega) (by omega))
      rw [hr] at h3
      injection h3 with e1 _
      rw [e1]; rfl

theorem wpList_append_str_where {P : Program} {w : World} {ops : Array Oper} {rest : List Oper} {o : Oper} {a : Act} {Q : Exit → Act → World → Prop} (hgd : o.guard = none) (sl x : Operand) (t u : TypeId)
    (ho : o.op = .call { callee := .builtin .append, args := #[sl, x], argTypes := #[t, u] })
    (base : Nat) (e : TypeId) (i : TypeInfo) (ht : P.underlying t = some (.slice e)) (hu : P.underlying u = some .string) (hi : P.info? e = some i) (hz : i.zero = some (.int .u8 0)) (hsize : i.size = 1) (hby : i.bytes = 1)
    (v : Value) (n : Nat) (xs : List Value) (hs : a.eval sl = v) (hown : w.ownsRow base e 1 v n xs) (s : ByteArray) (hx : a.eval x = .string s)
    (h63 : n + s.size ≤ maxLen) (hbytes : n + s.size ≤ 140737488355328) (hbase : base ≤ w.heap.size)
    (h : ∀ v' w', w'.ownsRow base e 1 v' (n + s.size) (xs ++ Lib.strCells s) → w.grownBy w' v.ownBlock → (v'.ownBlock = v.ownBlock ∨ v'.ownBlock = some w.heap.size) → wpList P ops Q rest (a.put o.dst v') w') : wpList P ops Q (o :: rest) a w := by
  refine wpList_plain hgd fun K hK => ?_
  obtain ⟨v', w', hr, h2, h3, _⟩ := Lib.run_append_own_string (P := P) w base t u o.type e i ht hu hi hz hsize hby v n xs hown s h63 hbytes hbase
  have h4 := append_str_where ht hu hi hz hsize hby hown h63 hbytes hbase hr
  unfold Oper.wp execOp
  simp only [ho, resolve, invoke, builtin, Sem.run_bind, Sem.run_pure, Result.andThen_ok, List.map_toArray, List.map_cons, List.map_nil, hs, hx, hr]
  exact hK _ _ (h v' w' h2 h3 h4)

/-- A builder in block b that holds some bytes; its row is none of what others hold. -/
def BdK (b : Nat) (bs : List Value) (K : Nat → Prop) (w : World) : Prop :=
  ∃ p v, (p = .pointer none ∨ p = .pointer (some ⟨b, 0, none⟩)) ∧ Blk w b 92 #[p, v] ∧ w.ownsRow b 5 1 v bs.length bs ∧ v.ownBlock ≠ some b ∧ ∀ g, v.ownBlock = some g → ¬ K g

theorem BdK.bd {b : Nat} {bs : List Value} {K : Nat → Prop} {w : World} (h : BdK b bs K w) : Bd b b bs w := by
  obtain ⟨p, v, rfl | rfl, hb, hown, hne, _⟩ := h
  · exact .inl ⟨Nat.le_refl _, v, hb, hown, hne⟩
  · exact .inr ⟨Nat.le_refl _, v, hb, hown, hne⟩
theorem bdK_new (K : Nat → Prop) (w : World) : BdK w.heap.size [] K (w.alloc (.cells #[.pointer none, .slice none 0 0] 92)) :=
  ⟨_, .slice none 0 0, .inl rfl, Blk.new _ _ _, World.ownsRow_nil _ _ _ _, by simp [Value.ownBlock], fun g h => by cases h⟩

theorem bdK_at {b : Nat} {w : World} (K : Nat → Prop) (h : Blk w b 92 #[.pointer none, .slice none 0 0]) : BdK b [] K w :=
  ⟨_, .slice none 0 0, .inl rfl, h, World.ownsRow_nil _ _ _ _, by simp [Value.ownBlock], fun g h => by cases h⟩
theorem BdK.lt {b : Nat} {bs : List Value} {K : Nat → Prop} {w : World} (h : BdK b bs K w) : b < w.heap.size := by
  obtain ⟨_, _, _, hb, _⟩ := h
  exact hb.lt

theorem own_set {w : World} {b : Nat} {e : TypeId} {v : Value} {n : Nat} {xs : List Value} {base : Nat} (h : w.ownsRow base e 1 v n xs) (hne : v.ownBlock ≠ some b) (l : Nat) (u : Value) : (w.setCell ⟨b, l, none⟩ u).ownsRow base e 1 v n xs := by
  refine ⟨h.1, ?_⟩
  rcases h.2 with hn | ⟨g, cap, cur, rfl, hb2, hg, rest⟩
  · exact .inl hn
  · exact .inr ⟨g, cap, cur, rfl, hb2, (Below.heap_setCell w ⟨b, l, none⟩ u g (fun e => hne (by rw [e]; rfl))).trans hg, rest⟩
theorem own_kept {w w' : World} {e : TypeId} {v : Value} {n : Nat} {xs : List Value} {base : Nat} (h : w.ownsRow base e 1 v n xs) (hk : ∀ g, v.ownBlock = some g → w'.heap[g]? = w.heap[g]?) : w'.ownsRow base e 1 v n xs := by
  refine ⟨h.1, ?_⟩
  rcases h.2 with hn | ⟨g, cap, cur, rfl, hb2, hg, rest⟩
  · exact .inl hn
  · exact .inr ⟨g, cap, cur, rfl, hb2, (hk g rfl).trans hg, rest⟩

/-- What leaves the builder's block and its row as they are leaves the builder. -/
theorem BdK.kept {b : Nat} {bs : List Value} {K K' : Nat → Prop} {w w' : World} (h : BdK b bs K w) (hb : w'.heap[b]? = w.heap[b]?) (hk : ∀ g, g < w.heap.size → ¬ K g → w'.heap[g]? = w.heap[g]? ∧ ¬ K' g) : BdK b bs K' w' := by
  obtain ⟨p, v, hp, hbk, hown, hne, hno⟩ := h
  exact ⟨p, v, hp, hb.trans hbk, own_kept hown fun g hg => (hk g (hown.lt g hg).2 (hno g hg)).1, hne, fun g hg => (hk g (hown.lt g hg).2 (hno g hg)).2⟩

theorem copyCheck_k (b : Nat) (w : World) (p v : Value) (hp : p = .pointer none ∨ p = .pointer (some ⟨b, 0, none⟩)) (hbk : Blk w b 92 #[p, v]) (bs : List Value) (hown : w.ownsRow b 5 1 v bs.length bs) (hne : v.ownBlock ≠ some b) :
    Calls Tryz.prog 81 #[.pointer (some ⟨b, 0, none⟩)] w fun e w' => e = .returned (.tuple #[]) ∧ Blk w' b 92 #[.pointer (some ⟨b, 0, none⟩), v] ∧ w'.ownsRow b 5 1 v bs.length bs ∧
      w'.heap.size = w.heap.size ∧ Below b w w' ∧ ∀ k, k ≠ b → w'.heap[k]? = w.heap[k]? := by
  rcases hp with rfl | rfl
  · have hB : Lib.BuilderAt 92 5 b b (.pointer none) bs w := ⟨Nat.le_refl _, v, hbk, hown, hne⟩
    refine (copyCheck_fresh b w hB.cell0 hB.shape hB.frozen0).mono ?_
    rintro e w' ⟨rfl, rfl⟩
    refine ⟨rfl, ?_, own_set hown hne 0 _, by simp, (Below.refl b w).setCell (p := ⟨b, 0, none⟩) (Nat.le_refl _) _, fun k hk => Below.heap_setCell w ⟨b, 0, none⟩ _ k hk⟩
    exact hbk.set_ 0 (.pointer (some ⟨b, 0, none⟩))
  · refine (copyCheck_used b w (hbk.cell 0)).mono ?_
    rintro e w' ⟨rfl, rfl⟩
    exact ⟨rfl, hbk, hown, rfl, Below.refl _ _, fun _ _ => rfl⟩

set_option maxHeartbeats 800000 in
set_option maxRecDepth 100000 in
theorem write_k (b : Nat) (bs : List Value) (s : ByteArray) (K : Nat → Prop) (w : World) (h : BdK b bs K w) (hK : ∀ k, K k → k < w.heap.size ∧ k ≠ b) (hlen : bs.length + s.size ≤ 1048576) :
    Calls Tryz.prog 68 #[.pointer (some ⟨b, 0, none⟩), .string s] w fun e w' => e = .returned (.tuple #[.int .i64 s.size, .nilIface]) ∧ BdK b (bs ++ Lib.strCells s) K w' ∧ Below b w w' ∧ Keeps K w w' := by
  obtain ⟨i0, hi, hz0, hz1, hz2⟩ := info_parts info_byte
  obtain ⟨p, v, hp, hbk, hown, hne, hno⟩ := h
  have HC := Lib.hid (copyCheck_k b w p v hp hbk bs hown hne)
  have hblt := hbk.lt
  have hol := hown.lt
  clear hp hbk hown
  go_enter Tryz.func68, Tryz.ntmps68
  go_wp2_with fail
  refine HC.out.mono ?_
  rintro e w1 ⟨rfl, hblk, hown, hs1, hb1, hk1⟩
  have c1 := hblk.cell 1
  have HS1 := Lib.hid hs1
  have HK1 := Lib.hid hk1
  have hbw1 : b ≤ w1.heap.size := by omega
  clear hk1 hs1
  go_wp2_with (at_builtin; refine wpList_append_str_where rfl _ _ 89 9 rfl b 5 i0 Tryz.underlying89 Tryz.underlying9 hi hz0 hz1 hz2 _ _ _ rfl hown s rfl ?c3 ?c4 ?c5 ?_)
  case c3 => unfold maxLen; omega
  case c4 => omega
  case c5 => exact hbw1
  intro v' w2 hown' hgrow hat
  have hne1 : some b ≠ v.ownBlock := fun e => hne e.symm
  have hblk2 : Blk w2 b 92 #[.pointer (some ⟨b, 0, none⟩), v] := (hgrow.block b hblk.lt hne1).trans hblk
  have hne' : v'.ownBlock ≠ some b := by
    rcases hat with e | e
    · rw [e]; exact hne
    · rw [e]; intro h; injection h with h; have := hblk.lt; omega
  have hno' : ∀ g, v'.ownBlock = some g → ¬ K g := by
    intro g hg hk
    rcases hat with e | e
    · rw [e] at hg; exact hno g hg hk
    · rw [e] at hg; injection hg with hg; have := (hK g hk).1; have := HS1.out; omega
  have hkk : ∀ k, K k → w2.heap[k]? = w.heap[k]? := by
    intro k hk
    have h1 := hK k hk
    refine (hgrow.block k (by have := HS1.out; omega) fun e => hno k e.symm hk).trans (HK1.out k h1.2)
  have HKK := Lib.hid hkk
  have HNE := Lib.hid hne'
  have HNO := Lib.hid hno'
  have HOWN := Lib.hid hown'
  have HBG := Lib.hid (hb1.grown hgrow (by omega) (fun k hk => (hown.lt k hk).1))
  have hsz2 := hgrow.size
  have d1 := hblk2.cell 1
  have f1 := hblk2.frozen 1
  have HBK := Lib.hid hblk2
  clear hkk hne' hno' hat hgrow hown hblk c1 hne1
  obtain ⟨ao, n', cap, rfl⟩ : ∃ ao n' cap, v' = .slice ao n' cap := by
    rcases hown'.2 with ⟨hv, _⟩ | ⟨g, cap, cur, hv, _⟩
    · exact ⟨_, _, _, hv⟩
    · exact ⟨_, _, _, hv⟩
  clear hown'
  go_wp2
  go_ret2
  have hlc : (bs ++ Lib.strCells s).length = bs.length + s.size := by rw [List.length_append, Lib.strCells_length]
  refine ⟨rfl, ⟨_, _, .inr rfl, HBK.out.set_ 1 (.slice ao n' cap), ?_, HNE.out, HNO.out⟩, HBG.out.setCell (p := ⟨b, 1, none⟩) (Nat.le_refl _) _, ⟨?_, fun k hk hKk => ?_⟩⟩
  · rw [hlc]; exact own_set HOWN.out HNE.out 1 _
  · have := HS1.out; simp; omega
  · exact (Below.heap_setCell w2 ⟨b, 1, none⟩ _ k (hK k hKk).2).trans (HKK.out k hKk)
end Go.Proofs.YtdpjdhllaokbfaaGreat
