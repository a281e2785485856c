/-
  The map of the kinds of jumps: its keys, how it lies, how it is written and read.
-/
import Derived.Test.YtdolbmonmkjajaaGreatJumpMath
import Derived.Test.YtdolbmonmkjajaaGreatValids
import Derived.Maps.Own
import Derived.Maps.OwnOps
import Derived.Maps.OwnSet
import Derived.DeepKeys4
namespace Go.Proofs.YtdolbmonmkjajaaGreat
open Go.RowKit Go.Sort Go.Maps Go.WideMaps

theorem jumpRow : (131 : TypeId) < Tryz.prog.types.size := of_decide_eq_true (by kernel_rfl)
theorem jumpKey : Tryz.prog.keyType 131 = true := by kernel_rfl
theorem jumpDeep : Tryz.prog.keyTypeAt 3 131 = true := by kernel_rfl
theorem jumpCells : Tryz.prog.cellsOf 131 = 2 := by kernel_rfl
theorem jumpCell : Tryz.prog.cellsOf 5 = 1 := by kernel_rfl
theorem jumpWide : (match Tryz.prog.underlying 131 with | some (.array _ _) | some (.struct _) => true | _ => false) = true := by kernel_rfl
set_option maxRecDepth 100000 in
theorem jumpLaw : Keyed Tryz.prog 131 := Keyed.of_law (deep_law_laid laidOut (m := 3) (by omega) jumpRow jumpDeep jumpWide)
theorem size_succ {n k : Nat} (h : k < n) : ∃ m, n = m + 1 := ⟨n - 1, by omega⟩
theorem jumpTypes : ∃ n, Tryz.prog.types.size = n + 1 := size_succ jumpRow

theorem u8_wf (a : UInt8) : (Lit.int .u8 (a.toNat : Int)).wf = true := by
  have e0 : IntKind.u8.min = 0 := rfl
  have e1 : IntKind.u8.max = 255 := rfl
  have := a.toNat_lt
  simp [Lit.wf, e0, e1]
  omega

/-- A jump as a value. -/
abbrev jv (a b : UInt8) : Value := .agg #[.int .u8 a.toNat, .int .u8 b.toNat]

theorem key_some (a b : UInt8) : ∃ l, keyOf Tryz.prog 131 (jv a b) = some l := by
  have hu := Tryz.underlying131
  have hf : (jv a b).formed Tryz.prog 131 = true := by simp [Value.formed, hu, jumpCells]
  have ha := u8_wf a
  have hb := u8_wf b
  obtain ⟨n, hn⟩ := jumpTypes
  unfold keyOf
  simp only [hu, jumpKey, hf, Bool.and_self, if_true]
  rw [hn]
  have hu8 := Tryz.underlying5
  have hlits : Tryz.prog.keyLits (n + 1 + 1) 131 (jv a b).cells.toList = some [.int .u8 a.toNat, .int .u8 b.toNat] := by
    simp [Program.keyLits, hu, hu8, jumpCells, jumpCell, ha, hb, Value.cells, show List.range 2 = [0, 1] from rfl]
  rw [hlits]
  exact ⟨_, rfl⟩

/-- The key of a jump. -/
noncomputable def klit (a b : UInt8) : Lit := (key_some a b).choose
theorem klit_key (a b : UInt8) : keyOf Tryz.prog 131 (jv a b) = some (klit a b) := (key_some a b).choose_spec
theorem klit_is (a b : UInt8) : WideAt.IsKeyLit (klit a b) := jumpLaw.key (klit_key a b)
theorem u8_cast {a b : UInt8} (h : (a.toNat : Int) = b.toNat) : a = b := UInt8.toNat_inj.1 (by omega)
theorem klit_ne {a b a' b' : UInt8} (h : ¬ (a = a' ∧ b = b')) : klit a b ≠ klit a' b' := fun e => by
  have h1 := klit_key a b
  rw [e] at h1
  have h2 := jumpLaw.inj h1 (klit_key a' b')
  simp only [jv, Value.agg.injEq] at h2
  have h3 := congrArg Array.toList h2
  simp only [List.cons.injEq, Value.int.injEq, true_and, and_true] at h3
  exact h ⟨u8_cast h3.1, u8_cast h3.2⟩

/-- The letter of a block. -/
def letC (g : List Bl) (i : Nat) : UInt8 := (nthName g i).data.toList.getD 0 0
theorem letC_name {g : List Bl} (hv : validB g = true) {i : Nat} (hi : i < g.length) : g[i].1 = ⟨#[letC g i]⟩ := by
  obtain ⟨c, hc, _⟩ := valid_one hv (List.getElem_mem hi)
  unfold letC
  rw [nthName_at hi, hc]; rfl
theorem letC_inj {g : List Bl} (hv : validB g = true) {i j : Nat} (hi : i < g.length) (hj : j < g.length) (h : letC g i = letC g j) : i = j :=
  name_inj hv hi hj (by rw [letC_name hv hi, letC_name hv hj, h])

noncomputable abbrev kl (g : List Bl) (i t : Nat) : Lit := klit (letC g i) (letC g t)
theorem kl_ne {g : List Bl} (hv : validB g = true) {i t i' t' : Nat} (hi : i < g.length) (ht : t < g.length) (hi' : i' < g.length) (ht' : t' < g.length) (h : ¬ (i = i' ∧ t = t')) : kl g i t ≠ kl g i' t' :=
  klit_ne fun e => h ⟨letC_inj hv hi hi' e.1, letC_inj hv ht ht' e.2⟩

abbrev MapIs (w : World) (MB n : Nat) (D : DataW Unit) : Prop := w.ownsMap Tryz.prog 131 (plainElem Tryz.prog 78) MB n D

/-- The map as it lies: it holds the kinds of the jumps P. -/
def KMap (w : World) (g : List Bl) (MB n : Nat) (P : Nat → Nat → Prop) : Prop :=
  ∃ D : DataW Unit, MapIs w MB n D ∧ IsMap D ∧ ∀ i t, i < g.length → t < g.length →
    (P i t → Maps.has D (kl g i t) = true ∧ ∀ z, D.atKey (kl g i t) z = .lit (.int .i64 (kindN g i t))) ∧ (¬ P i t → Maps.has D (kl g i t) = false)

theorem kind_wf (g : List Bl) (i t : Nat) : (Lit.int .i64 (kindN g i t : Int)).wf = true := by
  have e0 : IntKind.i64.min = -9223372036854775808 := rfl
  have e1 : IntKind.i64.max = 9223372036854775807 := rfl
  have := kind_lt g i t
  simp [Lit.wf, e0, e1]
  omega

theorem KMap.start (w : World) (g : List Bl) : KMap (w.alloc (.map #[] 0)) g w.heap.size 0 (fun _ _ => False) :=
  ⟨_, World.ownsMap_made w _ _ _, isMap_empty, fun _ _ _ _ => ⟨fun h => h.elim, fun _ => rfl⟩⟩

theorem KMap.mono {w : World} {g : List Bl} {MB n n' : Nat} {P : Nat → Nat → Prop} (h : KMap w g MB n P) (hn : n ≤ n') : KMap w g MB n' P := by
  obtain ⟨D, h1, h2, h3⟩ := h
  exact ⟨D, h1.mono hn, h2, h3⟩

theorem KMap.same {w : World} {g : List Bl} {MB n : Nat} {P P' : Nat → Nat → Prop} (h : KMap w g MB n P) (hp : ∀ i t, P i t ↔ P' i t) : KMap w g MB n P' := by
  obtain ⟨D, h1, h2, h3⟩ := h
  exact ⟨D, h1, h2, fun i t hi ht => ⟨fun e => (h3 i t hi ht).1 ((hp i t).2 e), fun e => (h3 i t hi ht).2 fun q => e ((hp i t).1 q)⟩⟩

theorem KMap.lt {w : World} {g : List Bl} {MB n : Nat} {P : Nat → Nat → Prop} (h : KMap w g MB n P) : MB < w.heap.size := by
  obtain ⟨D, h1, _⟩ := h
  exact World.ownsMap.lt h1

theorem KMap.keep {w w' : World} {g : List Bl} {MB n : Nat} {P : Nat → Nat → Prop} (h : KMap w g MB n P) (hk : w'.heap[MB]? = w.heap[MB]?) : KMap w' g MB n P := by
  obtain ⟨D, ⟨es, cl, hb, r⟩, h2, h3⟩ := h
  exact ⟨D, ⟨es, cl, hk.trans hb, r⟩, h2, h3⟩

/-- One more is written. -/
theorem KMap.put {w : World} {g : List Bl} {MB n : Nat} {P : Nat → Nat → Prop} (hv : validB g = true) (h : KMap w g MB n P) (hn : n ≤ 1048576) {i t : Nat} (hi : i < g.length) (ht : t < g.length) :
    ∃ w', (Instr.mapUpdate 69 (.map (some MB)) (jv (letC g i) (letC g t)) (.int .i64 (kindN g i t))).run Tryz.prog w = .ok () w' ∧ KMap w' g MB (n + 1) (fun a b => P a b ∨ (a = i ∧ b = t)) ∧ w.grownBy w' (some MB) := by
  obtain ⟨D, h1, h2, h3⟩ := h
  obtain ⟨w', r, h4, h5⟩ := World.ownsMap.update h1 jumpLaw Tryz.underlying69 (by unfold maxLen; omega) (klit_key (letC g i) (letC g t)) (plainElem_int Tryz.underlying78 (kind_wf g i t))
  refine ⟨w', r, ⟨_, h4, h2.put _ _, fun a b ha hb => ?_⟩, h5⟩
  by_cases e : a = i ∧ b = t
  · obtain ⟨rfl, rfl⟩ := e
    exact ⟨fun _ => ⟨has_put_same h2 (klit_is _ _) _, fun z => atKey_put_same h2 (klit_is _ _) _ z⟩, fun q => absurd (.inr ⟨rfl, rfl⟩) q⟩
  · have hne := kl_ne hv ha hb hi ht e
    rw [has_put_other hne]
    refine ⟨fun q => ?_, fun q => (h3 a b ha hb).2 fun p => q (.inl p)⟩
    have hp := (h3 a b ha hb).1 (q.resolve_right e)
    exact ⟨hp.1, fun z => by rw [atKey_put_other hne]; exact hp.2 z⟩

theorem kind_zero (w : World) : (zeroValue 78).run Tryz.prog w = .ok (.int .i64 0) w := by kernel_rfl
/-- The kind of a jump is read. -/
theorem KMap.look {w : World} {g : List Bl} {MB n : Nat} {P : Nat → Nat → Prop} (h : KMap w g MB n P) {i t : Nat} (hi : i < g.length) (ht : t < g.length) (hp : P i t) :
    (Instr.lookup 69 (.map (some MB)) (jv (letC g i) (letC g t)) false).run Tryz.prog w = .ok (.int .i64 (kindN g i t)) w := by
  obtain ⟨D, h1, h2, h3⟩ := h
  obtain ⟨c, r, hc, _⟩ := World.ownsMap.lookup_int h1 jumpLaw Tryz.underlying69 Tryz.underlying78 (kind_zero w) (klit_key (letC g i) (letC g t))
  have e := ((h3 i t hi ht).1 hp).2 (.lit (.int .i64 0))
  rw [hc] at e
  simp only [DataW.lit.injEq, Lit.int.injEq, true_and] at e
  rw [r, e]

theorem KMap.look_ok {w : World} {g : List Bl} {MB n : Nat} {P : Nat → Nat → Prop} (h : KMap w g MB n P) {i t : Nat} (hi : i < g.length) (ht : t < g.length) (hp : P i t) :
    (Instr.lookup 69 (.map (some MB)) (jv (letC g i) (letC g t)) true).run Tryz.prog w = .ok (.tuple #[.int .i64 (kindN g i t), .bool true]) w := by
  obtain ⟨D, h1, h2, h3⟩ := h
  obtain ⟨v, ps, r, hv⟩ := World.ownsMap.look_ok h1 jumpLaw Tryz.underlying69 (kind_zero w) (plainElem_int Tryz.underlying78 (by decide)) (klit_key (letC g i) (letC g t))
  have e := (h3 i t hi ht).1 hp
  rw [e.2] at hv
  obtain ⟨c, rfl, hc, _⟩ := plainElem_int_inv Tryz.underlying78 hv
  simp only [Prod.mk.injEq, DataW.lit.injEq, Lit.int.injEq, true_and] at hc
  rw [r, e.1, hc.1]

theorem KMap.look_no {w : World} {g : List Bl} {MB n : Nat} {P : Nat → Nat → Prop} (h : KMap w g MB n P) {i t : Nat} (hi : i < g.length) (ht : t < g.length) (hp : ¬ P i t) :
    ∃ c, (Instr.lookup 69 (.map (some MB)) (jv (letC g i) (letC g t)) true).run Tryz.prog w = .ok (.tuple #[.int .i64 c, .bool false]) w := by
  obtain ⟨D, h1, h2, h3⟩ := h
  obtain ⟨v, ps, r, hv⟩ := World.ownsMap.look_ok h1 jumpLaw Tryz.underlying69 (kind_zero w) (plainElem_int Tryz.underlying78 (by decide)) (klit_key (letC g i) (letC g t))
  obtain ⟨c, rfl, _, _⟩ := plainElem_int_inv Tryz.underlying78 hv
  rw [(h3 i t hi ht).2 hp] at r
  exact ⟨c, r⟩
end Go.Proofs.YtdolbmonmkjajaaGreat
