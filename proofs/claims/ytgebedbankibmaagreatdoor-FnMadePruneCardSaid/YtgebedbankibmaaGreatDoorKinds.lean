/-
  Jumps in the way order, headers, loops, where ways meet: plain facts.
-/
import Derived.Test.YtgebedbankibmaaGreatDoorDfs
import Derived.Test.YtgebedbankibmaaGreatDoorSpreadFrom
import Derived.Test.YtgebedbankibmaaGreatDoorSpecReached
import Derived.Test.YtgebedbankibmaaGreatDoorValids
import Derived.Maps.Own
import Derived.Maps.OwnOps
import Derived.Maps.OwnSet
import Derived.DeepKeys4
import Derived.Test.YtgebedbankibmaaGreatDoorOwnStr
import Derived.Test.YtgebedbankibmaaGreatDoorPrevOf
import Derived.Test.YtgebedbankibmaaGreatDoorRuns
import Derived.Laws.Bits64
import Derived.ProofKit
import Derived.ChangeSlices
import Derived.Deep.SlicePairs
namespace Go.Proofs.YtgebedbankibmaaGreatDoor

/-- Where an element stands. -/
def placeIn (l : List Nat) (x : Nat) : Nat := l.findIdx fun y => decide (y = x)

theorem placeIn_lt {l : List Nat} {x : Nat} (h : x ∈ l) : placeIn l x < l.length :=
  List.findIdx_lt_length_of_exists ⟨x, h, by simp⟩
theorem placeIn_get {l : List Nat} {x : Nat} (h : x ∈ l) : l[placeIn l x]'(placeIn_lt h) = x := by
  have := List.findIdx_getElem (xs := l) (p := fun y => decide (y = x)) (w := placeIn_lt h)
  exact of_decide_eq_true this
theorem placeIn_at {l : List Nat} (hn : l.Nodup) {k : Nat} (hk : k < l.length) : placeIn l l[k] = k := by
  have hm : l[k] ∈ l := List.getElem_mem hk
  exact (List.getElem_inj hn).1 (placeIn_get hm)
theorem placeIn_take {l : List Nat} (hn : l.Nodup) {x : Nat} (h : x ∈ l) (k : Nat) : x ∈ l.take k ↔ placeIn l x < k := by
  rw [List.mem_take_iff_getElem]
  constructor
  · rintro ⟨i, hi, e⟩
    have h1 : placeIn l x = i := by rw [← e]; exact placeIn_at hn (by omega)
    omega
  · intro hk
    have := placeIn_lt h
    exact ⟨placeIn l x, by omega, placeIn_get h⟩

/-- The place of a block in the way order. -/
def placeN (g : List Bl) (i : Nat) : Nat := placeIn (wayOrd g) i

/-- Which way a jump goes: 0 forward, 1 back to what dominates it, 2 back to another. -/
def kindN (g : List Bl) (i t : Nat) : Nat := if placeN g i < placeN g t then 0 else if dmB g t i then 1 else 2

theorem kind_fwd {g : List Bl} {i t : Nat} (h : placeN g i < placeN g t) : kindN g i t = 0 := by unfold kindN; rw [if_pos h]
theorem kind_tame {g : List Bl} {i t : Nat} (h : ¬ placeN g i < placeN g t) (hd : dmB g t i = true) : kindN g i t = 1 := by unfold kindN; rw [if_neg h, if_pos hd]
theorem kind_wild {g : List Bl} {i t : Nat} (h : ¬ placeN g i < placeN g t) (hd : dmB g t i = false) : kindN g i t = 2 := by unfold kindN; rw [if_neg h, hd]; rfl
theorem kind_lt (g : List Bl) (i t : Nat) : kindN g i t < 3 := by unfold kindN; split; omega; split <;> omega
theorem kind_back {g : List Bl} {i t : Nat} : kindN g i t ≠ 0 ↔ placeN g t ≤ placeN g i := by
  unfold kindN
  by_cases h : placeN g i < placeN g t
  · rw [if_pos h]; simp; omega
  · rw [if_neg h]
    constructor
    · intro _; omega
    · intro _; split <;> omega

/-- A set of kinds. -/
def fwdK (k : Nat) : Bool := k == 0
def wildK (k : Nat) : Bool := k == 2
def backK (k : Nat) : Bool := k == 1 || k == 2
theorem backK_kind {g : List Bl} {i t : Nat} : backK (kindN g i t) = decide (placeN g t ≤ placeN g i) := by
  have h1 := kind_lt g i t
  by_cases h : placeN g t ≤ placeN g i
  · rw [decide_eq_true h]
    have := kind_back.2 h
    unfold backK
    rcases Nat.lt_or_ge (kindN g i t) 2 with h | h
    · have : kindN g i t = 1 := by omega
      rw [this]; rfl
    · have : kindN g i t = 2 := by omega
      rw [this]; rfl
  · rw [decide_eq_false h]
    rw [kind_fwd (by omega)]; rfl

/-- The jumps of some kinds in the way order. -/
def jumpsOf1 (g : List Bl) (K : Nat → Bool) (i : Nat) : List (Nat × Nat) := ((nxt g i).filter fun t => K (kindN g i t)).map fun t => (i, t)
def jumpL (g : List Bl) (K : Nat → Bool) : List (Nat × Nat) := (wayOrd g).flatMap (jumpsOf1 g K)

theorem mem_jumpL {g : List Bl} (hv : validB g = true) {K : Nat → Bool} {j : Nat × Nat} : j ∈ jumpL g K ↔ Rch g [] j.1 ∧ j.2 ∈ nxt g j.1 ∧ K (kindN g j.1 j.2) = true := by
  unfold jumpL jumpsOf1
  rw [List.mem_flatMap]
  constructor
  · rintro ⟨i, hi, hj⟩
    obtain ⟨t, ht, e⟩ := List.mem_map.1 hj
    obtain ⟨h1, h2⟩ := List.mem_filter.1 ht
    rw [← e]; exact ⟨(mem_wayOrd hv).1 hi, h1, h2⟩
  · rintro ⟨h1, h2, h3⟩
    exact ⟨j.1, (mem_wayOrd hv).2 h1, List.mem_map.2 ⟨j.2, List.mem_filter.2 ⟨h2, h3⟩, rfl⟩⟩

/-- From which blocks jumps of some kinds go to one, in the order of the graph. -/
def srcL (g : List Bl) (K : Nat → Bool) (t : Nat) : List Nat := (reachS g).filter fun i => decide (t ∈ nxt g i) && K (kindN g i t)
theorem mem_srcL {g : List Bl} (hv : validB g = true) {K : Nat → Bool} {t i : Nat} : i ∈ srcL g K t ↔ Rch g [] i ∧ t ∈ nxt g i ∧ K (kindN g i t) = true := by
  unfold srcL
  rw [List.mem_filter, mem_reachS' hv, Bool.and_eq_true_iff, decide_eq_true_iff]
/-- To which blocks at least so many jumps of some kinds go, in the order of the graph. -/
def goalL (g : List Bl) (m : Nat) (K : Nat → Bool) : List Nat := (reachS g).filter fun t => decide (m ≤ (srcL g K t).length)
def headL (g : List Bl) : List Nat := goalL g 1 backK
def meetsL (g : List Bl) : List Nat := goalL g 2 fwdK

theorem goalL_lt {g : List Bl} (m : Nat) (K : Nat → Bool) : ∀ i ∈ goalL g m K, i < g.length := fun i hi => srt_lt (g := g) (l := reach g) (Nat.le_refl _) i (List.mem_filter.1 hi).1
theorem goalL_len {g : List Bl} (m : Nat) (K : Nat → Bool) : (goalL g m K).length ≤ (reachS g).length := List.length_filter_le _ _

theorem mem_headL {g : List Bl} (hv : validB g = true) {t : Nat} : t ∈ headL g ↔ Rch g [] t ∧ ∃ i, Rch g [] i ∧ t ∈ nxt g i ∧ backK (kindN g i t) = true := by
  unfold headL goalL
  rw [List.mem_filter, mem_reachS' hv, decide_eq_true_iff]
  constructor
  · rintro ⟨h1, h2⟩
    obtain ⟨i, hi⟩ := List.exists_mem_of_length_pos h2
    exact ⟨h1, i, (mem_srcL hv).1 hi⟩
  · rintro ⟨h1, i, hi⟩
    exact ⟨h1, List.length_pos_of_mem ((mem_srcL hv).2 hi)⟩

/-- The headers are the blocks to which jumps go back, sorted. -/
theorem head_srt {g : List Bl} (hv : validB g = true) : srt g ((jumpL g backK).map (·.2)) g.length = headL g := by
  unfold srt headL goalL reachS
  rw [List.filter_filter]
  refine List.filter_congr fun t ht => ?_
  rw [Bool.eq_iff_iff, decide_eq_true_iff, List.mem_map, Bool.and_eq_true_iff]
  have hh := mem_headL hv (t := t)
  unfold headL goalL at hh
  rw [List.mem_filter, mem_reachS' hv] at hh
  constructor
  · rintro ⟨j, hj, rfl⟩
    obtain ⟨h1, h2, h3⟩ := (mem_jumpL hv).1 hj
    have hr : Rch g [] j.2 := .step h1 h2 (by simp)
    have := hh.2 ⟨hr, j.1, h1, h2, h3⟩
    exact ⟨this.2, decide_eq_true ((mem_reach hv).2 hr)⟩
  · rintro ⟨h1, h2⟩
    obtain ⟨_, i, hi, hn, hk⟩ := hh.1 ⟨(mem_reach hv).1 (of_decide_eq_true h2), h1⟩
    exact ⟨(i, t), (mem_jumpL hv).2 ⟨hi, hn, hk⟩, rfl⟩

/-- Jumps that go forward to a block, counted in the way order up to it. -/
theorem fwd_count {g : List Bl} (hv : validB g = true) (t : Nat) : (((wayOrd g).take (placeN g t)).filter fun i => decide (t ∈ nxt g i)).length = (srcL g fwdK t).length := by
  have hn := wayOrd_nodup hv
  refine List.Perm.length_eq ((List.perm_ext_iff_of_nodup ?_ ?_).2 fun i => ?_)
  · exact (hn.sublist (List.take_sublist _ _)).filter _
  · exact List.Pairwise.filter _ (List.Pairwise.filter _ List.nodup_range)
  · rw [List.mem_filter, decide_eq_true_iff, mem_srcL hv]
    constructor
    · rintro ⟨h1, h2⟩
      have hi : i ∈ wayOrd g := (List.take_subset _ _) h1
      have := (placeIn_take hn hi _).1 h1
      exact ⟨(mem_wayOrd hv).1 hi, h2, by rw [kind_fwd this]; rfl⟩
    · rintro ⟨h1, h2, h3⟩
      have hi := (mem_wayOrd hv).2 h1
      refine ⟨(placeIn_take hn hi _).2 ?_, h2⟩
      have : kindN g i t = 0 := by simpa [fwdK] using h3
      rcases Nat.lt_or_ge (placeN g i) (placeN g t) with h | h
      · exact h
      · exact absurd this (kind_back.2 h)
end Go.Proofs.YtgebedbankibmaaGreatDoor

/-
  The map of the kinds of jumps: its keys, how it lies, how it is written and read.
-/
namespace Go.Proofs.YtgebedbankibmaaGreatDoor
open Go.RowKit Go.Sort Go.Maps Go.WideMaps

theorem jumpRow : (167 : TypeId) < Tryz.prog.types.size := of_decide_eq_true (by kernel_rfl)
theorem jumpKey : Tryz.prog.keyType 167 = true := by kernel_rfl
theorem jumpDeep : Tryz.prog.keyTypeAt 3 167 = true := by kernel_rfl
theorem jumpCells : Tryz.prog.cellsOf 167 = 2 := by kernel_rfl
theorem jumpCell : Tryz.prog.cellsOf 5 = 1 := by kernel_rfl
theorem jumpWide : (match Tryz.prog.underlying 167 with | some (.array _ _) | some (.struct _) => true | _ => false) = true := by kernel_rfl
set_option maxRecDepth 100000 in
theorem jumpLaw : Keyed Tryz.prog 167 := Keyed.of_law (deep_law_laid laidOut (m := 3) (by omega) jumpRow jumpDeep jumpWide)
theorem size_succ {n k : Nat} (h : k < n) : ∃ m, n = m + 1 := ⟨n - 1, by omega⟩
theorem jumpTypes : ∃ n, Tryz.prog.types.size = n + 1 := size_succ jumpRow

theorem u8_wf (a : UInt8) : (Lit.int .u8 (a.toNat : Int)).wf = true := by
  have e0 : IntKind.u8.min = 0 := rfl
  have e1 : IntKind.u8.max = 255 := rfl
  have := a.toNat_lt
  simp [Lit.wf, e0, e1]
  omega

/-- A jump as a value. -/
abbrev jv (a b : UInt8) : Value := .agg #[.int .u8 a.toNat, .int .u8 b.toNat]

theorem key_some (a b : UInt8) : ∃ l, keyOf Tryz.prog 167 (jv a b) = some l := by
  have hu := Tryz.underlying167
  have hf : (jv a b).formed Tryz.prog 167 = true := by simp [Value.formed, hu, jumpCells]
  have ha := u8_wf a
  have hb := u8_wf b
  obtain ⟨n, hn⟩ := jumpTypes
  unfold keyOf
  simp only [hu, jumpKey, hf, Bool.and_self, if_true]
  rw [hn]
  have hu8 := Tryz.underlying5
  have hlits : Tryz.prog.keyLits (n + 1 + 1) 167 (jv a b).cells.toList = some [.int .u8 a.toNat, .int .u8 b.toNat] := by
    simp [Program.keyLits, hu, hu8, jumpCells, jumpCell, ha, hb, Value.cells, show List.range 2 = [0, 1] from rfl]
  rw [hlits]
  exact ⟨_, rfl⟩

/-- The key of a jump. -/
noncomputable def klit (a b : UInt8) : Lit := (key_some a b).choose
theorem klit_key (a b : UInt8) : keyOf Tryz.prog 167 (jv a b) = some (klit a b) := (key_some a b).choose_spec
theorem klit_is (a b : UInt8) : WideAt.IsKeyLit (klit a b) := jumpLaw.key (klit_key a b)
theorem u8_cast {a b : UInt8} (h : (a.toNat : Int) = b.toNat) : a = b := UInt8.toNat_inj.1 (by omega)
theorem klit_ne {a b a' b' : UInt8} (h : ¬ (a = a' ∧ b = b')) : klit a b ≠ klit a' b' := fun e => by
  have h1 := klit_key a b
  rw [e] at h1
  have h2 := jumpLaw.inj h1 (klit_key a' b')
  simp only [jv, Value.agg.injEq] at h2
  have h3 := congrArg Array.toList h2
  simp only [List.cons.injEq, Value.int.injEq, true_and, and_true] at h3
  exact h ⟨u8_cast h3.1, u8_cast h3.2⟩

/-- The letter of a block. -/
def letC (g : List Bl) (i : Nat) : UInt8 := (nthName g i).data.toList.getD 0 0
theorem letC_name {g : List Bl} (hv : validB g = true) {i : Nat} (hi : i < g.length) : g[i].1 = ⟨#[letC g i]⟩ := by
  obtain ⟨c, hc, _⟩ := valid_one hv (List.getElem_mem hi)
  unfold letC
  rw [nthName_at hi, hc]; rfl
theorem letC_inj {g : List Bl} (hv : validB g = true) {i j : Nat} (hi : i < g.length) (hj : j < g.length) (h : letC g i = letC g j) : i = j :=
  name_inj hv hi hj (by rw [letC_name hv hi, letC_name hv hj, h])

noncomputable abbrev kl (g : List Bl) (i t : Nat) : Lit := klit (letC g i) (letC g t)
theorem kl_ne {g : List Bl} (hv : validB g = true) {i t i' t' : Nat} (hi : i < g.length) (ht : t < g.length) (hi' : i' < g.length) (ht' : t' < g.length) (h : ¬ (i = i' ∧ t = t')) : kl g i t ≠ kl g i' t' :=
  klit_ne fun e => h ⟨letC_inj hv hi hi' e.1, letC_inj hv ht ht' e.2⟩

abbrev MapIs (w : World) (MB n : Nat) (D : DataW Unit) : Prop := w.ownsMap Tryz.prog 167 (plainElem Tryz.prog 118) MB n D

/-- The map as it lies: it holds the kinds of the jumps P. -/
def KMap (w : World) (g : List Bl) (MB n : Nat) (P : Nat → Nat → Prop) : Prop :=
  ∃ D : DataW Unit, MapIs w MB n D ∧ IsMap D ∧ ∀ i t, i < g.length → t < g.length →
    (P i t → Maps.has D (kl g i t) = true ∧ ∀ z, D.atKey (kl g i t) z = .lit (.int .i64 (kindN g i t))) ∧ (¬ P i t → Maps.has D (kl g i t) = false)

theorem kind_wf (g : List Bl) (i t : Nat) : (Lit.int .i64 (kindN g i t : Int)).wf = true := by
  have e0 : IntKind.i64.min = -9223372036854775808 := rfl
  have e1 : IntKind.i64.max = 9223372036854775807 := rfl
  have := kind_lt g i t
  simp [Lit.wf, e0, e1]
  omega

theorem KMap.start (w : World) (g : List Bl) : KMap (w.alloc (.map #[] 0)) g w.heap.size 0 (fun _ _ => False) :=
  ⟨_, World.ownsMap_made w _ _ _, isMap_empty, fun _ _ _ _ => ⟨fun h => h.elim, fun _ => rfl⟩⟩

theorem KMap.mono {w : World} {g : List Bl} {MB n n' : Nat} {P : Nat → Nat → Prop} (h : KMap w g MB n P) (hn : n ≤ n') : KMap w g MB n' P := by
  obtain ⟨D, h1, h2, h3⟩ := h
  exact ⟨D, h1.mono hn, h2, h3⟩

theorem KMap.same {w : World} {g : List Bl} {MB n : Nat} {P P' : Nat → Nat → Prop} (h : KMap w g MB n P) (hp : ∀ i t, P i t ↔ P' i t) : KMap w g MB n P' := by
  obtain ⟨D, h1, h2, h3⟩ := h
  exact ⟨D, h1, h2, fun i t hi ht => ⟨fun e => (h3 i t hi ht).1 ((hp i t).2 e), fun e => (h3 i t hi ht).2 fun q => e ((hp i t).1 q)⟩⟩

theorem KMap.lt {w : World} {g : List Bl} {MB n : Nat} {P : Nat → Nat → Prop} (h : KMap w g MB n P) : MB < w.heap.size := by
  obtain ⟨D, h1, _⟩ := h
  exact World.ownsMap.lt h1

theorem KMap.keep {w w' : World} {g : List Bl} {MB n : Nat} {P : Nat → Nat → Prop} (h : KMap w g MB n P) (hk : w'.heap[MB]? = w.heap[MB]?) : KMap w' g MB n P := by
  obtain ⟨D, ⟨es, cl, hb, r⟩, h2, h3⟩ := h
  exact ⟨D, ⟨es, cl, hk.trans hb, r⟩, h2, h3⟩

/-- One more is written. -/
theorem KMap.put {w : World} {g : List Bl} {MB n : Nat} {P : Nat → Nat → Prop} (hv : validB g = true) (h : KMap w g MB n P) (hn : n ≤ 1048576) {i t : Nat} (hi : i < g.length) (ht : t < g.length) :
    ∃ w', (Instr.mapUpdate 97 (.map (some MB)) (jv (letC g i) (letC g t)) (.int .i64 (kindN g i t))).run Tryz.prog w = .ok () w' ∧ KMap w' g MB (n + 1) (fun a b => P a b ∨ (a = i ∧ b = t)) ∧ w.grownBy w' (some MB) := by
  obtain ⟨D, h1, h2, h3⟩ := h
  obtain ⟨w', r, h4, h5⟩ := World.ownsMap.update h1 jumpLaw Tryz.underlying97 (by unfold maxLen; omega) (klit_key (letC g i) (letC g t)) (plainElem_int Tryz.underlying118 (kind_wf g i t))
  refine ⟨w', r, ⟨_, h4, h2.put _ _, fun a b ha hb => ?_⟩, h5⟩
  by_cases e : a = i ∧ b = t
  · obtain ⟨rfl, rfl⟩ := e
    exact ⟨fun _ => ⟨has_put_same h2 (klit_is _ _) _, fun z => atKey_put_same h2 (klit_is _ _) _ z⟩, fun q => absurd (.inr ⟨rfl, rfl⟩) q⟩
  · have hne := kl_ne hv ha hb hi ht e
    rw [has_put_other hne]
    refine ⟨fun q => ?_, fun q => (h3 a b ha hb).2 fun p => q (.inl p)⟩
    have hp := (h3 a b ha hb).1 (q.resolve_right e)
    exact ⟨hp.1, fun z => by rw [atKey_put_other hne]; exact hp.2 z⟩

theorem kind_zero (w : World) : (zeroValue 118).run Tryz.prog w = .ok (.int .i64 0) w := by kernel_rfl
/-- The kind of a jump is read. -/
theorem KMap.look {w : World} {g : List Bl} {MB n : Nat} {P : Nat → Nat → Prop} (h : KMap w g MB n P) {i t : Nat} (hi : i < g.length) (ht : t < g.length) (hp : P i t) :
    (Instr.lookup 97 (.map (some MB)) (jv (letC g i) (letC g t)) false).run Tryz.prog w = .ok (.int .i64 (kindN g i t)) w := by
  obtain ⟨D, h1, h2, h3⟩ := h
  obtain ⟨c, r, hc, _⟩ := World.ownsMap.lookup_int h1 jumpLaw Tryz.underlying97 Tryz.underlying118 (kind_zero w) (klit_key (letC g i) (letC g t))
  have e := ((h3 i t hi ht).1 hp).2 (.lit (.int .i64 0))
  rw [hc] at e
  simp only [DataW.lit.injEq, Lit.int.injEq, true_and] at e
  rw [r, e]

theorem KMap.look_ok {w : World} {g : List Bl} {MB n : Nat} {P : Nat → Nat → Prop} (h : KMap w g MB n P) {i t : Nat} (hi : i < g.length) (ht : t < g.length) (hp : P i t) :
    (Instr.lookup 97 (.map (some MB)) (jv (letC g i) (letC g t)) true).run Tryz.prog w = .ok (.tuple #[.int .i64 (kindN g i t), .bool true]) w := by
  obtain ⟨D, h1, h2, h3⟩ := h
  obtain ⟨v, ps, r, hv⟩ := World.ownsMap.look_ok h1 jumpLaw Tryz.underlying97 (kind_zero w) (plainElem_int Tryz.underlying118 (by decide)) (klit_key (letC g i) (letC g t))
  have e := (h3 i t hi ht).1 hp
  rw [e.2] at hv
  obtain ⟨c, rfl, hc, _⟩ := plainElem_int_inv Tryz.underlying118 hv
  simp only [Prod.mk.injEq, DataW.lit.injEq, Lit.int.injEq, true_and] at hc
  rw [r, e.1, hc.1]

theorem KMap.look_no {w : World} {g : List Bl} {MB n : Nat} {P : Nat → Nat → Prop} (h : KMap w g MB n P) {i t : Nat} (hi : i < g.length) (ht : t < g.length) (hp : ¬ P i t) :
    ∃ c, (Instr.lookup 97 (.map (some MB)) (jv (letC g i) (letC g t)) true).run Tryz.prog w = .ok (.tuple #[.int .i64 c, .bool false]) w := by
  obtain ⟨D, h1, h2, h3⟩ := h
  obtain ⟨v, ps, r, hv⟩ := World.ownsMap.look_ok h1 jumpLaw Tryz.underlying97 (kind_zero w) (plainElem_int Tryz.underlying118 (by decide)) (klit_key (letC g i) (letC g t))
  obtain ⟨c, rfl, _, _⟩ := plainElem_int_inv Tryz.underlying118 hv
  rw [(h3 i t hi ht).2 hp] at r
  exact ⟨c, r⟩
end Go.Proofs.YtgebedbankibmaaGreatDoor

/-
  Jumps as texts, and what BackJumps and WildJumps answer.
-/
namespace Go.Proofs.YtgebedbankibmaaGreatDoor
open Go.RowKit Go.Sort

/-- A jump as a text. -/
def jt (g : List Bl) (j : Nat × Nat) : ByteArray := ⟨#[letC g j.1, letC g j.2]⟩

theorem two_bytes (a b : UInt8) : strOfNums [(a.toNat : Int), (b.toNat : Int)] = ⟨#[a, b]⟩ := by
  simp [strOfNums]

theorem jumps_round {g : List Bl} {K : Nat → Bool} {k x : Nat} (hk : k < (wayOrd g).length) (hx : x = (wayOrd g)[k]) :
    ((wayOrd g).take (k + 1)).flatMap (jumpsOf1 g K) = ((wayOrd g).take k).flatMap (jumpsOf1 g K) ++ jumpsOf1 g K x := by
  rw [List.take_succ_eq_append_getElem hk, List.flatMap_append, ← hx]; simp

abbrev OwnJ (w : World) (g : List Bl) (base : Nat) (v : Value) (P : List (Nat × Nat)) : Prop := OwnStr w base v (P.map (jt g))

theorem own_lower {w : World} {base base' : Nat} {e : TypeId} {v : Value} {n : Nat} {xs : List Value} (h : w.ownsRow base e 1 v n xs) (hle : base' ≤ base) : w.ownsRow base' e 1 v n xs := by
  refine ⟨h.1, ?_⟩
  rcases h.2 with hn | ⟨gb, cap, cur, hv, hb, rest⟩
  · exact .inl hn
  · exact .inr ⟨gb, cap, cur, hv, Nat.le_trans hle hb, rest⟩

/-- What BackJumps and WildJumps answer. -/
def JumpsPost (K : Nat → Bool) (w : World) (g : List Bl) (e : Ending) (w' : World) : Prop :=
  ∃ v, e = .returned (.tuple #[v, .bool (validB g)]) ∧ OwnJ w' g w.heap.size v (if validB g = true then jumpL g K else []) ∧ Below w.heap.size w w'

theorem ret_b {a b : Bool} (h : a = b) : Ending.returned (.bool a) = .returned (.bool b) := by rw [h]
/-- Is there no wild jump? -/
def tameB (g : List Bl) : Bool := validB g && decide ((jumpL g wildK).length = 0)
def meetsV (g : List Bl) : ByteArray := if validB g = true then namesAt g (meetsL g) else ⟨#[]⟩
end Go.Proofs.YtgebedbankibmaaGreatDoor
