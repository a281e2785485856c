/-
  Sets of blocks as bits; where a block stands among some; an iterator over some blocks.
-/
import Derived.Test.YtdpjdhllaokbfaaGreatSpreadFrom
import Derived.Test.YtdpjdhllaokbfaaGreatPrevOf
import Derived.WalkLawsBesides
import Derived.BigQuiet
import Derived.LaidEqlPtr
import Derived.Deep.RegionLaw
import Derived.Deep.AppendLies
import Derived.Deep.DeepCutAuto
import Derived.Deep.RegionHeld3
import Derived.Deep.QuietTactic
namespace Go.Proofs.YtdpjdhllaokbfaaGreat
open Go.RowKit Go.Sort Go.Shelf

theorem wrap_u32 (n : Int) : IntKind.u32.wrap n = n % 4294967296 := rfl

theorem ofInt32 (a : Nat) (ha : a < 4294967296) : (BitVec.ofInt 32 (a : Int)).toNat = a := by
  rw [BitVec.ofInt_natCast, BitVec.toNat_ofNat]; exact Nat.mod_eq_of_lt (by omega)

theorem and_u32 (a b : Nat) (ha : a < 4294967296) (hb : b < 4294967296) : bits .and .u32 (a : Int) (b : Int) = ((a &&& b : Nat) : Int) := by
  have hx : a &&& b < 2 ^ 32 := Nat.and_lt_two_pow _ (by omega)
  show IntKind.u32.wrap ((BitVec.ofInt 32 (a : Int) &&& BitVec.ofInt 32 (b : Int)).toNat : Int) = _
  rw [BitVec.toNat_and, ofInt32 a ha, ofInt32 b hb, wrap_u32]
  omega

theorem or_u32 (a b : Nat) (ha : a < 4294967296) (hb : b < 4294967296) : bits .or .u32 (a : Int) (b : Int) = ((a ||| b : Nat) : Int) := by
  have hx : a ||| b < 2 ^ 32 := Nat.or_lt_two_pow (by omega) (by omega)
  show IntKind.u32.wrap ((BitVec.ofInt 32 (a : Int) ||| BitVec.ofInt 32 (b : Int)).toNat : Int) = _
  rw [BitVec.toNat_or, ofInt32 a ha, ofInt32 b hb, wrap_u32]
  omega

theorem pow_small : ∀ k : Nat, k < 26 → ((2 : Int) ^ k % 4294967296) = ((2 ^ k : Nat) : Int) := by decide
theorem pow_lt : ∀ k : Nat, k < 26 → 2 ^ k < 4294967296 := by decide

/-- One block more. -/
theorem with_any (s b k : Nat) (w : World) (hs : s < 4294967296) (hc : w.cell? ⟨b, 0, none⟩ = some (.int .i64 k)) (hk : k < 26) :
    Calls Tryz.prog 103 #[.int .u32 s, .pointer (some ⟨b, 0, none⟩)] w fun e w' => e = .returned (.int .u32 ((s ||| 2 ^ k : Nat) : Int)) ∧ w = w' := by
  have hk0 : (0 : Int) ≤ k := by omega
  have HB : Hid (bits .or .u32 (s : Int) ((2 : Int) ^ k % 4294967296) = ((s ||| 2 ^ k : Nat) : Int)) := by
    rw [pow_small k hk]; exact or_u32 s (2 ^ k) hs (pow_lt k hk)
  go_enter Tryz.func103, Tryz.ntmps103
  go_wp2
  go_ret
  exact ⟨ret_int HB.out, rfl⟩

theorem bit_at (s k : Nat) (hs : s < 4294967296) : (bits .and .u32 ((s : Int) / 2 ^ k) 1 == 1) = s.testBit k := by
  have e : ((s : Int) / 2 ^ k) = ((s / 2 ^ k : Nat) : Int) := by norm_cast
  have hl : s / 2 ^ k < 4294967296 := Nat.lt_of_le_of_lt (Nat.div_le_self _ _) hs
  rw [e, show (1 : Int) = ((1 : Nat) : Int) from rfl, and_u32 _ _ hl (by decide), Nat.and_one_is_mod, Nat.testBit_eq_decide_div_mod_eq]
  by_cases h : s / 2 ^ k % 2 = 1
  · rw [h]; rfl
  · rw [decide_eq_false h]
    have : s / 2 ^ k % 2 = 0 := by omega
    rw [this]; rfl

/-- Is the block there? -/
theorem has_any (s b k : Nat) (w : World) (hs : s < 4294967296) (hc : w.cell? ⟨b, 0, none⟩ = some (.int .i64 k)) (hk : k < 26) :
    Calls Tryz.prog 104 #[.int .u32 s, .pointer (some ⟨b, 0, none⟩)] w fun e w' => e = .returned (.bool (s.testBit k)) ∧ w = w' := by
  have hk0 : (0 : Int) ≤ k := by omega
  have HB := Lib.hid (bit_at s k hs)
  go_enter Tryz.func104, Tryz.ntmps104
  go_wp2
  go_ret
  exact ⟨ret_bool HB.out, rfl⟩

/-- append to a row of O's, where the program stands. -/
theorem wpList_append_rowK {P : Program} {w : World} {ops : Array Oper} {rest : List Oper} {o : Oper} {a : Act} {Q : Exit → Act → World → Prop} (hgd : o.guard = none) (s x : Operand) (t : TypeId)
    (hop : o.op = Op.call { callee := Callee.builtin Builtin.append, args := #[s, x], argTypes := #[t, t] })
    (e : TypeId) (i : TypeInfo) (z : Value) (size : Nat) (ht : P.underlying t = some (.slice e)) (hi : P.info? e = some i) (hz : i.zero = some z) (hsize : i.size = size) (hby : i.bytes ≤ 1024) (hzs : z.cells.size = size)
    (O : Nat → Prop) (v : Value) (k : Nat) (xs : List Value) (hs : a.eval s = v) (hq : Row w e size O v k xs) (ad : Addr) (m c : Nat) (news : List Value) (hx : a.eval x = .slice (some ad) m c) (hl : news.length = m * size)
    (hc : ∀ j u, news[j]? = some u → w.cell? (ad.add j) = some u) (h1c : ∀ u ∈ news, u.oneCell' = true) (b1 : k + m ≤ 1048576) (hm : 0 < m)
    (hK : ∀ v' w', Que w' e size (more O w w') v' (k + m) (xs ++ news) → Turns O w w' → wpList P ops Q rest (a.put o.dst v') w') :
    wpList P ops Q (o :: rest) a w := by
  refine wpList_plain hgd fun K hK' => ?_
  obtain ⟨v', w', hrun, r1, r2⟩ := run_append_row (P := P) w t o.type e i z size ht hi hz hsize hby hzs O v k xs hq ad m c news hl hc h1c b1 hm
  unfold Oper.wp execOp
  simp only [hop, resolve, invoke, builtin, Sem.run_bind, Sem.run_pure, Result.andThen_ok, List.map_toArray, List.map_cons, List.map_nil, hs, hx, hrun]
  exact hK' _ _ (hK v' w' r1 r2)
theorem NodesIn.under {w w' : World} {NB B0 : Nat} {g : List Bl} (h : NodesIn w NB g) (hNB : ∀ i, i < g.length → nb NB i < B0) (hb : Below B0 w w') : NodesIn w' NB g := fun i hi => (hb.block _ (hNB i hi)).trans (h i hi)
/-- The bits of q are the blocks of S. -/
def BitsOf (q : Nat) (S : List Nat) : Prop := q < 4294967296 ∧ ∀ k, k < 26 → (q.testBit k = true ↔ k ∈ S)
theorem BitsOf.nil : BitsOf 0 [] := ⟨by decide, fun k _ => by simp⟩
theorem BitsOf.snoc {q : Nat} {S : List Nat} (h : BitsOf q S) {k : Nat} (hk : k < 26) : BitsOf (q ||| 2 ^ k) (S ++ [k]) := by
  refine ⟨?_, fun j hj => ?_⟩
  · have := Nat.or_lt_two_pow (x := q) (y := 2 ^ k) (n := 32) (by have := h.1; omega) (by have := pow_lt k hk; omega)
    omega
  · rw [Nat.testBit_or, Bool.or_eq_true, h.2 j hj, List.mem_append, List.mem_singleton, Nat.testBit_two_pow]
    simp only [decide_eq_true_eq]
    exact or_congr Iff.rfl ⟨fun e => e.symm, fun e => e.symm⟩

set_option maxRecDepth 100000 in
/-- The set of some blocks. -/
theorem setOf_any (A : Option Addr) (NB cap : Nat) (g : List Bl) (L : List Nat) (w : World) (hP : PtsI w A NB L) (hN : NodesIn w NB g) (hL : ∀ x ∈ L, x < g.length) (h26 : g.length ≤ 26) (hn : L.length ≤ 1048576) :
    Calls Tryz.prog 88 #[.slice A L.length cap] w fun e w' => ∃ q : Nat, e = .returned (.int .u32 q) ∧ BitsOf q L ∧ w = w' := by
  have HP := Lib.hid hP
  have HN := Lib.hid hN
  have HL := Lib.hid hL
  clear hP hN hL
  go_enter Tryz.func88, Tryz.ntmps88
  go_wp2_with fail
  go_loop [3, 8] (fun s i => ∃ (k q : Nat), k ≤ L.length ∧ i = .int .i64 k ∧ s = .int .u32 q ∧ Hid (BitsOf q (L.take k))) (fun _ i => L.length - (intOf i).toNat)
  case atStart => exact ⟨0, 0, Nat.zero_le _, rfl, rfl, BitsOf.nil⟩
  case round =>
    obtain ⟨k, q, hk, rfl, rfl, HK⟩ := hrel
    by_cases hlt : k < L.length
    · obtain ⟨b, off, rfl, hb, hc⟩ := HP.out (by omega)
      have x0 := hc k hlt
      obtain ⟨p, hpe⟩ : ∃ p, p = L[k] := ⟨_, rfl⟩
      rw [← hpe] at x0
      have hpl := HL.out p (hpe ▸ List.getElem_mem hlt)
      have c0 : w.cell? ⟨nb NB p, 0, none⟩ = some (.int .i64 p) := by have := (HN.out p hpl).cell 0; simpa using this
      have HW := Lib.hid (with_any q (nb NB p) p w HK.out.1 c0 (by omega))
      have HS := Lib.hid (show BitsOf (q ||| 2 ^ p) (L.take (k + 1)) by
        rw [List.take_succ_eq_append_getElem hlt, ← hpe]; exact HK.out.snoc (by omega))
      clear hpe hc c0
      go_wp2_with fail
      refine HW.out.mono ?_
      rintro e w2 ⟨rfl, rfl⟩
      go_wp2_with fail
      go_round
      case rel => exact ⟨k + 1, _, by omega, by go_num, rfl, HS.out⟩
      case measure => simp [intOf]; omega
    · have HE := Lib.hid (show BitsOf q L by have := HK.out; rwa [List.take_of_length_le (by omega)] at this)
      go_wp2_with fail
      go_ret
      exact ⟨q, rfl, HE.out, rfl⟩

theorem nb_neB {NB i h : Nat} (hne : i ≠ h) : (⟨nb NB i, 0, none⟩ : Addr) ≠ ⟨nb NB h, 0, none⟩ := by
  intro e
  injection e with e1 _
  unfold nb at e1
  omega
/-- Where a block stands among some, by their nodes. -/
def idxB (L : List Nat) (i : Nat) : Int := if i ∈ L then ((L.findIdx fun y => decide (y = i) : Nat) : Int) else -1
theorem idxB_at {L : List Nat} {k : Nat} (hk : k < L.length) (hb : ∀ j (h : j < L.length), j < k → L[j] ≠ L[k]) : idxB L L[k] = k := by
  have hm : L[k] ∈ L := List.getElem_mem hk
  unfold idxB
  rw [if_pos hm]
  congr 1
  rw [List.findIdx_eq hk]
  exact ⟨by simp, fun j hj => by have := hb j (by omega) hj; simpa using this⟩
theorem idxB_no {L : List Nat} {i : Nat} (h : i ∉ L) : idxB L i = -1 := by unfold idxB; rw [if_neg h]
theorem idxB_has {L : List Nat} {i : Nat} : decide (0 ≤ idxB L i) = decide (i ∈ L) := by
  unfold idxB
  by_cases h : i ∈ L
  · rw [if_pos h, decide_eq_true h]; simp
  · rw [if_neg h, decide_eq_false h]; rfl

set_option maxRecDepth 100000 in
theorem indexB_any (A : Option Addr) (cap : Nat) (L : List Nat) (NB : Nat) (g : List Bl) (i0 : Nat) (w : World) (hp : PtsI w A NB L) (hn : L.length ≤ 1048576) (hN : NodesIn w NB g) (ha : ∀ i ∈ L, i < g.length) (hi0 : i0 < g.length) :
    Calls Tryz.prog 90 #[.slice A L.length cap, nptr NB i0] w fun e w' => e = .returned (.int .i64 (idxB L i0)) ∧ w = w' := by
  obtain ⟨jt, hjt, hjs⟩ := Option.map_eq_some_iff.1 info_node
  have HI := Lib.hid hi0
  have HN := Lib.hid hN
  have HA := Lib.hid ha
  have HP := Lib.hid hp
  clear hN ha hp
  go_enter Tryz.func90, Tryz.ntmps90
  go_wp2_with fail
  go_loop [8] (fun i => ∃ k : Nat, k ≤ L.length ∧ i = .int .i64 k ∧ Hid (∀ j (h : j < L.length), j < k → L[j] ≠ i0)) (fun i => L.length - (intOf i).toNat)
  case atStart => exact ⟨0, Nat.zero_le _, rfl, fun j _ h => absurd h (by omega)⟩
  case round =>
    obtain ⟨k, hk, rfl, HK⟩ := hrel
    by_cases hlt : k < L.length
    · obtain ⟨b, off, rfl, hb, hc⟩ := HP.out (by omega)
      have x0 := hc k hlt
      obtain ⟨p, hpe⟩ : ∃ p, p = L[k] := ⟨_, rfl⟩
      rw [← hpe] at x0
      have hpl := HA.out p (hpe ▸ List.getElem_mem hlt)
      have HPE := Lib.hid hpe
      clear hpe hc
      by_cases hq : p = i0
      · subst hq
        have HPX := Lib.hid (show idxB L p = k by
          rw [HPE.out]
          exact idxB_at hlt fun j h hj => by rw [← HPE.out]; exact HK.out j h hj)
        have heq := fun w => run_eql_ptr_same (P := Tryz.prog) w ⟨nb NB p, 0, none⟩ Tryz.underlying73 hjt
        go_wp2_with fail
        go_ret
        exact ⟨ret_int HPX.out.symm, rfl⟩
      · have HQ := Lib.hid hq
        have heq := run_eql_ptr_other (P := Tryz.prog) w (a := ⟨nb NB i0, 0, none⟩) (b := ⟨nb NB p, 0, none⟩) Tryz.underlying73 hjt (by rw [hjs]; decide) (nb_neB fun e => hq e.symm) (HN.out i0 HI.out) (HN.out p hpl)
        clear hq
        go_wp2_with fail
        go_round
        case rel =>
          refine ⟨k + 1, by omega, by go_num, fun j h hj => ?_⟩
          rcases Nat.lt_succ_iff_lt_or_eq.1 hj with hj | rfl
          · exact HK.out j h hj
          · rw [← HPE.out]; exact HQ.out
        case measure => simp [intOf]; omega
    · have HPX := Lib.hid (show idxB L i0 = -1 from idxB_no fun hm => by
        obtain ⟨j, hj, e⟩ := List.getElem_of_mem hm
        exact HK.out j hj (by omega) e)
      go_wp2_with fail
      go_ret
      exact ⟨ret_int HPX.out.symm, rfl⟩

theorem containsB_any (A : Option Addr) (cap : Nat) (L : List Nat) (NB : Nat) (g : List Bl) (i0 : Nat) (w : World) (hp : PtsI w A NB L) (hn : L.length ≤ 1048576) (hN : NodesIn w NB g) (ha : ∀ i ∈ L, i < g.length) (hi0 : i0 < g.length) :
    Calls Tryz.prog 79 #[.slice A L.length cap, nptr NB i0] w fun e w' => e = .returned (.bool (decide (i0 ∈ L))) ∧ w = w' := by
  rw [← idxB_has]
  have HC := Lib.hid (indexB_any A cap L NB g i0 w hp hn hN ha hi0)
  clear hp hN ha
  go_enter Tryz.func79, Tryz.ntmps79
  go_wp2_with fail
  refine HC.out.mono ?_
  rintro e w1 ⟨rfl, rfl⟩
  go_wp2_with fail
  go_ret
  exact ⟨rfl, rfl⟩

section
attribute [local go_sem] Oper.semAt_some

set_option maxRecDepth 100000 in
set_option maxHeartbeats 2000000 in
theorem values_own (n NB TB cap : Nat) (A : Option Addr) (ts : List Nat) (R : Nat → Prop) (w : World) (hn : 1 ≤ n) (htl : ts.length ≤ 1048576)
    (hTB : w.cell? ⟨TB, 0, none⟩ = some (.slice A ts.length cap)) (hA : PtsI w A NB ts) (hTl : TB < w.heap.size) (hRA : ∀ b off, 0 < ts.length → A = some ⟨b, off, none⟩ → R b) :
    SeqOwn Fence.wide n Tryz.prog 126 #[.pointer (some ⟨TB, 0, none⟩)] (fun x : Nat => #[nptr NB x]) R (fun _ => True) (fun pre x => pre ++ [x] <+: ts)
      (fun xs => xs = ts) (fun pre => pre <+: ts) w := by
  intro l J Jx W hW hJ _ hY h0
  have hKW : Keeps R w W := ⟨hW.size, fun k hk _ => hW.block k hk⟩
  have ct := (hW.cell (p := ⟨TB, 0, none⟩) hTl).trans hTB
  have HA := Lib.hid hA
  have HY := Lib.hid hY
  have HKW := Lib.hid hKW
  have HRA := Lib.hid hRA
  have HTB := Lib.hid hTB
  clear hTB hA hW hY hJ hKW hRA
  refine callsIn_of_wp Tryz.func126 rfl trivial ?_ rfl
  simp only [Tryz.ntmps126, List.size_toArray, List.length_cons, List.length_nil, Nat.reduceAdd, Nat.reduceSub, Array.replicate_succ, Array.replicate_zero, List.push_toArray, List.append_toArray, List.nil_append, List.cons_append]
  gi_wp2_with fail
  gi_loopg [7] ts.length (fun gk iv wr => ∃ (m : Nat), gk = ts.length - m ∧ iv = .int .i64 m ∧ m ≤ ts.length ∧ J (fun _ => False) (ts.take m) wr ∧ Keeps R w wr)
  case atStart => exact ⟨0, rfl, rfl, Nat.zero_le _, h0, HKW.out⟩
  case round =>
    obtain ⟨m, hgk, rfl, hm, hJs, hKR⟩ := hrel
    by_cases hml : m < ts.length
    · obtain ⟨x, hx⟩ : ∃ x, x = ts[m] := ⟨_, rfl⟩
      obtain ⟨b, off, hAe, hbl, hc⟩ := HA.out (by omega)
      subst hAe
      have hRb := HRA.out b off (by omega) rfl
      have cX : wr.cell? ⟨b, off + m, none⟩ = some (nptr NB x) := by
        rw [World.cell?_of_block (hKR.2 b hbl hRb), hc m hml, hx]
      have hpx : ts.take m ++ [x] = ts.take (m + 1) := by rw [List.take_succ_eq_append_getElem hml, hx]
      obtain ⟨fn, tmps, assign, body, hy, hRd⟩ := HY.out _ _ x wr hJs (by rw [hpx]; exact List.take_prefix _ _)
      have hy' : (Instr.yield l #[nptr NB x]).run Tryz.prog wr = .ok (.round l fn tmps assign body) wr := hy
      have HPX := Lib.hid hpx
      have HKR := Lib.hid hKR
      have HGK := Lib.hid hgk
      clear hy hx hc hpx hJs hKR hgk
      gi_wp2_with fail
      refine hRd.mono ?_
      rintro e W3 (⟨rfl, hJ3, hk3⟩ | ⟨rfl, hJx3⟩)
      · rw [HPX.out] at hJ3
        have HK3 := Lib.hid (HKR.out.trans (hk3.fewer fun b h => .inl h))
        clear hk3 hRd
        gi_wp2_with fail
        gi_roundg (ts.length - (m + 1))
        case measure => have := HGK.out; omega
        case rel => exact ⟨m + 1, rfl, by go_num, by omega, hJ3, HK3.out⟩
      · rw [HPX.out] at hJx3
        gi_wp2_with fail
        refine bodyPost_ret (results_none rfl _ _ _) rfl ?_
        exact ⟨⟨_, rfl⟩, .inr ⟨_, List.take_prefix _ _, hJx3⟩⟩
    · have hre : ts.take m = ts := List.take_of_length_le (by omega)
      rw [hre] at hJs
      gi_wp2_with fail
      go_end0
      exact ⟨⟨_, rfl⟩, .inl ⟨_, _, rfl, hJs⟩⟩
end
/-- The iterator's maker. -/
theorem values_any (v : Value) (w : World) (hv : v.oneCell' = true) :
    Calls Tryz.prog 113 #[v] w fun e w' =>
      e = .returned (.func (.func 126) #[] #[.pointer (some ⟨w.heap.size, 0, none⟩)]) ∧ w' = w.alloc (.cells #[v] 54) := by
  go_enter Tryz.func113, Tryz.ntmps113
  go_wp2
  go_ret
  exact ⟨rfl, rfl⟩
end Go.Proofs.YtdpjdhllaokbfaaGreat
