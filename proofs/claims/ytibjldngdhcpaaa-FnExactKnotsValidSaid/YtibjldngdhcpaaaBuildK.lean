/-
  The program's build: the nodes, and what they go on to.
-/
import Derived.Test.YtibjldngdhcpaaaGoOnTo
namespace Go.Proofs.Ytibjldngdhcpaaa
open Go.RowKit Go.Sort Go.Shelf

def frN (nx : Nat → List Nat) (n j : Nat) : Nat := ((List.range n).filter fun i => decide (j ∈ nx i)).length
theorem frN_le (nx : Nat → List Nat) (n j : Nat) : frN nx n j ≤ n := by
  unfold frN
  have := List.length_filter_le (fun i => decide (j ∈ nx i)) (List.range n)
  simpa using this

theorem frN_succ (nx : Nat → List Nat) (n m : Nat) : frN nx (n + 1) m = frN nx n m + if m ∈ nx n then 1 else 0 := by
  unfold frN
  rw [List.range_succ, List.filter_append, List.length_append]
  congr 1
  by_cases h : m ∈ nx n
  · rw [if_pos h, List.filter_cons, if_pos (by simpa using h)]; rfl
  · rw [if_neg h, List.filter_cons, if_neg (by simpa using h)]; rfl
theorem frN_far (nx : Nat → List Nat) {i j : Nat} : ∀ {n : Nat}, n ≤ i → ∀ m, frN (nxA nx i j) n m = frN nx n m
  | 0, _, _ => rfl
  | n + 1, h, m => by
    rw [frN_succ, frN_succ, frN_far nx (by omega)]
    have e : nxA nx i j n = nx n := by unfold nxA; rw [if_neg (by omega)]
    rw [e]
theorem frN_near (nx : Nat → List Nat) {i j : Nat} (hn : j ∉ nx i) : ∀ {n : Nat}, i < n → ∀ m, frN (nxA nx i j) n m = frN nx n m + if m = j then 1 else 0
  | 0, h, _ => absurd h (by omega)
  | n + 1, h, m => by
    rw [frN_succ, frN_succ]
    by_cases hi : i = n
    · subst hi
      have e : nxA nx i j i = nx i ++ [j] := by unfold nxA; rw [if_pos rfl]
      rw [frN_far nx (Nat.le_refl _), e, Nat.add_assoc]
      congr 1
      by_cases hm : m = j
      · subst hm
        rw [if_pos (by simp), if_neg hn, if_pos rfl]
      · rw [if_neg hm, Nat.add_zero]
        congr 1
        simp [hm]
    · have e : nxA nx i j n = nx n := by unfold nxA; rw [if_neg (fun e => hi e.symm)]
      rw [frN_near nx hn (by omega), e]
      omega
theorem frN_add (nx : Nat → List Nat) {i j n : Nat} (hn : j ∉ nx i) (hi : i < n) : frA (frN nx n) j = frN (nxA nx i j) n := by
  funext m
  rw [frN_near nx hn hi]
  unfold frA
  by_cases h : m = j
  · subst h; rw [if_pos rfl, if_pos rfl]
  · rw [if_neg h, if_neg h, Nat.add_zero]

/-- append, as one step of a region that draws. -/
theorem step_append_rowK {P : Program} {w : World} {ops : Array Oper} {o : Oper} {a : Act} {K : Act → World → Prop} {Q : Exit → Act → World → Prop} {E : Prop}
    (hg : o.guard = none) (s x : Operand) (t : TypeId) (hop : o.op = Op.call { callee := Callee.builtin Builtin.append, args := #[s, x], argTypes := #[t, t] })
    (e : TypeId) (i : TypeInfo) (z : Value) (size : Nat) (ht : P.underlying t = some (.slice e)) (hi : P.info? e = some i) (hz : i.zero = some z) (hsize : i.size = size) (hby : i.bytes ≤ 1024) (hzs : z.cells.size = size)
    (O : Nat → Prop) (v : Value) (k : Nat) (xs : List Value) (hs : a.eval s = v) (hq : Row w e size O v k xs) (ad : Addr) (m c : Nat) (news : List Value) (hx : a.eval x = .slice (some ad) m c) (hl : news.length = m * size)
    (hc : ∀ j u, news[j]? = some u → w.cell? (ad.add j) = some u) (h1c : ∀ u ∈ news, u.oneCell' = true) (b1 : k + m ≤ 1048576) (hm : 0 < m)
    (hK : ∀ v' w', Que w' e size (more O w w') v' (k + m) (xs ++ news) → Turns O w w' → K (a.put o.dst v') w') :
    if Region.wanted o (yielded ops a.tmps) = true then Oper.wp P o a w K Q else E := by
  have hw : Region.wanted o (yielded ops a.tmps) = true := by simp [Region.wanted, hg]
  rw [if_pos hw]
  obtain ⟨v', w', hrun, r1, r2⟩ := run_append_row (P := P) w t o.type e i z size ht hi hz hsize hby hzs O v k xs hq ad m c news hl hc h1c b1 hm
  unfold Oper.wp
  simp [execOp, hop, resolve, invoke, builtin, hs, hx, hrun, Result.andThen]
  exact hK v' w' r1 r2

/-- A node more. -/
theorem TanAt.push {w w' : World} {B0 TB N0 : Nat} {r : Nat → Nat} {ns : List Nat} {L : List Bl} {s : ByteArray} (h : TanAt w B0 r TB ns L (fun _ => []) (fun _ => 0)) {v' : Value}
    (T : Turns (fun k => r k = 2 ∨ k = TB) w w') (hs : nthName L ns.length = s) (hN : w.heap.size ≤ N0)
    (hT : Blk w' TB 99 #[v']) (hn : Blk w' N0 127 #[.string s, .slice none 0 0, .int .i64 0])
    (hR : Row w' 123 1 (fun k => (if k < w.heap.size then r k else if k = N0 then 2 * ns.length + 3 else 2) = 2) v' (ns.length + 1) (ns.map kp ++ [kp N0])) :
    TanAt w' B0 (fun k => if k < w.heap.size then r k else if k = N0 then 2 * ns.length + 3 else 2) TB (ns ++ [N0]) L (fun _ => []) (fun _ => 0) := by
  have hlow : B0 ≤ w.heap.size := by
    obtain ⟨v, hv, _⟩ := h.list
    have := h.lo TB hv.lt (by rw [h.rt]; decide)
    have := hv.lt
    omega
  obtain ⟨v, hv, hRL⟩ := h.list
  refine ⟨⟨v', hT, ?_⟩, fun m hm => ?_, ?_, fun m hm => ?_, fun k _ hr => ?_, fun m hm x hx => by simp at hx⟩
  · rw [List.length_append, List.map_append]; exact hR
  · rw [List.length_append] at hm
    rcases Nat.lt_or_ge m ns.length with hl | hl
    · rw [List.getElem_append_left hl]
      obtain ⟨u, hu, hU⟩ := h.node m hl
      have hrm := h.rn m hl
      have hrt := h.rt
      refine ⟨u, (T.block _ hu.lt fun e => ?_).trans hu, hU.kept (T.keeps fun k hk e => ?_) fun k hk e => by rw [if_pos hk]; exact e⟩
      · rcases e with e | e
        · omega
        · rw [e] at hrm; omega
      · rcases e with e | e
        · omega
        · subst e; omega
    · have e : m = ns.length := by have : [N0].length = 1 := rfl; omega
      subst e
      rw [List.getElem_append_right (Nat.le_refl _)]
      refine ⟨.slice none 0 0, ?_, Row.nil _ _ _ _⟩
      rw [hs]
      simpa using hn
  · show (if TB < w.heap.size then r TB else _) = 0
    rw [if_pos hv.lt]; exact h.rt
  · rw [List.length_append] at hm
    rcases Nat.lt_or_ge m ns.length with hl | hl
    · rw [List.getElem_append_left hl]
      obtain ⟨u, hu, _⟩ := h.node m hl
      show (if ns[m] < w.heap.size then r ns[m] else _) = _
      rw [if_pos hu.lt]; exact h.rn m hl
    · have e : m = ns.length := by have : [N0].length = 1 := rfl; omega
      subst e
      rw [List.getElem_append_right (Nat.le_refl _)]
      simp only [Nat.sub_self, List.getElem_cons_zero]
      rw [if_neg (by omega), if_pos trivial]
  · by_cases hl : k < w.heap.size
    · rw [if_pos hl] at hr; exact h.lo k hl hr
    · omega

theorem asc_lt {s : ByteArray} (h : ascB s = true) : ∀ {i j : Nat}, i < j → j < s.size → (byt s i).toNat < (byt s j).toNat
  | i, 0, hij, _ => absurd hij (by omega)
  | i, j + 1, hij, hj => by
    have h1 := ascB_iff.1 h j hj
    rcases Nat.lt_succ_iff_lt_or_eq.1 hij with h2 | rfl
    · exact Nat.lt_trans (asc_lt h h2 (by omega)) h1
    · exact h1
theorem nxtD_get {L : List Bl} {k j x : Nat} (hk : k < L.length) (hj : j < L[k].2.size) (hx : posOf (doorG L) ⟨#[byt L[k].2 j]⟩ = some x) : (nxt (doorG L) k)[j]? = some x := by
  unfold nxt
  rw [nthNext_at (by rw [doorG_length]; exact hk), List.getElem?_map]
  have e2 : ((doorG L)[k]'(by rw [doorG_length]; exact hk)).2 = L[k].2 := by rw [doorG_get hk]
  rw [e2, byte_at _ j hj, ← byt_at hj]
  simp only [Option.map_some, hx, Option.getD_some]
theorem nxtD_take {L : List Bl} {k j x : Nat} (hk : k < L.length) (hj : j < L[k].2.size) (hx : posOf (doorG L) ⟨#[byt L[k].2 j]⟩ = some x) : (nxt (doorG L) k).take (j + 1) = (nxt (doorG L) k).take j ++ [x] := by
  rw [List.take_add_one, nxtD_get hk hj hx]; rfl
theorem nxtD_new {L : List Bl} {k j x : Nat} (hk : k < L.length) (hj : j < L[k].2.size) (ha : ascB L[k].2 = true) (hd : ∀ i, i < j → isDoor L (byt L[k].2 i) = true) (hx : posOf (doorG L) ⟨#[byt L[k].2 j]⟩ = some x) : x ∉ (nxt (doorG L) k).take j := by
  intro hm
  obtain ⟨i, hi, e⟩ := List.getElem_of_mem hm
  rw [List.getElem_take] at e
  have hij : i < j := by rw [List.length_take] at hi; omega
  have hdi := hd i hij
  unfold isDoor at hdi
  obtain ⟨y, hy⟩ := Option.isSome_iff_exists.1 hdi
  have hg := nxtD_get hk (by omega) hy
  rw [List.length_take] at hi
  rw [List.getElem?_eq_getElem (by omega), e] at hg
  have hxy := Option.some.inj hg
  subst hxy
  obtain ⟨h1, e1⟩ := posOf_is hx
  obtain ⟨h2, e2⟩ := posOf_is hy
  rw [e1] at e2
  have e3 : byt L[k].2 j = byt L[k].2 i := by injection e2 with e2; simpa using e2
  have := asc_lt ha hij hj
  rw [e3] at this
  omega
theorem nxtD_all {L : List Bl} {k : Nat} (hk : k < L.length) : (nxt (doorG L) k).take L[k].2.size = nxt (doorG L) k := by
  refine List.take_of_length_le ?_
  rw [nxt_length (by rw [doorG_length]; exact hk), doorG_get hk]
  exact Nat.le_refl _
def buildB (L : List Bl) : Bool := L.all fun b => ascB b.2 && doorsB L b.2
theorem buildB_iff {L : List Bl} : buildB L = true ↔ ∀ b ∈ L, ascB b.2 = true ∧ doorsB L b.2 = true := by
  unfold buildB
  simp only [List.all_eq_true, Bool.and_eq_true]
theorem frN_nil (n : Nat) : frN (fun _ => []) n = fun _ => 0 := by
  funext m
  unfold frN
  simp
def BuildPost (w : World) (B0 TB : Nat) (L : List Bl) (e : Ending) (w' : World) : Prop :=
  e = .returned (.bool (buildB L)) ∧ Below B0 w w' ∧ (buildB L = true → ∃ r ns nx, ns.length = L.length ∧ TanAt w' B0 r TB ns L nx (frN nx L.length) ∧ ∀ m, m < L.length → nx m = nxt (doorG L) m)

set_option maxRecDepth 100000 in
set_option maxHeartbeats 2000000 in
theorem build_any (A : Option Addr) (cap : Nat) (L : List Bl) (w : World) (B0 TB : Nat) (hg : ∀ W, Below B0 w W → Gr W A L) (hn : L.length + tot L ≤ 1048576) (h1 : ∀ b ∈ L, 1 ≤ b.1.size) (hT : Blk w TB 99 #[.slice none 0 0]) (hB : B0 ≤ TB) :
    Calls Try.prog 73 #[.pointer (some ⟨TB, 0, none⟩), .slice A L.length cap] w (BuildPost w B0 TB L) := by
  obtain ⟨i0, hi0, hz0, hz1, hz2⟩ := info_parts info_kptr
  have HG := Lib.hid hg
  have H1 := Lib.hid h1
  have h0 : TanAt w B0 (fun k => if k = TB then 0 else 1) TB [] L (fun _ => []) (fun _ => 0) :=
    ⟨⟨_, hT, Row.nil _ _ _ _⟩, fun i h => by simp at h, if_pos rfl, fun i h => by simp at h, fun k _ hr => by
      by_cases e : k = TB
      · omega
      · rw [if_neg e] at hr; exact absurd rfl hr, fun i h => by simp at h⟩
  have H0 := Lib.hid h0
  clear hg h1 h0 hT
  go_enter Try.func73, Try.ntmps73
  go_wp2_with fail
  go_loopw [13] (fun i wr => ∃ (k : Nat) (r : Nat → Nat) (ns : List Nat), k ≤ L.length ∧ i = .int .i64 k ∧ Hid (ns.length = k) ∧ Hid (TanAt wr B0 r TB ns L (fun _ => []) (fun _ => 0)) ∧ Below B0 w wr) (fun i _ => L.length - (intOf i).toNat)
  case atStart => exact ⟨0, _, [], Nat.zero_le _, rfl, rfl, H0.out, Below.refl _ _⟩
  case round =>
    obtain ⟨k, r, ns, hk, rfl, HNS, HT, hBw⟩ := hrel
    have HBW := Lib.hid hBw
    obtain ⟨v, hv, hR⟩ := HT.out.list
    have c0 := hv.cell 0
    have f0 := hv.frozen 0
    have HV := Lib.hid hv
    have HR := Lib.hid hR
    clear hv hR hBw
    by_cases hlt : k < L.length
    · obtain ⟨b, off, s, t, rfl, hb, hc0, hc1, he, he2⟩ := gr_at (HG.out _ HBW.out) hlt
      have HE := Lib.hid he
      clear he he2
      have h1k : k + 1 ≤ 1048576 := by omega
      go_wp2_with fail
      have ca := Blk.new wr 58 #[.string s, .string t]
      have k2a := HV.out.alloc (.cells #[.string s, .string t] 58)
      have HRa : Row (wr.alloc (.cells #[.string s, .string t] 58)) 123 1 (fun k => r k = 2 ∧ k < wr.heap.size) v ns.length (ns.map kp) := HR.out.kept (Turns.keeps (O := fun _ => False) (Turns.alloc _ _ _) fun _ _ h => h) fun k hk h => ⟨h, hk⟩
      have hwas : (wr.alloc (.cells #[.string s, .string t] 58)).heap.size = wr.heap.size + 1 := by simp
      obtain ⟨X, hX⟩ : ∃ X, X = wr.heap.size := ⟨_, rfl⟩
      obtain ⟨wa, hwa⟩ : ∃ wa, wa = wr.alloc (.cells #[.string s, .string t] 58) := ⟨_, rfl⟩
      rw [← hwa] at ca k2a HRa hwas ⊢
      rw [← hX] at ca hwas HRa ⊢
      have cK := ca.cell 0
      have cT := k2a.cell 0
      have fT := k2a.frozen 0
      have cT1 := (k2a.alloc (.cells #[.string s, .slice none 0 0, .int .i64 0] 127)).cell 0
      have cT2 := ((k2a.alloc (.cells #[.string s, .slice none 0 0, .int .i64 0] 127)).alloc (.cells #[.pointer (some ⟨X + 1, 0, none⟩)] 123)).cell 0
      have HKT := Lib.hid k2a
      have hTl := k2a.lt
      have HNSZ := HNS.out
      have hsN : (wa.alloc (.cells #[.string s, .slice none 0 0, .int .i64 0] 127)).heap.size = X + 1 + 1 := by simp [hwas]
      have HROW := Lib.hid (show Row (((wa.alloc (.cells #[.string s, .slice none 0 0, .int .i64 0] 127)).alloc (.cells #[.pointer (some ⟨X + 1, 0, none⟩)] 123)).drew) 123 1 (fun k => r k = 2 ∧ k < X) v ns.length (ns.map kp) from
        HRa.kept (((Turns.keeps (O := fun _ => False) (Turns.alloc _ _ _) fun _ _ h => h).trans (Turns.keeps (O := fun _ => False) (Turns.alloc _ _ _) fun _ _ h => h)).trans (Turns.keeps (O := fun _ => False) (Turns.drew _ _) fun _ _ h => h)) fun _ _ h => h)
      have HNEW := Lib.hid (show ∀ j u, [Value.pointer (some ⟨X + 1, 0, none⟩)][j]? = some u → (((wa.alloc (.cells #[.string s, .slice none 0 0, .int .i64 0] 127)).alloc (.cells #[.pointer (some ⟨X + 1, 0, none⟩)] 123)).drew).cell? ((⟨X + 1 + 1, 0, none⟩ : Addr).add j) = some u from by
        have := cell_one_new (wa.alloc (.cells #[.string s, .slice none 0 0, .int .i64 0] 127)) (.pointer (some ⟨X + 1, 0, none⟩)) 123
        rw [hsN] at this; exact this)
      have HSN := Lib.hid hsN
      have HWA := Lib.hid hwa
      have HCA := Lib.hid ca
      have HX := Lib.hid hX
      have HWAS := Lib.hid hwas
      clear hwa ca k2a HRa c0 f0 hc0 hc1 hX hsN
      go_region_law ((refine step_append_rowK (by rfl) _ _ _ (by rfl) 123 i0 (.pointer none) 1 Try.underlying97 hi0 hz0 hz1 (by rw [hz2]; decide) rfl (fun k => r k = 2 ∧ k < X) v ns.length (ns.map kp) (by rfl) HROW.out ⟨X + 1 + 1, 0, none⟩ 1 1 [.pointer (some ⟨X + 1, 0, none⟩)] (by rfl) (by rfl) HNEW.out (by simp [Value.oneCell']) (by omega) (by decide) ?_; intro v' w1 hq' hT'; obtain ⟨B', off', cap', rfl, _⟩ := hq'.cells; have k2 : Blk w1 TB 99 #[v] := (hT'.block _ (by simp; omega) (by have := HT.out.rt; omega)).trans ((HKT.out.alloc _).alloc _); have c2 := k2.cell 0; have f2 := k2.frozen 0; have HQQ := Lib.hid hq'; have HTT := Lib.hid hT'; have HK2 := Lib.hid k2; clear k2 hq' hT'))
      all_goals
        go_wp2_with fail
        have hsB : (((wa.alloc (.cells #[.string s, .slice none 0 0, .int .i64 0] 127)).alloc (.cells #[.pointer (some ⟨X + 1, 0, none⟩)] 123)).drew).heap.size = X + 1 + 1 + 1 := by
          have := HSN.out
          simp at this ⊢
          omega
        have hX := HX.out
        have hrt := HT.out.rt
        have h1s := HTT.out.size
        rw [hsB] at h1s
        have TA : Turns (fun k => r k = 2 ∨ k = TB) wr wa := by rw [HWA.out]; exact Turns.alloc _ _ _
        have T1 : Turns (fun k => r k = 2 ∨ k = TB) wr w1 := ((TA.trans (Turns.alloc _ _ _)).trans ((Turns.alloc _ _ _).wider fun k h => h)).trans ((Turns.drew _ _).trans (HTT.out.wider fun k h => .inl (.inl (.inl h.1))))
        have T3 := T1.trans ((Turns.setCell (O := fun k => r k = 2 ∨ k = TB) (A := w1) (p := ⟨TB, 0, none⟩) (.inr rfl) (.slice (some ⟨B', off', none⟩) (k + 1) cap')).wider fun k h => .inl h)
        have hnode : Blk w1 (X + 1) 127 #[.string s, .slice none 0 0, .int .i64 0] := by
          have hb := Blk.new wa 127 #[.string s, .slice none 0 0, .int .i64 0]
          rw [HWAS.out] at hb
          have hz := hb.lt
          have hb2 := hb.alloc (.cells #[.pointer (some ⟨X + 1, 0, none⟩)] 123)
          exact (HTT.out.block _ (by rw [hsB]; omega) fun e => by omega).trans hb2
        have hne : X + 1 ≠ TB := by have := HV.out.lt; omega
        have hnode3 := (Below.heap_setCell w1 ⟨TB, 0, none⟩ (.slice (some ⟨B', off', none⟩) (k + 1) cap') (X + 1) hne).trans hnode
        have hT3 := HK2.out.set_ 0 (.slice (some ⟨B', off', none⟩) (k + 1) cap')
        simp at hT3
        have hR3 : Row (w1.setCell ⟨TB, 0, none⟩ (.slice (some ⟨B', off', none⟩) (k + 1) cap')) 123 1 (fun j => (if j < wr.heap.size then r j else if j = X + 1 then 2 * ns.length + 3 else 2) = 2) (.slice (some ⟨B', off', none⟩) (k + 1) cap') (ns.length + 1) (ns.map kp ++ [kp (X + 1)]) := by
          have hq := HQQ.out
          rw [show Value.slice (some ⟨B', off', none⟩) (k + 1) cap' = Value.slice (some ⟨B', off', none⟩) (ns.length + 1) cap' by rw [HNS.out]]
          refine .inr (Que.kept hq (Turns.keeps (Turns.setCell (O := fun j => j = TB) (p := ⟨TB, 0, none⟩) rfl _) fun j hj e => ?_) fun j _ hj => ?_)
          · subst e
            rcases hj with hj | hj
            · omega
            · rw [hsB] at hj; have := HV.out.lt; omega
          · rcases hj with hj | hj
            · rw [if_pos (by omega)]; exact hj.1
            · rw [hsB] at hj; rw [if_neg (by omega), if_neg (by omega)]
        have hL : nthName L ns.length = s := by rw [HNS.out, nthName_at hlt]; exact HE.out
        have hP := HT.out.push T3 hL (by omega) hT3 hnode3 hR3
        have hlow : B0 ≤ wr.heap.size := by have := HV.out.lt; omega
        have hBB := T3.below hlow fun j hj => by
          by_cases hl : j < wr.heap.size
          · rcases hj with e | e
            · exact HT.out.lo j hl (by omega)
            · omega
          · omega
        have HPP := Lib.hid hP
        have HBB := Lib.hid (HBW.out.trans hBB)
        clear hP hBB hR3 hT3 hnode3 hnode T3 T1 TA hL hlow hrt h1s hsB hne
        go_roundw
        case rel => exact ⟨k + 1, _, ns ++ [X + 1], by omega, by go_num, (by rw [List.length_append, HNS.out]; rfl), HPP.out, HBB.out⟩
        case measure => simp [intOf]; omega
    · have hnl : ns.length = L.length := by have := HNS.out; omega
      have HNL := Lib.hid hnl
      have HT0 := Lib.hid (show TanAt wr B0 r TB ns L (fun _ => []) (frN (fun _ => []) ns.length) by rw [frN_nil]; exact HT.out)
      clear HNS HT HV HR c0 f0 hnl
      go_wp2_with fail
      clear hlt hk
      go_loopw [33] (fun i wr => ∃ (k : Nat) (r : Nat → Nat) (nx : Nat → List Nat), k ≤ L.length ∧ i = .int .i64 k ∧ Hid (TanAt wr B0 r TB ns L nx (frN nx ns.length)) ∧ Hid (∀ m, m < k → nx m = nxt (doorG L) m) ∧ Hid (∀ m, k ≤ m → nx m = []) ∧ Hid (∀ j (h : j < L.length), j < k → ascB L[j].2 = true ∧ doorsB L L[j].2 = true) ∧ Hid (Below B0 w wr)) (fun i _ => L.length - (intOf i).toNat)
      case atStart => exact ⟨0, r, _, Nat.zero_le _, rfl, HT0.out, fun m h => absurd h (by omega), fun _ _ => rfl, fun j _ h => absurd h (by omega), HBW.out⟩
      case round =>
        clear HT0 HBW
        obtain ⟨k, r, nx, hk, rfl, HT, HNX, HNE, HOK, HBW⟩ := hrel
        by_cases hlt : k < L.length
        · obtain ⟨b, off, s, t, rfl, hb, hc0, hc1, he, he2⟩ := gr_at (HG.out _ HBW.out) hlt
          have hs3 := tot_get L k hlt
          rw [he, he2] at hs3
          have HE := Lib.hid (show L[k] = (s, t) from Prod.ext he he2)
          clear he he2
          have hlow := HT.out.low
          have HBA := Lib.hid (HBW.out.alloc hlow (.cells #[.string s, .string t] 58))
          have HCA := Lib.hid (Blk.new wr 58 #[.string s, .string t])
          have HTA := Lib.hid (HT.out.below ((Below.refl _ _).alloc (Nat.le_refl _) (.cells #[.string s, .string t] 58)))
          obtain ⟨X, hX⟩ : ∃ X, X = wr.heap.size := ⟨_, rfl⟩
          have hno : (ascB t = true ∧ doorsB L t = true → False) → buildB L = false := fun h => Bool.eq_false_iff.2 fun e => h (by have := buildB_iff.1 e _ (List.getElem_mem hlt); rw [HE.out] at this; exact this)
          obtain ⟨r1, hr1⟩ : ∃ r1, r1 = ascB t := ⟨_, rfl⟩
          have HAS : Hid (∀ W, Calls Try.prog 95 #[.string t] W fun e w' => e = .returned (.bool r1) ∧ Below W.heap.size W w') := fun W => by rw [hr1]; exact ascending_any t W (by omega)
          have HR1 := Lib.hid hr1
          have HNO := Lib.hid hno
          clear hno hr1
          rw [← hX] at HCA HTA
          cases r1 with
          | false =>
            go_wp2_with fail
            refine (HAS.out _).mono ?_
            rintro e w2 ⟨rfl, b2⟩
            have HB2 := Lib.hid (HBA.out.trans (b2.mono (by have := HBA.out.size; simp; omega)))
            clear b2
            go_wp2_with fail
            go_ret
            have hbf : buildB L = false := HNO.out fun e => by have := HR1.out; rw [e.1] at this; cases this
            exact ⟨ret_bool hbf.symm, HB2.out, fun e => by rw [hbf] at e; cases e⟩
          | true =>
            go_wp2_with fail
            rw [← hX]
            refine (HAS.out _).mono ?_
            rintro e w2 ⟨rfl, b2⟩
            have HB2 := Lib.hid (HBA.out.trans (b2.mono (by have := HBA.out.size; simp; omega)))
            have HC2 := Lib.hid (HCA.out.below b2 HCA.out.lt)
            have HT2 := Lib.hid (HTA.out.below b2)
            have hr2 : ∃ r2, TanAt w2 B0 r2 TB ns L nx (frN nx ns.length) ∧ r2 X = 1 := by
              refine ⟨_, HT2.out, ?_⟩
              have : X < (wr.alloc (.cells #[.string s, .string t] 58)).heap.size := by rw [hX]; simp
              show (if X < _ then (if X < X then r X else 1) else 1) = 1
              rw [if_pos this, if_neg (Nat.lt_irrefl _)]
            obtain ⟨r2, hT2, hrX⟩ := hr2
            have HTT := Lib.hid hT2
            have HRX := Lib.hid hrX
            have x1 := HC2.out.cell 1
            clear b2 HT2 HTA HCA HT hT2 hrX hX HBA HBW
            go_wp2_with fail
            go_loopw [45] (fun i wr => ∃ (j : Nat) (r : Nat → Nat) (nx : Nat → List Nat), j ≤ t.size ∧ i = .int .i64 j ∧ Hid (TanAt wr B0 r TB ns L nx (frN nx ns.length)) ∧ Hid (∀ m, m < k → nx m = nxt (doorG L) m) ∧ Hid (nx k = (nxt (doorG L) k).take j) ∧ Hid (∀ m, k + 1 ≤ m → nx m = []) ∧ Hid (∀ i, i < j → isDoor L (byt t i) = true) ∧ Hid (Blk wr X 58 #[.string s, .string t]) ∧ Hid (r X = 1) ∧ Hid (Below B0 w wr)) (fun i _ => t.size - (intOf i).toNat)
            case atStart => exact ⟨0, r2, nx, Nat.zero_le _, rfl, HTT.out, HNX.out, (by show nx k = _; rw [HNE.out k (Nat.le_refl _)]; rfl), fun m h => HNE.out m (by omega), fun i h => absurd h (by omega), HC2.out, HRX.out, HB2.out⟩
            case round =>
              clear HTT HB2 HC2 x1 HNX HNE HRX
              obtain ⟨j, r, nx, hj, rfl, HT, HNX, HNK, HNE, HDJ, HBK, HRX, HBI⟩ := hrel
              have x1 := HBK.out.cell 1
              by_cases hjt : j < t.size
              · have hj1 : j + 1 ≤ t.size := by omega
                have hL2 : L[k].2 = t := by rw [HE.out]
                have hkn : k < ns.length := by have := HNL.out; omega
                have hex : t.extract j (j + 1) = ⟨#[byt t j]⟩ := by rw [byt_at hjt]; exact ex_byte _ (by omega) (by omega) (by omega)
                have HBD := Lib.hid (behind_any HT.out HNL.out (by omega) H1.out (t.extract j (j + 1)))
                cases hp : posOf (doorG L) ⟨#[byt t j]⟩ with
                | none =>
                  have hbv : behindV ns L (t.extract j (j + 1)) = .pointer none := by unfold behindV; rw [hex, hp]
                  rw [hbv] at HBD
                  have hbf : buildB L = false := HNO.out fun e => by
                    have h2 := e.2
                    unfold doorsB at h2
                    have := (List.all_eq_true.1 h2) _ (List.mem_of_getElem? (byte_at _ j hjt))
                    rw [← byt_at hjt] at this
                    unfold isDoor at this
                    rw [hp] at this
                    cases this
                  have HBF := Lib.hid hbf
                  clear hbv hbf hp hex
                  go_wp2_with fail
                  refine HBD.out.mono ?_
                  rintro e w3 ⟨rfl, rfl⟩
                  go_wp2_with fail
                  go_ret
                  exact ⟨ret_bool HBF.out.symm, HBI.out, fun e => by rw [HBF.out] at e; cases e⟩
                | some x =>
                  obtain ⟨hxl, hxn⟩ := posOf_is hp
                  have hxs : x < ns.length := by rw [doorG_length] at hxl; have := HNL.out; omega
                  have hbv : behindV ns L (t.extract j (j + 1)) = kp ns[x] := by
                    unfold behindV
                    rw [hex, hp]
                    show kp (ns.getD x 0) = _
                    rw [getD_at hxs]
                  rw [hbv] at HBD
                  have hpx : posOf (doorG L) ⟨#[byt L[k].2 j]⟩ = some x := by rw [hL2]; exact hp
                  have hjL : j < L[k].2.size := by rw [hL2]; exact hjt
                  have hnew : x ∉ nx k := by
                    rw [HNK.out]
                    exact nxtD_new hlt hjL (by rw [hL2]; exact HR1.out.symm) (fun i hi => by rw [hL2]; exact HDJ.out i hi) hpx
                  have hlen : (nx k).length ≤ j := by rw [HNK.out, List.length_take]; omega
                  have HGO := Lib.hid (goOn_any HT.out hkn hxs (by omega) (by have := frN_le nx ns.length x; have := HNL.out; omega) hnew)
                  rw [frN_add nx hnew hkn] at HGO
                  have HTK := Lib.hid (nxtD_take hlt hjL hpx)
                  have hdx : isDoor L (byt t j) = true := by unfold isDoor; rw [hp]; rfl
                  have HDX := Lib.hid hdx
                  obtain ⟨v, hv, hR⟩ := HT.out.list
                  obtain ⟨A9, cap9, rfl, hP9⟩ := row_ptk hR
                  obtain ⟨b9, off9, rfl, hb9, hc9⟩ := hP9 (by omega)
                  have c9 := hc9 k hkn
                  have cT := hv.cell 0
                  obtain ⟨a, ha⟩ : ∃ a, a = ns[k] := ⟨_, rfl⟩
                  obtain ⟨y, hy⟩ : ∃ y, y = ns[x] := ⟨_, rfl⟩
                  rw [← ha, ← hy] at HGO
                  rw [← hy] at HBD
                  rw [← ha] at c9
                  have hkl : k < ns.length := hkn
                  unfold kp at HGO HBD c9
                  clear hbv hp hex hnew hpx hdx hv hR hP9 hc9 ha hy hlen hxn hL2 hjL
                  go_wp2_with fail
                  refine HBD.out.mono ?_
                  rintro e w3 ⟨rfl, rfl⟩
                  go_wp2_with fail
                  refine HGO.out.mono ?_
                  rintro e w3 ⟨rfl, ⟨r', hT', hr'⟩, hb3, hk3⟩
                  have hXl := HBK.out.lt
                  have HT' := Lib.hid hT'
                  have HBK' := Lib.hid (show Blk w3 X 58 #[.string s, .string t] from (hk3.2 X hXl HRX.out).trans HBK.out)
                  have HRX' := Lib.hid (hr' X hXl HRX.out)
                  have HBI' := Lib.hid (HBI.out.trans hb3)
                  clear hT' hr' hb3 hk3 c9 cT
                  go_wp2_with fail
                  go_roundw
                  case rel => exact ⟨j + 1, r', nxA nx k x, by omega, by go_num, HT'.out, (fun m h => by
                      have e : nxA nx k x m = nx m := by unfold nxA; rw [if_neg (by omega)]
                      rw [e]; exact HNX.out m h), (by
                      show nxA nx k x k = _
                      unfold nxA
                      rw [if_pos rfl, HNK.out]; exact HTK.out.symm), (fun m h => by
                      have e : nxA nx k x m = nx m := by unfold nxA; rw [if_neg (by omega)]
                      rw [e]; exact HNE.out m h), (fun i h => by
                      rcases Nat.lt_succ_iff_lt_or_eq.1 h with h | rfl
                      · exact HDJ.out i h
                      · exact HDX.out), HBK'.out, HRX'.out, HBI'.out⟩
                  case measure => simp [intOf]; omega
              · have hje : j = t.size := by omega
                have HDS := Lib.hid (show doorsB L t = true by
                  unfold doorsB
                  refine List.all_eq_true.2 fun c hc => ?_
                  obtain ⟨i, hi, rfl⟩ := List.getElem_of_mem hc
                  have hi' : i < t.size := by rw [list_of_size] at hi; exact hi
                  have := HDJ.out i (by omega)
                  rw [byt_at hi'] at this
                  have e := byte_at t i hi'
                  rw [List.getElem?_eq_getElem hi] at e
                  rw [Option.some.inj e]; exact this)
                have HNK2 := Lib.hid (show nx k = nxt (doorG L) k by
                  have hL2 : L[k].2 = t := by rw [HE.out]
                  rw [HNK.out, hje, ← hL2]; exact nxtD_all hlt)
                clear hje
                go_wp2_with fail
                go_roundw
                case rel => exact ⟨k + 1, r, nx, by omega, by go_num, HT.out, (fun m h => by
                    rcases Nat.lt_succ_iff_lt_or_eq.1 h with h | rfl
                    · exact HNX.out m h
                    · exact HNK2.out), HNE.out, (fun j h hj => by
                    rcases Nat.lt_succ_iff_lt_or_eq.1 hj with hj | rfl
                    · exact HOK.out j h hj
                    · rw [HE.out]; exact ⟨HR1.out.symm, HDS.out⟩), HBI.out⟩
                case measure => simp [intOf]; omega
        · have HN := Lib.hid (show buildB L = true from buildB_iff.2 fun b hb => by
            obtain ⟨i, hi, rfl⟩ := List.getElem_of_mem hb
            exact HOK.out i hi (by omega))
          go_wp2_with fail
          go_ret
          exact ⟨ret_bool HN.out.symm, HBW.out, fun _ => ⟨r, ns, nx, HNL.out, by rw [← HNL.out]; exact HT.out, fun m hm => HNX.out m (by omega)⟩⟩
end Go.Proofs.Ytibjldngdhcpaaa
