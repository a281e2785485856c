/-
  The program's goOnTo.
-/
import Derived.Test.YtibjldngdhcpaaaTangleAt
import Derived.Deep.AppendLies
import Derived.Deep.DeepCutAuto
import Derived.BigQuiet
import Derived.Deep.RegionHeld3
import Derived.Deep.RegionLaw
import Derived.Deep.QuietTactic
namespace Go.Proofs.Ytibjldngdhcpaaa
open Go.RowKit Go.Sort Go.Shelf

/-- append to a row of O's, where the program stands. -/
theorem wpList_append_rowK {P : Program} {w : World} {ops : Array Oper} {rest : List Oper} {o : Oper} {a : Act} {Q : Exit → Act → World → Prop} (hgd : o.guard = none) (s x : Operand) (t : TypeId)
    (hop : o.op = Op.call { callee := Callee.builtin Builtin.append, args := #[s, x], argTypes := #[t, t] })
    (e : TypeId) (i : TypeInfo) (z : Value) (size : Nat) (ht : P.underlying t = some (.slice e)) (hi : P.info? e = some i) (hz : i.zero = some z) (hsize : i.size = size) (hby : i.bytes ≤ 1024) (hzs : z.cells.size = size)
    (O : Nat → Prop) (v : Value) (k : Nat) (xs : List Value) (hs : a.eval s = v) (hq : Row w e size O v k xs) (ad : Addr) (m c : Nat) (news : List Value) (hx : a.eval x = .slice (some ad) m c) (hl : news.length = m * size)
    (hc : ∀ j u, news[j]? = some u → w.cell? (ad.add j) = some u) (h1c : ∀ u ∈ news, u.oneCell' = true) (b1 : k + m ≤ 1048576) (hm : 0 < m)
    (hK : ∀ v' w', Que w' e size (more O w w') v' (k + m) (xs ++ news) → Turns O w w' → wpList P ops Q rest (a.put o.dst v') w') :
    wpList P ops Q (o :: rest) a w := by
  refine wpList_plain hgd fun K hK' => ?_
  obtain ⟨v', w', hrun, r1, r2⟩ := run_append_row (P := P) w t o.type e i z size ht hi hz hsize hby hzs O v k xs hq ad m c news hl hc h1c b1 hm
  unfold Oper.wp execOp
  simp only [hop, resolve, invoke, builtin, Sem.run_bind, Sem.run_pure, Result.andThen_ok, List.map_toArray, List.map_cons, List.map_nil, hs, hx, hrun]
  exact hK' _ _ (hK v' w' r1 r2)
/-- One more that a knot goes on to. -/
def nxA (nx : Nat → List Nat) (i j : Nat) : Nat → List Nat := fun k => if k = i then nx i ++ [j] else nx k
def frA (fr : Nat → Nat) (j : Nat) : Nat → Nat := fun k => if k = j then fr j + 1 else fr k
theorem TanAt.went {w w' : World} {B0 TB : Nat} {r : Nat → Nat} {ns : List Nat} {L : List Bl} {nx : Nat → List Nat} {fr : Nat → Nat} (h : TanAt w B0 r TB ns L nx fr) {i j : Nat} (hi : i < ns.length) (hj : j < ns.length) {v' : Value}
    (T : Turns (fun k => r k = 2 * i + 4 ∨ k = ns[i] ∨ k = ns[j]) w w')
    (hni : Blk w' ns[i] 127 #[.string (nthName L i), v', .int .i64 (frA fr j i)])
    (hnj : j ≠ i → ∀ v2, Blk w ns[j] 127 #[.string (nthName L j), v2, .int .i64 (fr j)] → Blk w' ns[j] 127 #[.string (nthName L j), v2, .int .i64 (frA fr j j)])
    (hR : Row w' 123 1 (fun k => (if k < w.heap.size then r k else 2 * i + 4) = 2 * i + 4) v' ((nx i).length + 1) (((nx i).map fun j => kp (ns.getD j 0)) ++ [kp ns[j]])) :
    TanAt w' B0 (fun k => if k < w.heap.size then r k else 2 * i + 4) TB ns L (nxA nx i j) (frA fr j) := by
  have hri := h.rn i hi
  have hrj := h.rn j hj
  have hk : ∀ m, m ≠ 2 * i + 4 → m ≠ 2 * i + 3 → m ≠ 2 * j + 3 → Keeps (fun k => r k = m) w w' := fun m h1 h2 h3 => T.keeps fun k hk ho => by
    rcases ho with e | e | e
    · omega
    · subst e; omega
    · subst e; omega
  have ho : ∀ m, ∀ k, k < w.heap.size → r k = m → (if k < w.heap.size then r k else 2 * i + 4) = m := fun m k hk e => by rw [if_pos hk]; exact e
  have hlow : B0 ≤ w.heap.size := by
    obtain ⟨v, hv, _⟩ := h.list
    have := h.lo TB hv.lt (by rw [h.rt]; decide)
    have := hv.lt
    omega
  obtain ⟨v, hv, hRL⟩ := h.list
  refine ⟨⟨v, (T.block _ hv.lt fun e => ?_).trans hv, hRL.kept (hk 2 (by omega) (by omega) (by omega)) (ho 2)⟩, fun m hm => ?_, ?_, fun m hm => ?_, fun k _ hr => ?_, fun m hm x hx => ?_⟩
  · have hrt := h.rt
    rcases e with e | e | e
    · omega
    · subst e; omega
    · subst e; omega
  · by_cases hmi : m = i
    · subst hmi
      refine ⟨v', hni, ?_⟩
      have e1 : nxA nx m j m = nx m ++ [j] := by unfold nxA; rw [if_pos rfl]
      rw [e1, List.length_append, List.map_append]
      simp only [List.map_cons, List.map_nil]
      rw [getD_at hj]
      exact hR
    · have e1 : nxA nx i j m = nx m := by unfold nxA; rw [if_neg hmi]
      rw [e1]
      obtain ⟨u, hu, hU⟩ := h.node m hm
      have hrm := h.rn m hm
      refine ⟨u, ?_, hU.kept (hk _ (by omega) (by omega) (by omega)) (ho _)⟩
      by_cases hmj : m = j
      · subst hmj
        exact hnj hmi u hu
      · have e2 : frA fr j m = fr m := by unfold frA; rw [if_neg hmj]
        rw [e2]
        refine (T.block _ hu.lt fun e => ?_).trans hu
        rcases e with e | e | e
        · omega
        · exact hmi (h.inj hm hi e)
        · exact hmj (h.inj hm hj e)
  · show (if TB < w.heap.size then r TB else 2 * i + 4) = 0
    rw [if_pos hv.lt]; exact h.rt
  · obtain ⟨u, hu, _⟩ := h.node m hm
    show (if ns[m] < w.heap.size then r ns[m] else 2 * i + 4) = _
    rw [if_pos hu.lt]; exact h.rn m hm
  · by_cases hl : k < w.heap.size
    · rw [if_pos hl] at hr; exact h.lo k hl hr
    · omega
  · by_cases hmi : m = i
    · subst hmi
      have e1 : nxA nx m j m = nx m ++ [j] := by unfold nxA; rw [if_pos rfl]
      rw [e1] at hx
      rcases List.mem_append.1 hx with hx | hx
      · exact h.nxl m hm x hx
      · rw [List.mem_singleton.1 hx]; exact hj
    · have e1 : nxA nx i j m = nx m := by unfold nxA; rw [if_neg hmi]
      rw [e1] at hx; exact h.nxl m hm x hx

set_option maxRecDepth 100000 in
set_option maxHeartbeats 2000000 in
theorem goOn_new {w : World} {B0 TB : Nat} {r : Nat → Nat} {ns : List Nat} {L : List Bl} {nx : Nat → List Nat} {fr : Nat → Nat} (h : TanAt w B0 r TB ns L nx fr) {i j : Nat} (hi : i < ns.length) (hj : j < ns.length) (hn : (nx i).length + 1 ≤ 1048576) (hf : fr j ≤ 1048576) (hnew : j ∉ nx i) (hij : i ≠ j) :
    Calls Try.prog 99 #[kp ns[i], kp ns[j]] w fun e w' => e = .returned (.tuple #[]) ∧ TanAt w' B0 (fun k => if k < w.heap.size then r k else 2 * i + 4) TB ns L (nxA nx i j) (frA fr j) ∧ Below B0 w w' ∧ Keeps (fun b => r b = 1) w w' := by
  obtain ⟨i0, hi0, hz0, hz1, hz2⟩ := info_parts info_kptr
  obtain ⟨v, hv, hR⟩ := h.node i hi
  obtain ⟨v2, hv2, hR2⟩ := h.node j hj
  have HG := Lib.hid (goes_any h hi hj (by omega))
  rw [decide_eq_false hnew] at HG
  have hra := h.rn i hi
  have hrb := h.rn j hj
  have HI := Lib.hid h
  obtain ⟨a, ha⟩ : ∃ a, a = ns[i] := ⟨_, rfl⟩
  obtain ⟨b, hb⟩ : ∃ b, b = ns[j] := ⟨_, rfl⟩
  rw [← hb] at HG hv2 hrb ⊢
  rw [← ha] at HG hv hra ⊢
  have c1 := hv.cell 1
  have f1 := hv.frozen 1
  have c2 := hv2.cell 2
  have f2 := hv2.frozen 2
  have HA := Lib.hid hv
  have HB := Lib.hid hv2
  have HRA := Lib.hid hra
  have HROW := Lib.hid (show Row (w.alloc (.cells #[.pointer (some ⟨b, 0, none⟩)] 123)) 123 1 (fun k => r k = 2 * i + 4) v (nx i).length ((nx i).map fun j => kp (ns.getD j 0)) from
    hR.kept (Turns.keeps (O := fun _ => False) (Turns.alloc _ _ _) fun _ _ h => h) fun _ _ h => h)
  have HNEW := Lib.hid (cell_one_new w (.pointer (some ⟨b, 0, none⟩)) 123)
  have HRB := Lib.hid hrb
  have HAE := Lib.hid ha
  have HBE := Lib.hid hb
  have hal := hv.lt
  have hbl := hv2.lt
  clear hv hv2 ha hb hra hrb h hR hR2
  unfold kp at HG ⊢
  go_enter Try.func99, Try.ntmps99
  go_wp2_with fail
  refine HG.out.mono ?_
  rintro e w1 ⟨rfl, rfl⟩
  go_wp2_with (at_builtin; go_loud (refine wpList_append_rowK (by rfl) _ _ _ (by rfl) 123 i0 (.pointer none) 1 Try.underlying97 hi0 hz0 hz1 (by rw [hz2]; decide) rfl (fun k => r k = 2 * i + 4) v (nx i).length ((nx i).map fun j => kp (ns.getD j 0)) (by rfl) HROW.out ⟨w.heap.size, 0, none⟩ 1 1 [.pointer (some ⟨b, 0, none⟩)] (by rfl) (by rfl) HNEW.out (by simp [Value.oneCell']) ?c3 (by decide) ?_))
  case c3 => omega
  intro v' w1 hq' hT'
  obtain ⟨B', off', cap', rfl, _⟩ := hq'.cells
  obtain ⟨v', hv'⟩ : ∃ v', v' = Value.slice (some ⟨B', off', none⟩) ((nx i).length + 1) cap' := ⟨_, rfl⟩
  have hsz : w1.heap.size ≥ w.heap.size + 1 := by have := hT'.size; simpa using this
  have k2 : Blk w1 a 127 #[.string (nthName L i), v, .int .i64 (fr i)] := (hT'.block _ (by have := HA.out.lt; simp; omega) (by have := HRA.out; omega)).trans (HA.out.alloc _)
  have k3 : Blk w1 b 127 #[.string (nthName L j), v2, .int .i64 (fr j)] := (hT'.block _ (by have := HB.out.lt; simp; omega) (by have := HRB.out; omega)).trans (HB.out.alloc _)
  have hne : b ≠ a := fun e => by have := HRA.out; have := HRB.out; subst e; omega
  have k4 : Blk (w1.setCell ⟨a, 1, none⟩ (.slice (some ⟨B', off', none⟩) ((nx i).length + 1) cap')) b 127 #[.string (nthName L j), v2, .int .i64 (fr j)] := (Below.heap_setCell w1 ⟨a, 1, none⟩ _ b hne).trans k3
  have c1' := k2.cell 1
  have f1' := k2.frozen 1
  have c2' := k4.cell 2
  have f2' := k4.frozen 2
  have HQQ := Lib.hid hq'
  have HTT := Lib.hid hT'
  have HK2 := Lib.hid k2
  have HK4 := Lib.hid k4
  clear k2 k3 k4 hq' hT' hv' c1 f1 c2 f2
  go_wp2_with fail
  go_end0
  have hra := HRA.out
  have hrb := HRB.out
  have hsA : (w.alloc (.cells #[.pointer (some ⟨b, 0, none⟩)] 123)).heap.size = w.heap.size + 1 := by simp
  have hlow : B0 ≤ w.heap.size := by have := HI.out.lo a hal (by omega); omega
  have T1 : Turns (fun k => r k = 2 * i + 4 ∨ k = ns[i] ∨ k = ns[j]) w w1 := (Turns.alloc _ w _).trans (HTT.out.wider fun k h => .inl (.inl h))
  have T2 := T1.trans ((Turns.setCell (O := fun k => r k = 2 * i + 4 ∨ k = ns[i] ∨ k = ns[j]) (A := w1) (p := ⟨a, 1, none⟩) (.inr (.inl HAE.out)) (.slice (some ⟨B', off', none⟩) ((nx i).length + 1) cap')).wider fun k h => .inl h)
  have T3 := T2.trans ((Turns.setCell (O := fun k => r k = 2 * i + 4 ∨ k = ns[i] ∨ k = ns[j]) (A := w1.setCell ⟨a, 1, none⟩ (.slice (some ⟨B', off', none⟩) ((nx i).length + 1) cap')) (p := ⟨b, 2, none⟩) (.inr (.inr HBE.out)) (.int .i64 ((fr j : Int) + 1))).wider fun k h => .inl h)
  have HRW : Que ((w1.setCell ⟨a, 1, none⟩ (.slice (some ⟨B', off', none⟩) ((nx i).length + 1) cap')).setCell ⟨b, 2, none⟩ (.int .i64 ((fr j : Int) + 1))) 123 1 (fun k => (if k < w.heap.size then r k else 2 * i + 4) = 2 * i + 4) (.slice (some ⟨B', off', none⟩) ((nx i).length + 1) cap') ((nx i).length + 1) (((nx i).map fun j => kp (ns.getD j 0)) ++ [kp ns[j]]) := by
    rw [← HBE.out]
    refine Que.kept (O := more (fun k => r k = 2 * i + 4) (w.alloc (.cells #[.pointer (some ⟨b, 0, none⟩)] 123)) w1) HQQ.out ((Turns.keeps (Turns.setCell (O := fun k => k = a) (p := ⟨a, 1, none⟩) rfl _) fun k hk e => ?_).trans (Turns.keeps (Turns.setCell (O := fun k => k = b) (p := ⟨b, 2, none⟩) rfl _) fun k hk e => ?_)) fun k _ hk => ?_
    · subst e
      rcases hk with hk | hk
      · omega
      · rw [hsA] at hk; omega
    · subst e
      rcases hk with hk | hk
      · omega
      · rw [hsA] at hk; omega
    · rcases hk with hk | hk
      · by_cases hl : k < w.heap.size
        · rw [if_pos hl]; exact hk
        · rw [if_neg hl]
      · rw [hsA] at hk
        rw [if_neg (by omega)]
  refine ⟨rfl, HI.out.went hi hj T3 ?_ (fun _ u hu => ?_) (.inr HRW), T3.below hlow fun k hk => ?_, T3.keeps fun k hk e => ?_⟩
  · have e1 : frA fr j i = fr i := by unfold frA; rw [if_neg hij]
    rw [e1, ← HAE.out]
    have h4 := HK2.out.set_ 1 (.slice (some ⟨B', off', none⟩) ((nx i).length + 1) cap')
    simp at h4
    exact (Below.heap_setCell _ ⟨b, 2, none⟩ _ a (fun e => hne e.symm)).trans h4
  · have e1 : frA fr j j = fr j + 1 := by unfold frA; rw [if_pos rfl]
    rw [← HBE.out] at hu
    have e2 : u = v2 := by
      have h3 := Option.some.inj (hu.symm.trans HB.out)
      injection h3 with h3
      simpa using h3
    rw [e1, ← HBE.out, e2]
    have := HK4.out.set_ 2 (.int .i64 ((fr j : Int) + 1))
    simpa using this
  · by_cases hl : k < w.heap.size
    · rcases hk with e | e | e
      · exact HI.out.lo k hl (by omega)
      · exact HI.out.lo k hl (by rw [e, HI.out.rn i hi]; omega)
      · exact HI.out.lo k hl (by rw [e, HI.out.rn j hj]; omega)
    · omega
  · rcases e with e | e | e
    · omega
    · rw [e, HI.out.rn i hi] at hk; omega
    · rw [e, HI.out.rn j hj] at hk; omega
set_option maxRecDepth 100000 in
set_option maxHeartbeats 2000000 in
theorem goOn_self {w : World} {B0 TB : Nat} {r : Nat → Nat} {ns : List Nat} {L : List Bl} {nx : Nat → List Nat} {fr : Nat → Nat} (h : TanAt w B0 r TB ns L nx fr) {i : Nat} (hi : i < ns.length) (hn : (nx i).length + 1 ≤ 1048576) (hf : fr i ≤ 1048576) (hnew : i ∉ nx i) :
    Calls Try.prog 99 #[kp ns[i], kp ns[i]] w fun e w' => e = .returned (.tuple #[]) ∧ TanAt w' B0 (fun k => if k < w.heap.size then r k else 2 * i + 4) TB ns L (nxA nx i i) (frA fr i) ∧ Below B0 w w' ∧ Keeps (fun b => r b = 1) w w' := by
  obtain ⟨i0, hi0, hz0, hz1, hz2⟩ := info_parts info_kptr
  obtain ⟨v, hv, hR⟩ := h.node i hi
  have HG := Lib.hid (goes_any h hi hi (by omega))
  rw [decide_eq_false hnew] at HG
  have hra := h.rn i hi
  have HI := Lib.hid h
  obtain ⟨a, ha⟩ : ∃ a, a = ns[i] := ⟨_, rfl⟩
  rw [← ha] at HG hv hra ⊢
  have c1 := hv.cell 1
  have f1 := hv.frozen 1
  have HA := Lib.hid hv
  have HRA := Lib.hid hra
  have HROW := Lib.hid (show Row (w.alloc (.cells #[.pointer (some ⟨a, 0, none⟩)] 123)) 123 1 (fun k => r k = 2 * i + 4) v (nx i).length ((nx i).map fun j => kp (ns.getD j 0)) from
    hR.kept (Turns.keeps (O := fun _ => False) (Turns.alloc _ _ _) fun _ _ h => h) fun _ _ h => h)
  have HNEW := Lib.hid (cell_one_new w (.pointer (some ⟨a, 0, none⟩)) 123)
  have HAE := Lib.hid ha
  have hal := hv.lt
  clear hv ha hra h hR
  unfold kp at HG ⊢
  go_enter Try.func99, Try.ntmps99
  go_wp2_with fail
  refine HG.out.mono ?_
  rintro e w1 ⟨rfl, rfl⟩
  go_wp2_with (at_builtin; go_loud (refine wpList_append_rowK (by rfl) _ _ _ (by rfl) 123 i0 (.pointer none) 1 Try.underlying97 hi0 hz0 hz1 (by rw [hz2]; decide) rfl (fun k => r k = 2 * i + 4) v (nx i).length ((nx i).map fun j => kp (ns.getD j 0)) (by rfl) HROW.out ⟨w.heap.size, 0, none⟩ 1 1 [.pointer (some ⟨a, 0, none⟩)] (by rfl) (by rfl) HNEW.out (by simp [Value.oneCell']) ?c3 (by decide) ?_))
  case c3 => omega
  intro v' w1 hq' hT'
  obtain ⟨B', off', cap', rfl, _⟩ := hq'.cells
  obtain ⟨v', hv'⟩ : ∃ v', v' = Value.slice (some ⟨B', off', none⟩) ((nx i).length + 1) cap' := ⟨_, rfl⟩
  have hsz : w1.heap.size ≥ w.heap.size + 1 := by have := hT'.size; simpa using this
  have k2 : Blk w1 a 127 #[.string (nthName L i), v, .int .i64 (fr i)] := (hT'.block _ (by have := HA.out.lt; simp; omega) (by have := HRA.out; omega)).trans (HA.out.alloc _)
  have k4 := k2.set_ 1 (.slice (some ⟨B', off', none⟩) ((nx i).length + 1) cap')
  simp at k4
  have c1' := k2.cell 1
  have f1' := k2.frozen 1
  have c2' := k4.cell 2
  have f2' := k4.frozen 2
  have HQQ := Lib.hid hq'
  have HTT := Lib.hid hT'
  have HK2 := Lib.hid k2
  have HK4 := Lib.hid k4
  clear k2 k4 hq' hT' hv' c1 f1
  go_wp2_with fail
  go_end0
  have hra := HRA.out
  have hsA : (w.alloc (.cells #[.pointer (some ⟨a, 0, none⟩)] 123)).heap.size = w.heap.size + 1 := by simp
  have hlow : B0 ≤ w.heap.size := by have := HI.out.lo a hal (by omega); omega
  have T1 : Turns (fun k => r k = 2 * i + 4 ∨ k = ns[i] ∨ k = ns[i]) w w1 := (Turns.alloc _ w _).trans (HTT.out.wider fun k h => .inl (.inl h))
  have T2 := T1.trans ((Turns.setCell (O := fun k => r k = 2 * i + 4 ∨ k = ns[i] ∨ k = ns[i]) (A := w1) (p := ⟨a, 1, none⟩) (.inr (.inl HAE.out)) (.slice (some ⟨B', off', none⟩) ((nx i).length + 1) cap')).wider fun k h => .inl h)
  have T3 := T2.trans ((Turns.setCell (O := fun k => r k = 2 * i + 4 ∨ k = ns[i] ∨ k = ns[i]) (A := w1.setCell ⟨a, 1, none⟩ (.slice (some ⟨B', off', none⟩) ((nx i).length + 1) cap')) (p := ⟨a, 2, none⟩) (.inr (.inr HAE.out)) (.int .i64 ((fr i : Int) + 1))).wider fun k h => .inl h)
  have HRW : Que ((w1.setCell ⟨a, 1, none⟩ (.slice (some ⟨B', off', none⟩) ((nx i).length + 1) cap')).setCell ⟨a, 2, none⟩ (.int .i64 ((fr i : Int) + 1))) 123 1 (fun k => (if k < w.heap.size then r k else 2 * i + 4) = 2 * i + 4) (.slice (some ⟨B', off', none⟩) ((nx i).length + 1) cap') ((nx i).length + 1) (((nx i).map fun j => kp (ns.getD j 0)) ++ [kp ns[i]]) := by
    rw [← HAE.out]
    refine Que.kept (O := more (fun k => r k = 2 * i + 4) (w.alloc (.cells #[.pointer (some ⟨a, 0, none⟩)] 123)) w1) HQQ.out ((Turns.keeps (Turns.setCell (O := fun k => k = a) (p := ⟨a, 1, none⟩) rfl _) fun k hk e => ?_).trans (Turns.keeps (Turns.setCell (O := fun k => k = a) (p := ⟨a, 2, none⟩) rfl _) fun k hk e => ?_)) fun k _ hk => ?_
    · subst e
      rcases hk with hk | hk
      · omega
      · rw [hsA] at hk; omega
    · subst e
      rcases hk with hk | hk
      · omega
      · rw [hsA] at hk; omega
    · rcases hk with hk | hk
      · by_cases hl : k < w.heap.size
        · rw [if_pos hl]; exact hk
        · rw [if_neg hl]
      · rw [hsA] at hk
        rw [if_neg (by omega)]
  refine ⟨rfl, HI.out.went hi hi T3 ?_ (fun h0 u hu => ?_) (.inr HRW), T3.below hlow fun k hk => ?_, T3.keeps fun k hk e => ?_⟩
  · have e1 : frA fr i i = fr i + 1 := by unfold frA; rw [if_pos rfl]
    rw [e1, ← HAE.out]
    have h4 := HK4.out.set_ 2 (.int .i64 ((fr i : Int) + 1))
    simpa using h4
  · exact absurd rfl h0
  · by_cases hl : k < w.heap.size
    · rcases hk with e | e | e
      · exact HI.out.lo k hl (by omega)
      · exact HI.out.lo k hl (by rw [e, HI.out.rn i hi]; omega)
      · exact HI.out.lo k hl (by rw [e, HI.out.rn i hi]; omega)
    · omega
  · rcases e with e | e | e
    · omega
    · rw [e, HI.out.rn i hi] at hk; omega
    · rw [e, HI.out.rn i hi] at hk; omega

theorem goOn_any {w : World} {B0 TB : Nat} {r : Nat → Nat} {ns : List Nat} {L : List Bl} {nx : Nat → List Nat} {fr : Nat → Nat} (h : TanAt w B0 r TB ns L nx fr) {i j : Nat} (hi : i < ns.length) (hj : j < ns.length) (hn : (nx i).length + 1 ≤ 1048576) (hf : fr j ≤ 1048576) (hnew : j ∉ nx i) :
    Calls Try.prog 99 #[kp ns[i], kp ns[j]] w fun e w' => e = .returned (.tuple #[]) ∧ (∃ r', TanAt w' B0 r' TB ns L (nxA nx i j) (frA fr j) ∧ ∀ b, b < w.heap.size → r b = 1 → r' b = 1) ∧ Below B0 w w' ∧ Keeps (fun b => r b = 1) w w' := by
  by_cases hij : i = j
  · subst hij
    exact (goOn_self h hi hn hf hnew).mono fun _ _ ⟨h1, h2, h3⟩ => ⟨h1, ⟨_, h2, fun b hb e => by show (if b < _ then r b else _) = 1; rw [if_pos hb]; exact e⟩, h3⟩
  · exact (goOn_new h hi hj hn hf hnew hij).mono fun _ _ ⟨h1, h2, h3⟩ => ⟨h1, ⟨_, h2, fun b hb e => by show (if b < _ then r b else _) = 1; rw [if_pos hb]; exact e⟩, h3⟩
end Go.Proofs.Ytibjldngdhcpaaa
