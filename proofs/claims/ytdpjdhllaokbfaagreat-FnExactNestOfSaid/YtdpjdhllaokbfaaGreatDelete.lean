/-
  slices.IndexFunc, slices.DeleteFunc, slices.Clone at nodes.
-/
import Derived.Test.YtdpjdhllaokbfaaGreatFindAt
import Derived.Lib.SliceRun
import Derived.Lib.SliceRun
namespace Go.Proofs.YtdpjdhllaokbfaaGreat
open Go.RowKit Go.Sort Go.Shelf

/-- A function value that tells of some blocks whether it holds of them, whatever lies in block B. -/
structure PredN (gf : FuncId) (lb : Array Value) (NB : Nat) (p : Nat → Bool) (L : List Nat) (B : Nat) (w0 : World) : Prop where
  enter : ∀ args w, (callFunc gf args).run Tryz.prog w = .ok (.enter gf args) w
  goes : ∀ W, Turns (fun k => k = B) w0 W → ∀ x ∈ L, Calls Tryz.prog gf (#[nptr NB x] ++ lb) W fun e W' => e = .returned (.bool (p x)) ∧ W = W'
/-- The place of the first that it holds of. -/
def fstP (p : Nat → Bool) (L : List Nat) : Int := if L.any p then ((L.findIdx p : Nat) : Int) else -1
theorem fstP_at {p : Nat → Bool} {L : List Nat} {k : Nat} (hk : k < L.length) (h : p L[k] = true) (hb : ∀ j (h : j < L.length), j < k → p L[j] = false) : fstP p L = k := by
  have hm : L.any p = true := List.any_eq_true.2 ⟨_, List.getElem_mem hk, h⟩
  unfold fstP
  rw [if_pos hm]
  congr 1
  rw [List.findIdx_eq hk]
  exact ⟨h, fun j hj => hb j (by omega) hj⟩
theorem fstP_no {p : Nat → Bool} {L : List Nat} (h : ∀ x ∈ L, p x = false) : fstP p L = -1 := by
  unfold fstP
  rw [if_neg (by rw [List.any_eq_true]; rintro ⟨x, hx, e⟩; rw [h x hx] at e; cases e)]
theorem fstP_cases (p : Nat → Bool) (L : List Nat) : (fstP p L = -1 ∧ ∀ x ∈ L, p x = false) ∨ ∃ k, ∃ h : k < L.length, fstP p L = (k : Int) ∧ p L[k] = true ∧ ∀ j (h : j < L.length), j < k → p L[j] = false := by
  by_cases hm : L.any p = true
  · right
    have h1 : L.findIdx p < L.length := List.findIdx_lt_length_of_exists (by simpa [List.any_eq_true] using hm)
    refine ⟨L.findIdx p, h1, by unfold fstP; rw [if_pos hm], List.findIdx_getElem (w := h1), fun j h hj => ?_⟩
    simpa using List.not_of_lt_findIdx hj
  · left
    have h : ∀ x ∈ L, p x = false := by
      intro x hx
      cases hp : p x with
      | false => rfl
      | true => exact absurd (List.any_eq_true.2 ⟨x, hx, hp⟩) hm
    exact ⟨fstP_no h, h⟩

set_option maxRecDepth 100000 in
theorem indexFuncN_any (A : Option Addr) (NB cap B : Nat) (gf : FuncId) (lb : Array Value) (p : Nat → Bool) (L : List Nat) (w : World) (hP : PtsI w A NB L) (hp : PredN gf lb NB p L B w) (hn : L.length ≤ 1048576) :
    Calls Tryz.prog 107 #[.slice A L.length cap, .func (.func gf) #[] lb] w fun e w' => e = .returned (.int .i64 (fstP p L)) ∧ w = w' := by
  have HP := Lib.hid hP
  have HG := Lib.hid (fun x hx => hp.goes w (Turns.refl _ _) x hx)
  have hent := hp.enter
  clear hP hp
  go_enter Tryz.func107, Tryz.ntmps107
  go_wp2_with fail
  go_loop [8] (fun i => ∃ k : Nat, k ≤ L.length ∧ i = .int .i64 k ∧ Hid (∀ j (h : j < L.length), j < k → p L[j] = false)) (fun i => L.length - (intOf i).toNat)
  case atStart => exact ⟨0, Nat.zero_le _, rfl, fun j _ h => absurd h (by omega)⟩
  case round =>
    obtain ⟨k, hk, rfl, HK⟩ := hrel
    by_cases hlt : k < L.length
    · obtain ⟨b, off, rfl, hb, hc⟩ := HP.out (by omega)
      have x0 := hc k hlt
      obtain ⟨x, hx⟩ : ∃ x, x = L[k] := ⟨_, rfl⟩
      rw [← hx] at x0
      have HX := Lib.hid hx
      have HGX := Lib.hid (HG.out x (hx ▸ List.getElem_mem hlt))
      clear hx hc
      cases hpx : p x with
      | true =>
        rw [hpx] at HGX
        have HR := Lib.hid (show fstP p L = (k : Int) from fstP_at hlt (HX.out ▸ hpx) HK.out)
        clear hpx
        go_wp2_with fail
        refine HGX.out.mono ?_
        rintro e w2 ⟨rfl, rfl⟩
        go_wp2_with fail
        go_ret
        exact ⟨ret_int HR.out.symm, rfl⟩
      | false =>
        rw [hpx] at HGX
        have HNX := Lib.hid (show p L[k] = false from HX.out ▸ hpx)
        clear hpx
        go_wp2_with fail
        refine HGX.out.mono ?_
        rintro e w2 ⟨rfl, rfl⟩
        go_wp2_with fail
        go_round
        case rel =>
          refine ⟨k + 1, by omega, by go_num, fun j h hj => ?_⟩
          rcases Nat.lt_succ_iff_lt_or_eq.1 hj with hj | rfl
          · exact HK.out j h hj
          · exact HNX.out
        case measure => simp [intOf]; omega
    · have HR := Lib.hid (show fstP p L = -1 from fstP_no fun x hx => by
        obtain ⟨j, hj, rfl⟩ := List.getElem_of_mem hx
        exact HK.out j hj (by omega))
      go_wp2_with fail
      go_ret
      exact ⟨ret_int HR.out.symm, rfl⟩

/-- A row of pointers to nodes, in a block. -/
def RowN (w : World) (B off NB : Nat) (L : List Nat) : Prop := ∃ cs, w.heap[B]? = some (.cells cs 73 (0, 0)) ∧ ∀ j (h : j < L.length), cs[off + j]? = some (nptr NB L[j])
theorem RowN.lt {w : World} {B off NB : Nat} {L : List Nat} (h : RowN w B off NB L) : B < w.heap.size := by
  obtain ⟨cs, h, _⟩ := h
  exact (Array.getElem?_eq_some_iff.1 h).1
theorem RowN.cell {w : World} {B off NB : Nat} {L : List Nat} (h : RowN w B off NB L) {j : Nat} (hj : j < L.length) : w.cell? ⟨B, off + j, none⟩ = some (nptr NB L[j]) := by
  obtain ⟨cs, h1, h2⟩ := h
  rw [cell_of_row w B (off + j) cs _ (0, 0) h1]; exact h2 j hj
theorem RowN.pts {w : World} {B off NB : Nat} {L : List Nat} (h : RowN w B off NB L) : PtsI w (some ⟨B, off, none⟩) NB L := fun _ => ⟨B, off, rfl, h.lt, fun _ hj => h.cell hj⟩

theorem ret_slN {A : Option Addr} {n n' c : Nat} (h : n = n') : Ending.returned (.slice A n c) = .returned (.slice A n' c) := by rw [h]
/-- While it is gone through: what is kept, and what is to be looked at. -/
def RowD (w : World) (B off NB : Nat) (F L : List Nat) (m : Nat) : Prop := ∃ cs, w.heap[B]? = some (.cells cs 73 (0, 0)) ∧ off + L.length ≤ cs.size ∧ (∀ j (h : j < F.length), cs[off + j]? = some (nptr NB F[j])) ∧ ∀ j (h : j < L.length), m ≤ j → cs[off + j]? = some (nptr NB L[j])
theorem RowD.put {w : World} {B off NB m x : Nat} {F L : List Nat} (h : RowD w B off NB F L m) (hF : F.length < m) (hm : m < L.length) : RowD (w.setCell ⟨B, off + F.length, none⟩ (nptr NB x)) B off NB (F ++ [x]) L (m + 1) := by
  obtain ⟨cs, h1, h2, h3, h4⟩ := h
  refine ⟨cs.setIfInBounds (off + F.length) (nptr NB x), by simp [World.setCell, Array.getElem?_modify, h1], by simpa using h2, fun j hj => ?_, fun j hj hmj => ?_⟩
  · by_cases e : j < F.length
    · rw [Array.getElem?_setIfInBounds_ne (by omega), h3 j e, List.getElem_append_left e]
    · have e2 : j = F.length := by simp at hj; omega
      subst e2
      rw [Array.getElem?_setIfInBounds_self_of_lt (by omega)]
      simp
  · rw [Array.getElem?_setIfInBounds_ne (by omega)]; exact h4 j hj (by omega)

set_option maxRecDepth 100000 in
set_option maxHeartbeats 2000000 in
theorem deleteFuncN_any (NB cap B off : Nat) (gf : FuncId) (lb : Array Value) (p : Nat → Bool) (L : List Nat) (w : World) (hR : RowN w B off NB L) (hp : PredN gf lb NB p L B w) (hn : L.length ≤ 1048576) (hcap : L.length ≤ cap) (h0 : 0 < L.length) :
    Calls Tryz.prog 92 #[.slice (some ⟨B, off, none⟩) L.length cap, .func (.func gf) #[] lb] w fun e w' => e = .returned (.slice (some ⟨B, off, none⟩) (L.filter fun x => !p x).length cap) ∧ RowN w' B off NB (L.filter fun x => !p x) ∧ Turns (fun k => k = B) w w' := by
  obtain ⟨i0, hi0, hz0, hz1, hz2⟩ := info_parts info_ptr
  have HI := Lib.hid (indexFuncN_any (some ⟨B, off, none⟩) NB cap B gf lb p L w hR.pts hp hn)
  have HG := Lib.hid hp.goes
  have hent := hp.enter
  have HR := Lib.hid hR
  clear hp hR
  go_enter Tryz.func92, Tryz.ntmps92
  go_wp2_with fail
  refine HI.out.mono ?_
  rintro e w1 ⟨rfl, rfl⟩
  rcases fstP_cases p L with ⟨hf, hall⟩ | ⟨k, hk, hf, hpk, hb⟩
  · rw [hf]
    have HF := Lib.hid (show (L.filter fun x => !p x) = L from List.filter_eq_self.2 fun x hx => by rw [hall x hx]; rfl)
    clear hf hall
    go_wp2_with fail
    go_ret
    exact ⟨ret_slN (by rw [HF.out]), by rw [HF.out]; exact HR.out, Turns.refl _ _⟩
  · rw [hf]
    have q1 : ((k : Int) == -1) = false := by simp
    have HF0 := Lib.hid (show (L.take (k + 1)).filter (fun x => !p x) = L.take k by
      rw [List.take_succ_eq_append_getElem hk, List.filter_append, List.filter_cons, hpk]
      simp only [Bool.not_true, Bool.false_eq_true, if_false, List.filter_nil, List.append_nil]
      exact List.filter_eq_self.2 fun x hx => by
        obtain ⟨j, hj, rfl⟩ := List.getElem_of_mem hx
        rw [List.length_take] at hj
        rw [List.getElem_take, hb j (by omega) (by omega)]; rfl)
    clear hf hpk hb
    go_wp2_with fail
    have HD0 := Lib.hid (show RowD w B off NB (L.take k) L (k + 1) by
      obtain ⟨cs, h1, h2⟩ := HR.out
      refine ⟨cs, h1, ?_, fun j hj => ?_, fun j hj _ => h2 j hj⟩
      · have h3 := h2 (L.length - 1) (by omega)
        rcases Nat.lt_or_ge (off + (L.length - 1)) cs.size with h | h
        · omega
        · rw [Array.getElem?_eq_none h] at h3; cases h3
      · rw [List.length_take] at hj
        rw [h2 j (by omega), List.getElem_take])
    have hkl : (L.take k).length = k := by rw [List.length_take]; omega
    have HKL := Lib.hid hkl
    clear hkl
    go_loopw [5, 6] (fun iv jv wr => ∃ (kk m : Nat), iv = .int .i64 kk ∧ jv = .int .i64 m ∧ kk < m ∧ m ≤ L.length ∧ Hid (kk = ((L.take m).filter fun x => !p x).length) ∧ Hid (RowD wr B off NB ((L.take m).filter fun x => !p x) L m) ∧ Hid (Turns (fun k => k = B) w wr)) (fun _ jv _ => L.length - (intOf jv).toNat)
    case atStart => exact ⟨k, k + 1, rfl, by go_num, by omega, by omega, by rw [HF0.out]; exact HKL.out.symm, by rw [HF0.out]; exact HD0.out, Turns.refl _ _⟩
    case round =>
      obtain ⟨kk, m, rfl, rfl, hkm, hm, HKK, HD, HT⟩ := hrel
      by_cases hlt : m < L.length
      · obtain ⟨x, hx⟩ : ∃ x, x = L[m] := ⟨_, rfl⟩
        have x0 : wr.cell? ⟨B, off + m, none⟩ = some (nptr NB x) := by
          obtain ⟨cs, h1, _, _, h4⟩ := HD.out
          rw [cell_of_row wr B (off + m) cs _ (0, 0) h1, hx]; exact h4 m hlt (Nat.le_refl _)
        have fk : wr.frozen? ⟨B, off + kk, none⟩ = false := by
          obtain ⟨cs, h1, _⟩ := HD.out
          simp [World.frozen?, h1]
        have ck : ∃ z, wr.cell? ⟨B, off + kk, none⟩ = some z := by
          obtain ⟨cs, h1, h2, _⟩ := HD.out
          rw [cell_of_row wr B (off + kk) cs _ (0, 0) h1]
          exact ⟨_, Array.getElem?_eq_getElem (by omega)⟩
        obtain ⟨z, ck⟩ := ck
        have hkkl : (kk : Int) < L.length := by omega
        have HGX := Lib.hid (HG.out wr HT.out x (hx ▸ List.getElem_mem hlt))
        have HTK := Lib.hid (show (L.take (m + 1)).filter (fun x => !p x) = (L.take m).filter (fun x => !p x) ++ [x].filter (fun x => !p x) by
          rw [List.take_succ_eq_append_getElem hlt, List.filter_append, ← hx])
        clear hx
        cases hpx : p x with
        | true =>
          rw [hpx] at HGX
          have HTX := Lib.hid (show (L.take (m + 1)).filter (fun x => !p x) = (L.take m).filter (fun x => !p x) by rw [HTK.out, List.filter_cons, hpx]; simp)
          clear hpx
          go_wp2_with fail
          refine HGX.out.mono ?_
          rintro e w2 ⟨rfl, rfl⟩
          go_wp2_with fail
          go_roundw
          case rel => exact ⟨kk, m + 1, rfl, by go_num, by omega, by omega, by rw [HTX.out]; exact HKK.out, by
            rw [HTX.out]
            obtain ⟨cs, h1, h2, h3, h4⟩ := HD.out
            exact ⟨cs, h1, h2, h3, fun j hj hmj => h4 j hj (by omega)⟩, HT.out⟩
          case measure => simp [intOf]; omega
        | false =>
          rw [hpx] at HGX
          have HTX := Lib.hid (show (L.take (m + 1)).filter (fun x => !p x) = (L.take m).filter (fun x => !p x) ++ [x] by rw [HTK.out, List.filter_cons, hpx]; simp)
          clear hpx
          go_wp2_with fail
          refine HGX.out.mono ?_
          rintro e w2 ⟨rfl, rfl⟩
          go_wp2_with fail
          go_roundw
          case rel => exact ⟨kk + 1, m + 1, by go_num, by go_num, by omega, by omega, (by rw [HTX.out, List.length_append, ← HKK.out]; rfl), (by
            have h5 := HD.out.put (x := x) (by rw [← HKK.out]; omega) hlt
            rw [← HKK.out] at h5
            rw [HTX.out]; exact h5), (by
            have h8 : Turns (fun k => k = B) wr (wr.setCell ⟨B, off + kk, none⟩ (nptr NB x)) := Turns.setCell (O := fun k => k = B) (p := ⟨B, off + kk, none⟩) rfl _
            exact HT.out.trans (h8.wider fun k h => .inl h))⟩
          case measure => simp [intOf]; omega
      · have hml : m = L.length := by omega
        subst hml
        have HKL2 := Lib.hid (show kk = (L.filter fun x => !p x).length by have := HKK.out; rwa [List.take_length] at this)
        have HD2 := Lib.hid (show RowD wr B off NB (L.filter fun x => !p x) L L.length by have := HD.out; rwa [List.take_length] at this)
        have hcl : ∀ ty, (Builtin.clear_ #[54] ty #[.slice (some ⟨B, off + kk, none⟩) (L.length - kk) (cap - kk)]).run Tryz.prog wr = .ok (.tuple #[]) (wr.setCells B (off + kk) (List.replicate (L.length - kk) (.pointer none))) := fun ty =>
          Lib.run_clear_slice wr 54 73 ty (.pointer none) Tryz.underlying54 (fun _ => rfl) rfl rfl B (off + kk) (L.length - kk) (cap - kk) (by omega) (fun j hj => by
            obtain ⟨cs, h1, h2, _⟩ := HD2.out
            rw [cell_of_row wr B (off + kk + j) cs _ (0, 0) h1, Array.getElem?_eq_getElem (by omega)]; rfl) (fun j hj => by
            obtain ⟨cs, h1, _⟩ := HD2.out
            simp [World.frozen?, h1])
        have hkc : kk ≤ cap := by omega
        have hkn : kk ≤ L.length := by omega
        have hkcI : (kk : Int) ≤ cap := by omega
        have hknI : (kk : Int) ≤ L.length := by omega
        have hk0 : (0 : Int) ≤ (kk : Int) := by omega
        have hlcI : (L.length : Int) ≤ cap := by omega
        clear HKK HD
        go_wp2_with fail
        go_ret
        obtain ⟨cs, h1, h2, h3, h4⟩ := HD2.out
        obtain ⟨⟨cs', a1, a2, _, a4⟩, a5, _⟩ := setCells_block B 73 (List.replicate (L.length - kk) (.pointer none)) (off + kk) wr cs h1
        refine ⟨ret_slN HKL2.out, ⟨cs', a1, fun j hj => ?_⟩, HT.out.trans (a5.wider fun k h => .inl h)⟩
        rw [a4 (off + j) (.inl (by have := HKL2.out; omega))]; exact h3 j hj

set_option maxRecDepth 100000 in
set_option maxHeartbeats 2000000 in
theorem cloneN_any (A : Option Addr) (NB cap : Nat) (L : List Nat) (w : World) (hP : PtsI w A NB L) (hn : L.length ≤ 1048576) (h0 : 0 < L.length) :
    Calls Tryz.prog 93 #[.slice A L.length cap] w fun e w' => ∃ B off c, e = .returned (.slice (some ⟨B, off, none⟩) L.length c) ∧ w.heap.size ≤ B ∧ L.length ≤ c ∧ RowN w' B off NB L ∧ Below w.heap.size w w' := by
  obtain ⟨i0, hi0, hz0, hz1, hz2⟩ := info_parts info_ptr
  obtain ⟨b, off, rfl, hb, hc⟩ := hP h0
  have HQ := Lib.hid (Que.made w 73 1 (fun k => k = w.heap.size) #[] 0 rfl rfl)
  have HC := Lib.hid (show ∀ j u, (L.map (nptr NB))[j]? = some u → (w.alloc (.cells #[] 73)).cell? ((⟨b, off, none⟩ : Addr).add j) = some u from fun j u hu => by
    rw [List.getElem?_map] at hu
    cases hj : L[j]? with
    | none => rw [hj] at hu; cases hu
    | some x =>
      rw [hj] at hu
      obtain ⟨hjl, e⟩ := List.getElem?_eq_some_iff.1 hj
      have e2 : (⟨b, off, none⟩ : Addr).add j = ⟨b, off + j, none⟩ := by unfold Addr.add; split <;> simp_all
      rw [e2, ← hu, ← e]
      exact (((Below.refl _ w).alloc (Nat.le_refl _) (.cells #[] 73)).cell (p := ⟨b, off + j, none⟩) hb).trans (hc j hjl))
  have q22 : ∀ (w : World) (a : Option Addr) (n c n' c' : Nat), (binOp .eql 54 (.slice a n c) (.slice none n' c')).run Tryz.prog w = .ok (.bool a.isNone) w := fun w a n c n' c' => Lib.run_eql_slice_nil w _ _ a n c n' c' Tryz.underlying54
  clear hP hc
  go_enter Tryz.func93, Tryz.ntmps93
  go_wp2_with (at_builtin; go_loud (refine wpList_append_rowK (by rfl) _ _ _ (by rfl) 73 i0 (.pointer none) 1 Tryz.underlying54 hi0 hz0 hz1 (by rw [hz2]; decide) rfl (fun k => k = w.heap.size) _ 0 [] (by rfl) (.inr HQ.out) ⟨b, off, none⟩ L.length cap (L.map (nptr NB)) (by rfl) (by simp) HC.out (by simp [Value.oneCell']) ?c3 h0 ?_))
  intro v' w1 hq' hT'
  obtain ⟨B', off', cap', cs, rfl, hc', hb', hs', hO, hxl, hx⟩ := hq'
  have hB : w.heap.size ≤ B' := by
    rcases hO with h | h
    · omega
    · have : (w.alloc (.cells #[] 73)).heap.size = w.heap.size + 1 := by simp
      omega
  have HX := Lib.hid hx
  have HT := Lib.hid hT'
  have HBB := Lib.hid hb'
  clear hx hT' hb' hO hs' hxl
  go_wp2_with fail
  go_ret
  refine ⟨B', off', cap', ret_slN (by omega), hB, by omega, ⟨cs, HBB.out, fun j hj => ?_⟩, ((Below.refl _ w).alloc (Nat.le_refl _) _).trans (HT.out.below (by simp) fun k h => by omega)⟩
  rw [HX.out j (by simpa using hj), List.getElem?_map, List.getElem?_eq_getElem hj]; rfl
end Go.Proofs.YtdpjdhllaokbfaaGreat
