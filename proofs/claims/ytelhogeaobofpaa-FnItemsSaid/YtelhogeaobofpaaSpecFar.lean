/-
  FarthestLeave of the model.
-/
import Derived.Test.YtelhogeaobofpaaSpecEach
import Derived.Test.YtelhogeaobofpaaFramesIn
namespace Go.Proofs.Ytelhogeaobofpaa
open Go.RowKit Go.Sort
attribute [local go_sem] Oper.semAt_some

open Classical in
/-- How many frames a step leaves at most; -1 if it is no text. -/
noncomputable def farZ (s : List UInt8) : Int := if h : ∃ l, textOk s l then (faL h.choose : Int) else -1
theorem farZ_yes {s : List UInt8} {l : List It} (h : textOk s l) : farZ s = (faL l : Int) := by
  have k : ∃ l, textOk s l := ⟨l, h⟩
  unfold farZ
  rw [dif_pos k, textOk_uniq k.choose_spec h]
theorem farZ_no {s : List UInt8} (h : ∀ l, ¬ textOk s l) : farZ s = -1 := dif_neg fun ⟨l, hl⟩ => h l hl

theorem far_flL (l : List It) : mostF lvI 0 (flL l) = faL l := by
  have h := fa_evL l 0 0
  have e : mostF lvI 0 (flL l) = mostF (fun p => lvI p.2) 0 (evL l 0) := by unfold mostF flL; rw [List.foldl_map]
  rw [e, h]; omega

theorem leave_cases (i : It) : ((((kindI i).toNat : Int) == 94) = true ∧ lvI i = numI i + 1) ∨ ((((kindI i).toNat : Int) == 94) = false ∧ lvI i = 0) := by
  cases i with
  | leave n => exact .inl ⟨rfl, rfl⟩
  | frame b l => cases b <;> exact .inr ⟨rfl, rfl⟩
  | _ => exact .inr ⟨rfl, rfl⟩
theorem mostF_step {p : It → Nat} {l : List It} {j : Nat} (h : j < l.length) : mostF p 0 (l.take (j + 1)) = max (mostF p 0 (l.take j)) (p l[j]) := by
  rw [List.take_succ_eq_append_getElem h, mostF_append]; rfl

set_option maxRecDepth 100000 in
theorem specFarthestLeave_any (s : List UInt8) (w : World) (hs : s.length ≤ 1048576) :
    Calls Try.prog 29 #[.string (tb s)] w fun e w' => e = .returned (.int .i64 (farZ s)) ∧ Below w.heap.size w w' := by
  have HC := Lib.hid (l5Read_any s w hs)
  go_enter Try.func29, Try.ntmps29
  go_wp2_with fail
  refine HC.out.mono ?_
  rintro e w1 (⟨l, A, n, k, hl, rfl, hrow, b1⟩ | ⟨hno, A, k, rfl, b1⟩)
  · have hlen : (txL l).length < 201 := by have := hl.1; rw [hl.2.2] at this; omega
    have hrow2 : MRowAt w1 (fun b => w.heap.size ≤ b ∧ b < w1.heap.size) l (.slice A n k) := hrow.stay ⟨Nat.le_refl _, fun b hb hp => ⟨⟨hp, hb⟩, rfl⟩⟩
    have HF := Lib.hid (l5Each_any w1 _ (fun b hb => hb.2) 201 l _ w1 (by omega) hlen hrow2 ⟨Nat.le_refl _, fun _ _ _ => rfl⟩)
    have hfa : faL l ≤ 9 := by have := fa_okL l 0 hl.2.1; have := dp_okL l 0 hl.2.1 (by omega); omega
    have HZ := Lib.hid (farZ_yes hl)
    have HB := Lib.hid b1
    clear hl b1 hrow hrow2
    go_wp2_with fail
    refine HF.out.mono ?_
    rintro e w2 ⟨g, c, xs, rfl, hown, hall, b2⟩
    have HX : Hid (∀ (jj : Nat) (u : Value), xs[jj]? = some u → w2.cell? ⟨g, 0 + jj, none⟩ = some u) := by
      intro jj u hj
      have hjl2 := (List.getElem?_eq_some_iff.1 hj).1
      have hl2 := hall.len
      have hc := hown.cellAt jj (by omega)
      rw [hj] at hc
      rw [Nat.zero_add]
      exact hc
    have HALL := Lib.hid hall
    have HB2 := Lib.hid (below_trans_self HB.out b2)
    have hf1000 : (flL l).length ≤ 200 := by have := flL_length l; omega
    have HG := Lib.hid (hown.lt g rfl).2
    clear b2 hall hown
    go_wp2_with fail
    go_loopg [5, 18] (flL l).length (fun gk ov iv wr => ∃ j : Nat, gk = (flL l).length - j ∧ j ≤ (flL l).length ∧ iv = .int .i64 j ∧ ov = .int .i64 (mostF lvI 0 ((flL l).take j) : Nat) ∧ Hid (Below w.heap.size w wr) ∧ Hid (Below w2.heap.size w2 wr))
    case atStart => exact ⟨0, by omega, Nat.zero_le _, rfl, by rw [List.take_zero]; rfl, HB2.out, Below.refl _ _⟩
    case round =>
      obtain ⟨j, rfl, hj, rfl, rfl, HB3, HB4⟩ := hrel
      by_cases hjl : j < (flL l).length
      · obtain ⟨vb, hbod, y0, y1, y2, y3⟩ := HALL.out.at_ j hjl
        have hg := HG.out
        have hsm : wr.heap[g]? = w2.heap[g]? := HB4.out.block g hg
        have hat : ∀ k u, xs[k]? = some u → wr.cell? ⟨g, 0 + k, none⟩ = some u := fun k u hk => by
          rw [cell_same hsm (0 + k)]; exact HX.out k u hk
        obtain ⟨A2, n2, c2, rfl⟩ := hbod.slice
        have x0 : wr.cell? ⟨g, j * 4, none⟩ = some (.int .u8 (kindI (flL l)[j]).toNat) := by have := hat _ _ y0; rw [Nat.zero_add] at this; exact this
        have x1 : wr.cell? ⟨g, j * 4 + 1, none⟩ = some (.string (tb (nameI (flL l)[j]))) := by have := hat _ _ y1; rw [Nat.zero_add] at this; exact this
        have x2 : wr.cell? ⟨g, j * 4 + 2, none⟩ = some (.int .i64 (numI (flL l)[j])) := by have := hat _ _ y2; rw [Nat.zero_add] at this; exact this
        have x3 : wr.cell? ⟨g, j * 4 + 3, none⟩ = some (.slice A2 n2 c2) := by have := hat _ _ y3; rw [Nat.zero_add] at this; exact this
        have hst := mostF_step (p := lvI) hjl
        have hmx : mostF lvI 0 ((flL l).take (j + 1)) ≤ 9 := by
          have e : mostF lvI 0 (flL l) = mostF lvI (mostF lvI 0 ((flL l).take (j + 1))) ((flL l).drop (j + 1)) := by rw [← mostF_append, List.take_append_drop]
          have := mostF_le lvI ((flL l).drop (j + 1)) (mostF lvI 0 ((flL l).take (j + 1)))
          rw [far_flL] at e
          omega
        rw [hst] at hmx
        have HST := Lib.hid hst
        have HBa := Lib.hid (HB3.out.alloc HB3.out.size (.cells #[.int .u8 (kindI (flL l)[j]).toNat, .string (tb (nameI (flL l)[j])), .int .i64 (numI (flL l)[j]), .slice A2 n2 c2] 46))
        have HBb := Lib.hid (HB4.out.alloc HB4.out.size (.cells #[.int .u8 (kindI (flL l)[j]).toNat, .string (tb (nameI (flL l)[j])), .int .i64 (numI (flL l)[j]), .slice A2 n2 c2] 46))
        obtain ⟨d1, hd1⟩ : ∃ d1, d1 = mostF lvI 0 ((flL l).take j) := ⟨_, rfl⟩
        rw [← hd1] at HST hmx
        rw [← hd1]
        clear hat y0 y1 y2 y3 hsm hst hd1 hbod
        rcases leave_cases (flL l)[j] with ⟨e1, hf⟩ | ⟨e1, hf⟩
        · rw [hf] at HST hmx
          have s1 : IntKind.i64.wrap ((numI (flL l)[j] : Int) + 1) = (numI (flL l)[j] : Int) + 1 := IntWalk.i64_in _ (by omega)
          clear hf
          go_wp2_with fail
          go_roundg ((flL l).length - (j + 1))
          case measure => omega
          case rel => exact ⟨j + 1, rfl, by omega, by go_num, by rw [HST.out, max_cast]; rfl, HBa.out, HBb.out⟩
        · rw [hf] at HST
          clear hf
          go_wp2_with fail
          go_roundg ((flL l).length - (j + 1))
          case measure => omega
          case rel => exact ⟨j + 1, rfl, by omega, by go_num, by rw [HST.out, Nat.max_zero], HBa.out, HBb.out⟩
      · have hjl2 : j = (flL l).length := by omega
        have HE := Lib.hid (show mostF lvI 0 ((flL l).take j) = faL l by rw [hjl2, List.take_length, far_flL])
        clear hjl2
        go_wp2_with fail
        go_ret
        exact ⟨by rw [HE.out, HZ.out]; rfl, HB3.out⟩
  · have HN := Lib.hid (farZ_no hno)
    have HB := Lib.hid b1
    clear hno b1
    go_wp2_with fail
    go_ret
    exact ⟨by rw [HN.out]; rfl, HB.out⟩
end Go.Proofs.Ytelhogeaobofpaa

/-
  CountItems of the model: how many items of a kind; plain facts.
-/
namespace Go.Proofs.Ytelhogeaobofpaa
open Go.RowKit Go.Sort
attribute [local go_sem] Oper.semAt_some

theorem count_drewN (w : World) (n : Nat) : Below w.heap.size w (w.drewN n) := ⟨rfl, rfl, rfl, Nat.le_refl _, fun _ _ => rfl⟩
theorem kindI_kdI (i : It) : kindI i = kdI i := by
  cases i with
  | frame b l => cases b <;> rfl
  | _ => rfl
theorem cn_flL (kd : UInt8) (l : List It) : (flL l).countP (fun i => decide (kdI i = kd)) = cnL kd l := by
  have h := cn_evL kd l 0
  rw [← h]; unfold flL; rw [List.countP_map]; rfl
def cntK (kd : UInt8) (l : List It) : Nat := l.countP fun i => decide (kdI i = kd)
theorem cntK_step {kd : UInt8} {l : List It} {j : Nat} (h : j < l.length) : cntK kd (l.take (j + 1)) = cntK kd (l.take j) + (if kdI l[j] = kd then 1 else 0) := by
  unfold cntK
  rw [List.take_succ_eq_append_getElem h, List.countP_append, List.countP_cons, List.countP_nil, Nat.zero_add]
  simp
theorem cntK_le (kd : UInt8) (l : List It) : cntK kd l ≤ l.length := List.countP_le_length ..
theorem same_kind (i : It) (kd : UInt8) : ((((kindI i).toNat : Int) == (kd.toNat : Int)) = true ∧ kdI i = kd) ∨ ((((kindI i).toNat : Int) == (kd.toNat : Int)) = false ∧ kdI i ≠ kd) := by
  rw [kindI_kdI]
  by_cases h : kdI i = kd
  · exact .inl ⟨by rw [h]; simp, h⟩
  · refine .inr ⟨?_, h⟩
    have : (kdI i).toNat ≠ kd.toNat := fun e => h (UInt8.toNat_inj.1 e)
    simp; omega

open Classical in
/-- How many items of a kind a text has; -1 if it is no text, or that no kind. -/
noncomputable def countZ (s kd : List UInt8) : Int := if h : ∃ l c, textOk s l ∧ kd = [c] ∧ c ∈ [88, 63, 40, 123, 94, 46, 61, 35] then (cnL h.choose_spec.choose h.choose : Int) else -1
theorem countZ_yes {s kd : List UInt8} {l : List It} {c : UInt8} (h : textOk s l) (hk : kd = [c]) (hc : c ∈ ([88, 63, 40, 123, 94, 46, 61, 35] : List UInt8)) : countZ s kd = (cnL c l : Int) := by
  have k : ∃ l c, textOk s l ∧ kd = [c] ∧ c ∈ ([88, 63, 40, 123, 94, 46, 61, 35] : List UInt8) := ⟨l, c, h, hk, hc⟩
  unfold countZ
  rw [dif_pos k]
  have h1 := k.choose_spec.choose_spec
  have e1 := textOk_uniq h1.1 h
  have e2 : k.choose_spec.choose = c := (List.cons.inj (h1.2.1.symm.trans hk)).1
  rw [e2, e1]
theorem countZ_no {s kd : List UInt8} (h : ∀ l c, textOk s l → kd = [c] → c ∈ ([88, 63, 40, 123, 94, 46, 61, 35] : List UInt8) → False) : countZ s kd = -1 :=
  dif_neg fun ⟨l, c, h1, h2, h3⟩ => h l c h1 h2 h3

theorem kinds_find (c : UInt8) : (c ∈ ([88, 63, 40, 123, 94, 46, 61, 35] : List UInt8) ∧ (Lib.indexByte [88, 63, 40, 123, 94, 46, 61, 35] c < 0) = False) ∨ (c ∉ ([88, 63, 40, 123, 94, 46, 61, 35] : List UInt8) ∧ (Lib.indexByte [88, 63, 40, 123, 94, 46, 61, 35] c < 0) = True) := by
  have h : ∀ n : Fin 256, (UInt8.ofNat n.1 ∈ ([88, 63, 40, 123, 94, 46, 61, 35] : List UInt8) ∧ ¬ (Lib.indexByte [88, 63, 40, 123, 94, 46, 61, 35] (UInt8.ofNat n.1) < 0)) ∨ (UInt8.ofNat n.1 ∉ ([88, 63, 40, 123, 94, 46, 61, 35] : List UInt8) ∧ Lib.indexByte [88, 63, 40, 123, 94, 46, 61, 35] (UInt8.ofNat n.1) < 0) := by decide +kernel
  have h1 := h ⟨c.toNat, c.toNat_lt⟩
  simp only [UInt8.ofNat_toNat] at h1
  rcases h1 with ⟨a, b⟩ | ⟨a, b⟩
  · exact .inl ⟨a, eq_false b⟩
  · exact .inr ⟨a, eq_true b⟩

set_option maxRecDepth 100000 in
theorem specCountItems_any (s kd : List UInt8) (w : World) (hs : s.length ≤ 1048576) (hkd : kd.length ≤ 1048576) :
    Calls Try.prog 19 #[.string (tb s), .string (tb kd)] w fun e w' => e = .returned (.int .i64 (countZ s kd)) ∧ Below w.heap.size w w' := by
  have HC := Lib.hid (l5Read_any s w hs)
  have hz : (tb kd).size = kd.length := tb_size kd
  go_enter Try.func19, Try.ntmps19
  go_wp2_with fail
  refine HC.out.mono ?_
  rintro e w1 (⟨l, A, n, k, hl, rfl, hrow, b1⟩ | ⟨hno, A, k, rfl, b1⟩)
  · have hlen : (txL l).length < 201 := by have := hl.1; rw [hl.2.2] at this; omega
    have HB := Lib.hid b1
    by_cases hk1 : kd.length = 1
    · obtain ⟨c, rfl⟩ := List.length_eq_one_iff.1 hk1
      have hsz : (tb [c]).size = 1 := hz
      have hrow2 : MRowAt w1 (fun b => w.heap.size ≤ b ∧ b < w1.heap.size) l (.slice A n k) := hrow.stay ⟨Nat.le_refl _, fun b hb hp => ⟨⟨hp, hb⟩, rfl⟩⟩
      have HF := Lib.hid (l5Each_any w1 _ (fun b hb => hb.2) 201 l _ w1 (by omega) hlen hrow2 ⟨Nat.le_refl _, fun _ _ _ => rfl⟩)
      have HL := Lib.hid hl
      have hp0 : 0 < (tb [c]).size := by omega
      have h0 : (tb [c])[0]'hp0 = c := rfl
      obtain ⟨z, hz2⟩ : ∃ z, z = Lib.indexByte [88, 63, 40, 123, 94, 46, 61, 35] c := ⟨_, rfl⟩
      have hk2 := kinds_find c
      rw [← hz2] at hk2
      have HFI : Hid (Calls Try.prog 51 #[.string ⟨#[88, 63, 40, 123, 94, 46, 61, 35]⟩, .int .u8 ((tb [c])[0]'hp0).toNat] w1 fun e w' => e = .returned (.int .i64 z) ∧ w1 = w') := by
        have := find_any ⟨#[88, 63, 40, 123, 94, 46, 61, 35]⟩ ((tb [c])[0]'hp0) w1 (by decide)
        rw [hz2]; exact this
      have H0 := Lib.hid h0
      have HK2 := Lib.hid hk2
      have hf1000 : (flL l).length ≤ 200 := by have := flL_length l; omega
      clear hl b1 hrow hrow2 hz hz2 h0 hk2
      go_wp2_with fail
      refine HFI.out.mono ?_
      rintro e w1' ⟨rfl, rfl⟩
      rcases HK2.out with ⟨hmem, hzz⟩ | ⟨hmem, hzz⟩
      · have HZ := Lib.hid (countZ_yes HL.out rfl hmem)
        have hz3 : ¬ z < 0 := by rw [hzz]; exact id
        clear hmem HK2
        go_wp2_with fail
        refine HF.out.mono ?_
        rintro e w2 ⟨g, c3, xs, rfl, hown, hall, b2⟩
        have HX : Hid (∀ (jj : Nat) (u : Value), xs[jj]? = some u → w2.cell? ⟨g, 0 + jj, none⟩ = some u) := by
          intro jj u hj
          have hjl2 := (List.getElem?_eq_some_iff.1 hj).1
          have hl2 := hall.len
          have hc := hown.cellAt jj (by omega)
          rw [hj] at hc
          rw [Nat.zero_add]
          exact hc
        have HALL := Lib.hid hall
        have HB2 := Lib.hid (below_trans_self HB.out b2)
        have HG := Lib.hid (hown.lt g rfl).2
        clear b2 hall hown
        go_wp2_with fail
        go_loopg [7, 31] (flL l).length (fun gk ov iv wr => ∃ j : Nat, gk = (flL l).length - j ∧ j ≤ (flL l).length ∧ iv = .int .i64 j ∧ ov = .int .i64 (cntK c ((flL l).take j) : Nat) ∧ Hid (Below w.heap.size w wr) ∧ Hid (Below w2.heap.size w2 wr))
        case atStart => exact ⟨0, by omega, Nat.zero_le _, rfl, by rw [List.take_zero]; rfl, HB2.out, Below.refl _ _⟩
        case round =>
          obtain ⟨j, rfl, hj, rfl, rfl, HB3, HB4⟩ := hrel
          by_cases hjl : j < (flL l).length
          · obtain ⟨vb, hbod, y0, y1, y2, y3⟩ := HALL.out.at_ j hjl
            have hg := HG.out
            have hsm : wr.heap[g]? = w2.heap[g]? := HB4.out.block g hg
            have hat : ∀ k u, xs[k]? = some u → wr.cell? ⟨g, 0 + k, none⟩ = some u := fun k u hk => by
              rw [cell_same hsm (0 + k)]; exact HX.out k u hk
            obtain ⟨A2, n2, c2, rfl⟩ := hbod.slice
            have x0 : wr.cell? ⟨g, j * 4, none⟩ = some (.int .u8 (kindI (flL l)[j]).toNat) := by have := hat _ _ y0; rw [Nat.zero_add] at this; exact this
            have x1 : wr.cell? ⟨g, j * 4 + 1, none⟩ = some (.string (tb (nameI (flL l)[j]))) := by have := hat _ _ y1; rw [Nat.zero_add] at this; exact this
            have x2 : wr.cell? ⟨g, j * 4 + 2, none⟩ = some (.int .i64 (numI (flL l)[j])) := by have := hat _ _ y2; rw [Nat.zero_add] at this; exact this
            have x3 : wr.cell? ⟨g, j * 4 + 3, none⟩ = some (.slice A2 n2 c2) := by have := hat _ _ y3; rw [Nat.zero_add] at this; exact this
            have hst := cntK_step (kd := c) hjl
            have hmx : cntK c ((flL l).take j) ≤ 200 := by have := cntK_le c ((flL l).take j); rw [List.length_take] at this; omega
            have HST := Lib.hid hst
            have HBa := Lib.hid (HB3.out.alloc HB3.out.size (.cells #[.int .u8 (kindI (flL l)[j]).toNat, .string (tb (nameI (flL l)[j])), .int .i64 (numI (flL l)[j]), .slice A2 n2 c2] 46))
            have HBb := Lib.hid (HB4.out.alloc HB4.out.size (.cells #[.int .u8 (kindI (flL l)[j]).toNat, .string (tb (nameI (flL l)[j])), .int .i64 (numI (flL l)[j]), .slice A2 n2 c2] 46))
            obtain ⟨d1, hd1⟩ : ∃ d1, d1 = cntK c ((flL l).take j) := ⟨_, rfl⟩
            rw [← hd1] at HST hmx
            rw [← hd1]
            have s1 : IntKind.i64.wrap ((d1 : Int) + 1) = (d1 : Int) + 1 := IntWalk.i64_in _ (by omega)
            have hsk : ((((kindI (flL l)[j]).toNat : Int) == (((tb [c])[0]'hp0).toNat : Int)) = true ∧ kdI (flL l)[j] = c) ∨ ((((kindI (flL l)[j]).toNat : Int) == (((tb [c])[0]'hp0).toNat : Int)) = false ∧ kdI (flL l)[j] ≠ c) := same_kind (flL l)[j] c
            clear hat y0 y1 y2 y3 hsm hst hd1 hbod
            rcases hsk with ⟨e1, hf⟩ | ⟨e1, hf⟩
            · have HF1 := Lib.hid (show (if kdI (flL l)[j] = c then 1 else 0) = 1 from if_pos hf)
              clear hf
              go_wp2_with fail
              go_quiet (fail)
              go_wp2_with fail
              go_roundg ((flL l).length - (j + 1))
              case measure => omega
              case rel => exact ⟨j + 1, rfl, by omega, by go_num, by rw [HST.out, HF1.out]; rfl, HBa.out.trans ((count_drewN _ nq).mono HBa.out.size), HBb.out.trans ((count_drewN _ nq).mono HBb.out.size)⟩
            · have HF1 := Lib.hid (show (if kdI (flL l)[j] = c then 1 else 0) = 0 from if_neg hf)
              clear hf
              go_wp2_with fail
              go_quiet (fail)
              go_wp2_with fail
              go_roundg ((flL l).length - (j + 1))
              case measure => omega
              case rel => exact ⟨j + 1, rfl, by omega, by go_num, by rw [HST.out, HF1.out]; rfl, HBa.out.trans ((count_drewN _ nq).mono HBa.out.size), HBb.out.trans ((count_drewN _ nq).mono HBb.out.size)⟩
          · have hjl2 : j = (flL l).length := by omega
            have HE := Lib.hid (show cntK c ((flL l).take j) = cnL c l by rw [hjl2, List.take_length]; exact cn_flL c l)
            clear hjl2
            go_wp2_with fail
            go_ret
            exact ⟨by rw [HE.out, HZ.out]; rfl, HB3.out⟩
      · have HN := Lib.hid (countZ_no (s := s) (kd := [c]) fun l c' _ e hm => hmem (by rw [(List.cons.inj e).1]; exact hm))
        have hz3 : z < 0 := by rw [hzz]; trivial
        clear hmem HK2
        go_wp2_with fail
        go_ret
        exact ⟨by rw [HN.out]; rfl, HB.out⟩
    · have HN := Lib.hid (countZ_no (s := s) (kd := kd) fun l c _ e _ => hk1 (by rw [e]; rfl))
      have hne : (((kd.length : Int)) == 1) = false := by simp; omega
      clear hl b1 hrow
      go_wp2_with fail
      go_ret
      exact ⟨by rw [HN.out]; rfl, HB.out⟩
  · have HN := Lib.hid (countZ_no (s := s) (kd := kd) fun l _ h _ _ => hno l h)
    have HB := Lib.hid b1
    clear hno b1
    go_wp2_with fail
    go_ret
    exact ⟨by rw [HN.out]; rfl, HB.out⟩
end Go.Proofs.Ytelhogeaobofpaa
