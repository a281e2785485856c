/-
  FarthestLeave of the model.
-/
import Derived.Test.YtelhogeaobofpaaSpecEach
import Derived.Test.YtelhogeaobofpaaFramesIn
namespace Go.Proofs.Ytelhogeaobofpaa
open Go.RowKit Go.Sort
attribute [local go_sem] Oper.semAt_some

open Classical in
/-- How many frames a step leaves at most; -1 if it is no text. -/
noncomputable def farZ (s : List UInt8) : Int := if h : ∃ l, textOk s l then (faL h.choose : Int) else -1
theorem farZ_yes {s : List UInt8} {l : List It} (h : textOk s l) : farZ s = (faL l : Int) := by
  have k : ∃ l, textOk s l := ⟨l, h⟩
  unfold farZ
  rw [dif_pos k, textOk_uniq k.choose_spec h]
theorem farZ_no {s : List UInt8} (h : ∀ l, ¬ textOk s l) : farZ s = -1 := dif_neg fun ⟨l, hl⟩ => h l hl

theorem far_flL (l : List It) : mostF lvI 0 (flL l) = faL l := by
  have h := fa_evL l 0 0
  have e : mostF lvI 0 (flL l) = mostF (fun p => lvI p.2) 0 (evL l 0) := by unfold mostF flL; rw [List.foldl_map]
  rw [e, h]; omega

theorem leave_cases (i : It) : ((((kindI i).toNat : Int) == 94) = true ∧ lvI i = numI i + 1) ∨ ((((kindI i).toNat : Int) == 94) = false ∧ lvI i = 0) := by
  cases i with
  | leave n => exact .inl ⟨rfl, rfl⟩
  | frame b l => cases b <;> exact .inr ⟨rfl, rfl⟩
  | _ => exact .inr ⟨rfl, rfl⟩
theorem mostF_step {p : It → Nat} {l : List It} {j : Nat} (h : j < l.length) : mostF p 0 (l.take (j + 1)) = max (mostF p 0 (l.take j)) (p l[j]) := by
  rw [List.take_succ_eq_append_getElem h, mostF_append]; rfl

set_option maxRecDepth 100000 in
theorem specFarthestLeave_any (s : List UInt8) (w : World) (hs : s.length ≤ 1048576) :
    Calls Try.prog 29 #[.string (tb s)] w fun e w' => e = .returned (.int .i64 (farZ s)) ∧ Below w.heap.size w w' := by
  have HC := Lib.hid (l5Read_any s w hs)
  go_enter Try.func29, Try.ntmps29
  go_wp2_with fail
  refine HC.out.mono ?_
  rintro e w1 (⟨l, A, n, k, hl, rfl, hrow, b1⟩ | ⟨hno, A, k, rfl, b1⟩)
  · have hlen : (txL l).length < 201 := by have := hl.1; rw [hl.2.2] at this; omega
    have hrow2 : MRowAt w1 (fun b => w.heap.size ≤ b ∧ b < w1.heap.size) l (.slice A n k) := hrow.stay ⟨Nat.le_refl _, fun b hb hp => ⟨⟨hp, hb⟩, rfl⟩⟩
    have HF := Lib.hid (l5Each_any w1 _ (fun b hb => hb.2) 201 l _ w1 (by omega) hlen hrow2 ⟨Nat.le_refl _, fun _ _ _ => rfl⟩)
    have hfa : faL l ≤ 9 := by have := fa_okL l 0 hl.2.1; have := dp_okL l 0 hl.2.1 (by omega); omega
    have HZ := Lib.hid (farZ_yes hl)
    have HB := Lib.hid b1
    clear hl b1 hrow hrow2
    go_wp2_with fail
    refine HF.out.mono ?_
    rintro e w2 ⟨g, c, xs, rfl, hown, hall, b2⟩
    have HX : Hid (∀ (jj : Nat) (u : Value), xs[jj]? = some u → w2.cell? ⟨g, 0 + jj, none⟩ = some u) := by
      intro jj u hj
      have hjl2 := (List.getElem?_eq_some_iff.1 hj).1
      have hl2 := hall.len
      have hc := hown.cellAt jj (by omega)
      rw [hj] at hc
      rw [Nat.zero_add]
      exact hc
    have HALL := Lib.hid hall
    have HB2 := Lib.hid (below_trans_self HB.out b2)
    have hf1000 : (flL l).length ≤ 200 := by have := flL_length l; omega
    have HG := Lib.hid (hown.lt g rfl).2
    clear b2 hall hown
    go_wp2_with fail
    go_loopg [5, 18] (flL l).length (fun gk ov iv wr => ∃ j : Nat, gk = (flL l).length - j ∧ j ≤ (flL l).length ∧ iv = .int .i64 j ∧ ov = .int .i64 (mostF lvI 0 ((flL l).take j) : Nat) ∧ Hid (Below w.heap.size w wr) ∧ Hid (Below w2.heap.size w2 wr))
    case atStart => exact ⟨0, by omega, Nat.zero_le _, rfl, by rw [List.take_zero]; rfl, HB2.out, Below.refl _ _⟩
    case round =>
      obtain ⟨j, rfl, hj, rfl, rfl, HB3, HB4⟩ := hrel
      by_cases hjl : j < (flL l).length
      · obtain ⟨vb, hbod, y0, y1, y2, y3⟩ := HALL.out.at_ j hjl
        have hg := HG.out
        have hsm : wr.heap[g]? = w2.heap[g]? := HB4.out.block g hg
        have hat : ∀ k u, xs[k]? = some u → wr.cell? ⟨g, 0 + k, none⟩ = some u := fun k u hk => by
          rw [cell_same hsm (0 + k)]; exact HX.out k u hk
        obtain ⟨A2, n2, c2, rfl⟩ := hbod.slice
        have x0 : wr.cell? ⟨g, j * 4, none⟩ = some (.int .u8 (kindI (flL l)[j]).toNat) := by have := hat _ _ y0; rw [Nat.zero_add] at this; exact this
        have x1 : wr.cell? ⟨g, j * 4 + 1, none⟩ = some (.string (tb (nameI (flL l)[j]))) := by have := hat _ _ y1; rw [Nat.zero_add] at this; exact this
        have x2 : wr.cell? ⟨g, j * 4 + 2, none⟩ = some (.int .i64 (numI (flL l)[j])) := by have := hat _ _ y2; rw [Nat.zero_add] at this; exact this
        have x3 : wr.cell? ⟨g, j * 4 + 3, none⟩ = some (.slice A2 n2 c2) := by have := hat _ _ y3; rw [Nat.zero_add] at this; exact this
        have hst := mostF_step (p := lvI) hjl
        have hmx : mostF lvI 0 ((flL l).take (j + 1)) ≤ 9 := by
          have e : mostF lvI 0 (flL l) = mostF lvI (mostF lvI 0 ((flL l).take (j + 1))) ((flL l).drop (j + 1)) := by rw [← mostF_append, List.take_append_drop]
          have := mostF_le lvI ((flL l).drop (j + 1)) (mostF lvI 0 ((flL l).take (j + 1)))
          rw [far_flL] at e
          omega
        rw [hst] at hmx
        have HST := Lib.hid hst
        have HBa := Lib.hid (HB3.out.alloc HB3.out.size (.cells #[.int .u8 (kindI (flL l)[j]).toNat, .string (tb (nameI (flL l)[j])), .int .i64 (numI (flL l)[j]), .slice A2 n2 c2] 46))
        have HBb := Lib.hid (HB4.out.alloc HB4.out.size (.cells #[.int .u8 (kindI (flL l)[j]).toNat, .string (tb (nameI (flL l)[j])), .int .i64 (numI (flL l)[j]), .slice A2 n2 c2] 46))
        obtain ⟨d1, hd1⟩ : ∃ d1, d1 = mostF lvI 0 ((flL l).take j) := ⟨_, rfl⟩
        rw [← hd1] at HST hmx
        rw [← hd1]
        clear hat y0 y1 y2 y3 hsm hst hd1 hbod
        rcases leave_cases (flL l)[j] with ⟨e1, hf⟩ | ⟨e1, hf⟩
        · rw [hf] at HST hmx
          have s1 : IntKind.i64.wrap ((numI (flL l)[j] : Int) + 1) = (numI (flL l)[j] : Int) + 1 := IntWalk.i64_in _ (by omega)
          clear hf
          go_wp2_with fail
          go_roundg ((flL l).length - (j + 1))
          case measure => omega
          case rel => exact ⟨j + 1, rfl, by omega, by go_num, by rw [HST.out, max_cast]; rfl, HBa.out, HBb.out⟩
        · rw [hf] at HST
          clear hf
          go_wp2_with fail
          go_roundg ((flL l).length - (j + 1))
          case measure => omega
          case rel => exact ⟨j + 1, rfl, by omega, by go_num, by rw [HST.out, Nat.max_zero], HBa.out, HBb.out⟩
      · have hjl2 : j = (flL l).length := by omega
        have HE := Lib.hid (show mostF lvI 0 ((flL l).take j) = faL l by rw [hjl2, List.take_length, far_flL])
        clear hjl2
        go_wp2_with fail
        go_ret
        exact ⟨by rw [HE.out, HZ.out]; rfl, HB3.out⟩
  · have HN := Lib.hid (farZ_no hno)
    have HB := Lib.hid b1
    clear hno b1
    go_wp2_with fail
    go_ret
    exact ⟨by rw [HN.out]; rfl, HB.out⟩
end Go.Proofs.Ytelhogeaobofpaa
