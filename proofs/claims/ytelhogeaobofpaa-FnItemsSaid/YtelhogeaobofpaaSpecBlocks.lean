/-
  The blocks of a text: one value for both, and what is known of it.
-/
import Derived.Test.YtelhogeaobofpaaTextB
import Derived.Test.YtelhogeaobofpaaSpecEach
import Derived.Test.YtelhogeaobofpaaSpecFar
namespace Go.Proofs.Ytelhogeaobofpaa
open Go.RowKit Go.Sort

open Classical in
/-- The blocks of a text, in order; none if it is no text. -/
noncomputable def blocksV (s : List UInt8) : List UInt8 := if h : ∃ l, textOk s l then blL h.choose else []
theorem blocksV_yes {s : List UInt8} {l : List It} (h : textOk s l) : blocksV s = blL l := by
  have k : ∃ l, textOk s l := ⟨l, h⟩
  unfold blocksV
  rw [dif_pos k, textOk_uniq k.choose_spec h]
theorem blocksV_no {s : List UInt8} (h : ∀ l, ¬ textOk s l) : blocksV s = [] := dif_neg fun ⟨l, hl⟩ => h l hl

theorem nm_le (i : It) : (nmI i).length ≤ 1 := by cases i <;> simp [nmI]
theorem nm_flat_le (l : List It) : (l.flatMap nmI).length ≤ l.length := by
  induction l with
  | nil => simp
  | cons i l ih => rw [List.flatMap_cons, List.length_append, List.length_cons]; have := nm_le i; omega
theorem bl_flL (l : List It) : (flL l).flatMap nmI = blL l := by
  have h := bl_evL l 0
  rw [← h]; unfold flL; rw [List.flatMap_map]
theorem name_nm (i : It) : nameI i = nmI i := by cases i <;> rfl
theorem flat_step {l : List It} {j : Nat} (h : j < l.length) : (l.take (j + 1)).flatMap nmI = (l.take j).flatMap nmI ++ nmI l[j] := by
  rw [List.take_succ_eq_append_getElem h, List.flatMap_append]; simp
theorem tb_append (a b : List UInt8) : tb a ++ tb b = tb (a ++ b) := by
  apply ba_ext
  rw [ByteArray.data_append, Array.toList_append, tb_data, tb_data, tb_data]
theorem blV_len {s : List UInt8} : (blocksV s).length ≤ 200 := by
  by_cases h : ∃ l, textOk s l
  · obtain ⟨l, hl⟩ := h
    rw [blocksV_yes hl, ← bl_flL]
    have h1 := nm_flat_le (flL l)
    have h2 := flL_length l
    have h3 := hl.1
    rw [hl.2.2] at h3
    omega
  · rw [blocksV_no fun l hl => h ⟨l, hl⟩]; simp
end Go.Proofs.Ytelhogeaobofpaa

/-
  BlocksIn of the model.
-/
namespace Go.Proofs.Ytelhogeaobofpaa
open Go.RowKit Go.Sort
attribute [local go_sem] Oper.semAt_some

theorem ret_tb {a b : List UInt8} {x y : Bool} (h : a = b) (k : x = y) : Ending.returned (.tuple #[.string (tb a), .bool x]) = .returned (.tuple #[.string (tb b), .bool y]) := by rw [h, k]

/-- What BlocksIn returns. -/
def BlocksPost (s : List UInt8) (w : World) (e : Ending) (w' : World) : Prop :=
  e = .returned (.tuple #[.string (tb (blocksV s)), .bool (textB s)]) ∧ Below w.heap.size w w'

set_option maxRecDepth 100000 in
theorem specBlocksIn_any (s : List UInt8) (w : World) (hs : s.length ≤ 1048576) :
    Calls Try.prog 15 #[.string (tb s)] w (BlocksPost s w) := by
  have HC := Lib.hid (l5Read_any s w hs)
  go_enter Try.func15, Try.ntmps15
  go_wp2_with fail
  refine HC.out.mono ?_
  intro e w1 hp
  obtain ⟨l, A, n, k, ok, rfl, hrow, hlen, hv, hok, b1⟩ : ∃ l A n k ok, e = .returned (.tuple #[.slice A n k, .bool ok]) ∧ MRowAt w1 (NewIn w) l (.slice A n k) ∧ (txL l).length < 201 ∧ blocksV s = blL l ∧ textB s = ok ∧ Below w.heap.size w w1 := by
    rcases hp with ⟨l, A, n, k, hl, rfl, hrow, b1⟩ | ⟨hno, A, k, rfl, b1⟩
    · exact ⟨l, A, n, k, true, rfl, hrow, by have := hl.1; rw [hl.2.2] at this; omega, blocksV_yes hl, textB_yes ⟨l, hl⟩, b1⟩
    · refine ⟨[], A, 0, k, false, rfl, ⟨[], ⟨A, k, rfl, rfl, fun h => absurd h (by decide)⟩, by rw [MAllAt]⟩, by rw [txL]; decide, ?_, textB_no hno, b1⟩
      rw [blocksV_no hno]; rw [blL]
  have hrow2 : MRowAt w1 (fun b => w.heap.size ≤ b ∧ b < w1.heap.size) l (.slice A n k) := hrow.stay ⟨Nat.le_refl _, fun b hb hp => ⟨⟨hp, hb⟩, rfl⟩⟩
  have HF := Lib.hid (l5Each_any w1 _ (fun b hb => hb.2) 201 l _ w1 (by omega) hlen hrow2 ⟨Nat.le_refl _, fun _ _ _ => rfl⟩)
  have HZ := Lib.hid hv
  have HOKB := Lib.hid hok
  have HB := Lib.hid b1
  have hf1000 : (flL l).length ≤ 200 := by have := flL_length l; omega
  clear hp b1 hrow hrow2 hv hok
  go_wp2_with fail
  refine HF.out.mono ?_
  rintro e w2 ⟨g, c, xs, rfl, hown, hall, b2⟩
  have HX : Hid (∀ (jj : Nat) (u : Value), xs[jj]? = some u → w2.cell? ⟨g, 0 + jj, none⟩ = some u) := by
    intro jj u hj
    have hjl2 := (List.getElem?_eq_some_iff.1 hj).1
    have hl2 := hall.len
    have hc := hown.cellAt jj (by omega)
    rw [hj] at hc
    rw [Nat.zero_add]
    exact hc
  have HALL := Lib.hid hall
  have HB2 := Lib.hid (below_trans_self HB.out b2)
  have HG := Lib.hid (hown.lt g rfl).2
  clear b2 hall hown
  go_wp2_with fail
  go_loopg [6, 17] (flL l).length (fun gk ov iv wr => ∃ j : Nat, gk = (flL l).length - j ∧ j ≤ (flL l).length ∧ iv = .int .i64 j ∧ ov = .string (tb (((flL l).take j).flatMap nmI)) ∧ Hid (Below w.heap.size w wr) ∧ Hid (Below w2.heap.size w2 wr))
  case atStart => exact ⟨0, by omega, Nat.zero_le _, rfl, by rw [List.take_zero]; rfl, HB2.out, Below.refl _ _⟩
  case round =>
    obtain ⟨j, rfl, hj, rfl, rfl, HB3, HB4⟩ := hrel
    by_cases hjl : j < (flL l).length
    · obtain ⟨vb, hbod, y0, y1, y2, y3⟩ := HALL.out.at_ j hjl
      have hg := HG.out
      have hsm : wr.heap[g]? = w2.heap[g]? := HB4.out.block g hg
      have hat : ∀ k u, xs[k]? = some u → wr.cell? ⟨g, 0 + k, none⟩ = some u := fun k u hk => by
        rw [cell_same hsm (0 + k)]; exact HX.out k u hk
      obtain ⟨A2, n2, c2, rfl⟩ := hbod.slice
      have x0 : wr.cell? ⟨g, j * 4, none⟩ = some (.int .u8 (kindI (flL l)[j]).toNat) := by have := hat _ _ y0; rw [Nat.zero_add] at this; exact this
      have x1 : wr.cell? ⟨g, j * 4 + 1, none⟩ = some (.string (tb (nameI (flL l)[j]))) := by have := hat _ _ y1; rw [Nat.zero_add] at this; exact this
      have x2 : wr.cell? ⟨g, j * 4 + 2, none⟩ = some (.int .i64 (numI (flL l)[j])) := by have := hat _ _ y2; rw [Nat.zero_add] at this; exact this
      have x3 : wr.cell? ⟨g, j * 4 + 3, none⟩ = some (.slice A2 n2 c2) := by have := hat _ _ y3; rw [Nat.zero_add] at this; exact this
      have HST := Lib.hid (flat_step hjl)
      have HBa := Lib.hid (HB3.out.alloc HB3.out.size (.cells #[.int .u8 (kindI (flL l)[j]).toNat, .string (tb (nameI (flL l)[j])), .int .i64 (numI (flL l)[j]), .slice A2 n2 c2] 46))
      have HBb := Lib.hid (HB4.out.alloc HB4.out.size (.cells #[.int .u8 (kindI (flL l)[j]).toNat, .string (tb (nameI (flL l)[j])), .int .i64 (numI (flL l)[j]), .slice A2 n2 c2] 46))
      have hz1 : (tb (((flL l).take j).flatMap nmI)).size ≤ 200 := by
        rw [tb_size]; have := nm_flat_le ((flL l).take j); rw [List.length_take] at this; omega
      have hz2 : (tb (nameI (flL l)[j])).size ≤ 1 := by rw [tb_size, name_nm]; exact nm_le _
      obtain ⟨d1, hd1⟩ : ∃ d1, d1 = ((flL l).take j).flatMap nmI := ⟨_, rfl⟩
      rw [← hd1] at HST hz1
      rw [← hd1]
      clear hat y0 y1 y2 y3 hsm hd1 hbod
      go_wp2_with fail
      go_roundg ((flL l).length - (j + 1))
      case measure => omega
      case rel => exact ⟨j + 1, rfl, by omega, by go_num, by rw [HST.out, name_nm, tb_append], HBa.out, HBb.out⟩
    · have hjl2 : j = (flL l).length := by omega
      have HE := Lib.hid (show ((flL l).take j).flatMap nmI = blL l by rw [hjl2, List.take_length, bl_flL])
      clear hjl2
      go_wp2_with fail
      go_ret2
      exact ⟨ret_tb (by rw [HE.out, HZ.out]) HOKB.out.symm, HB3.out⟩
end Go.Proofs.Ytelhogeaobofpaa
