/-
  The model's count of frames within each other.
-/
import Derived.Test.YtelhogeaobofpaaMRead
import Derived.Test.YtelhogeaobofpaaWithin
namespace Go.Proofs.Ytelhogeaobofpaa
open Go.RowKit Go.Sort

theorem dpI_bod (i : It) : dpI i = dpB (bodI i) + (if frI i then 1 else 0) := by
  cases i with
  | ask c l r => rw [dpI]; show _ = dpB [l, r] + 0; rw [dpB, dpB, dpB]; omega
  | frame b l => rw [dpI]; show _ = dpB [l] + 1; rw [dpB, dpB]; omega
  | pick bs => rw [dpI]; rfl
  | _ => rw [dpI]; show _ = dpB [] + 0; rw [dpB]
theorem dpL_step {l : List It} {j : Nat} (h : j < l.length) : dpL (l.take (j + 1)) = max (dpL (l.take j)) (dpI l[j]) := by
  rw [List.take_succ_eq_append_getElem h, dpL_append, dpL, dpL]; omega
theorem dpB_append : ∀ (a b : List (List It)), dpB (a ++ b) = max (dpB a) (dpB b)
  | [], b => by rw [dpB]; simp
  | x :: a, b => by rw [List.cons_append, dpB, dpB, dpB_append a b]; omega
theorem dpB_step {bs : List (List It)} {m : Nat} (h : m < bs.length) : dpB (bs.take (m + 1)) = max (dpB (bs.take m)) (dpL bs[m]) := by
  rw [List.take_succ_eq_append_getElem h, dpB_append, dpB, dpB]; omega
theorem dpL_take (l : List It) (j : Nat) : dpL (l.take j) ≤ dpL l := by
  have h := dpL_append (l.take j) (l.drop j)
  rw [List.take_append_drop] at h
  omega
theorem dpB_take (bs : List (List It)) (j : Nat) : dpB (bs.take j) ≤ dpB bs := by
  have h := dpB_append (bs.take j) (bs.drop j)
  rw [List.take_append_drop] at h
  omega
theorem dpI_le {l : List It} {j : Nat} (h : j < l.length) : dpI l[j] ≤ dpL l := by
  have h1 := dpL_step h
  have h2 := dpL_take l (j + 1)
  omega
theorem max_cast (a b : Nat) : ((max a b : Nat) : Int) = max (a : Int) (b : Int) := by omega

theorem kind_cases (i : It) : ((((kindI i).toNat : Int) == 40) = true ∧ frI i = true) ∨ ((((kindI i).toNat : Int) == 40) = false ∧ (((kindI i).toNat : Int) == 123) = true ∧ frI i = true) ∨ ((((kindI i).toNat : Int) == 40) = false ∧ (((kindI i).toNat : Int) == 123) = false ∧ frI i = false) := by
  cases i with
  | frame b l => cases b
                 · exact .inl ⟨rfl, rfl⟩
                 · exact .inr (.inl ⟨rfl, rfl, rfl⟩)
  | _ => exact .inr (.inr ⟨rfl, rfl, rfl⟩)

set_option maxRecDepth 100000 in
set_option maxHeartbeats 3200000 in
theorem l5Frames_any (w0 : World) (P : Nat → Prop) (hP : ∀ b, P b → b < w0.heap.size) : ∀ (N : Nat) (l : List It) (v : Value) (w : World), N ≤ 1000 → (txL l).length < N → dpL l ≤ 9 → MRowAt w0 P l v → Same P w0 w →
    Calls Try.prog 56 #[v] w fun e w' => e = .returned (.int .i64 (dpL l)) ∧ Below w.heap.size w w' := by
  intro N
  induction N with
  | zero => intro l v w _ hN; omega
  | succ N IH =>
    intro l v w hN1 hN hd9 hrow hsame
    obtain ⟨xs, ⟨A, cap, rfl, hxl, hcells⟩, hall⟩ := hrow
    have HALL := Lib.hid hall
    have HCL := Lib.hid hcells
    have HXL := Lib.hid hxl
    have HS := Lib.hid hsame
    have HIH := Lib.hid IH
    have HPL := Lib.hid hP
    have hl1000 : l.length ≤ 1000 := by have := txL_length l; omega
    clear hall hcells hxl hsame IH hP
    go_enter Try.func56, Try.ntmps56
    go_wp2_with fail
    go_loopg [3, 11] l.length (fun gk ov iv wr => ∃ j : Nat, gk = l.length - j ∧ j ≤ l.length ∧ iv = .int .i64 j ∧ ov = .int .i64 (dpL (l.take j)) ∧ Hid (Below w.heap.size w wr))
    case atStart => exact ⟨0, by omega, Nat.zero_le _, rfl, by rw [List.take_zero, dpL]; rfl, Below.refl _ _⟩
    case round =>
      obtain ⟨j, rfl, hj, rfl, rfl, HB⟩ := hrel
      by_cases hjl : j < l.length
      · obtain ⟨vb, hbod, y0, y1, y2, y3⟩ := HALL.out.at_ j hjl
        have hlx : l.length * 4 = xs.length := HXL.out.symm
        obtain ⟨b, off, rfl, hbl, hPb, hcell⟩ := HCL.out (by omega)
        rw [mbod_iff] at hbod
        obtain ⟨vs, ⟨A2, c2, rfl, hc2⟩, hrows⟩ := hbod
        have hsm : wr.heap[b]? = w0.heap[b]? := (HB.out.block b (by have := HS.out.1; omega)).trans (HS.out.2 b hbl hPb)
        have hat : ∀ k u, xs[k]? = some u → wr.cell? ⟨b, off + k, none⟩ = some u := fun k u hk => by
          have hkl := (List.getElem?_eq_some_iff.1 hk).1
          rw [cell_same hsm (off + k), hcell k hkl, ← List.getElem?_eq_getElem hkl]; exact hk
        have x0 : wr.cell? ⟨b, off + j * 4, none⟩ = some (.int .u8 (kindI l[j]).toNat) := hat _ _ y0
        have x1 : wr.cell? ⟨b, off + j * 4 + 1, none⟩ = some (.string (tb (nameI l[j]))) := hat _ _ y1
        have x2 : wr.cell? ⟨b, off + j * 4 + 2, none⟩ = some (.int .i64 (numI l[j])) := hat _ _ y2
        have x3 : wr.cell? ⟨b, off + j * 4 + 3, none⟩ = some (.slice A2 vs.length c2) := hat _ _ y3
        clear hat y0 y1 y2 y3 hcell hlx
        go_wp2_with fail
        have HVB := Lib.hid hrows.len
        have hv1000 : vs.length ≤ 1000 := by have := hrows.len; have := bod_length l[j]; have := txL_mem (List.getElem_mem hjl); omega
        have HROWS := Lib.hid hrows
        have HC2 := Lib.hid hc2
        have hdj : dpI l[j] ≤ 9 := Nat.le_trans (dpI_le hjl) hd9
        have hdt : dpL (l.take j) ≤ 9 := Nat.le_trans (dpL_take l j) hd9
        have hdb : dpB (bodI l[j]) ≤ 9 := by have := dpI_bod l[j]; omega
        have HB1 := Lib.hid (HB.out.alloc HB.out.size (.cells #[.int .u8 (kindI l[j]).toNat, .string (tb (nameI l[j])), .int .i64 (numI l[j]), .slice A2 vs.length c2] 46))
        have hlw := HB1.out.size
        have HKI : Hid (Blk (wr.alloc (.cells #[.int .u8 (kindI l[j]).toNat, .string (tb (nameI l[j])), .int .i64 (numI l[j]), .slice A2 vs.length c2] 46)) wr.heap.size 46 #[.int .u8 (kindI l[j]).toNat, .string (tb (nameI l[j])), .int .i64 (numI l[j]), .slice A2 vs.length c2]) := Blk.new wr _ _
        obtain ⟨W1, hW1⟩ : ∃ W1, W1 = wr.alloc (.cells #[.int .u8 (kindI l[j]).toNat, .string (tb (nameI l[j])), .int .i64 (numI l[j]), .slice A2 vs.length c2] 46) := ⟨_, rfl⟩
        rw [← hW1] at HB1 HKI hlw ⊢
        clear hW1 hrows hc2 x0 x1 x2 x3
        go_loopg [6, 18] vs.length (fun gk dv iv wr2 => ∃ m : Nat, gk = vs.length - m ∧ m ≤ vs.length ∧ iv = .int .i64 m ∧ dv = .int .i64 (dpB ((bodI l[j]).take m)) ∧ Hid (Below W1.heap.size W1 wr2))
        case atStart => exact ⟨0, by omega, Nat.zero_le _, rfl, by rw [List.take_zero, dpB]; rfl, Below.refl _ _⟩
        case round =>
          obtain ⟨m, rfl, hm, rfl, rfl, HB2⟩ := hrel
          have hdm : dpB ((bodI l[j]).take m) ≤ 9 := Nat.le_trans (dpB_take _ m) hdb
          by_cases hml : m < vs.length
          · have hmb : m < (bodI l[j]).length := by have := HVB.out; omega
            obtain ⟨vm, hvm, hrm⟩ := HROWS.out.at_ m hmb
            obtain ⟨xm, ⟨A6, k6, rfl, hx6⟩, hx7⟩ := hrm
            have HRM : Hid (MRowAt w0 P (bodI l[j])[m] (.slice A6 (bodI l[j])[m].length k6)) := ⟨xm, ⟨A6, k6, rfl, hx6⟩, hx7⟩
            obtain ⟨b2, off2, rfl, hb2l, hP2, hcell2⟩ := HC2.out (by omega)
            have hsz := HB1.out.size
            have hsm2 : wr.heap[b2]? = w0.heap[b2]? := ((HB2.out.block b2 (by have := HS.out.1; omega)).trans (HB1.out.block b2 (by have := HS.out.1; omega))).trans (HS.out.2 b2 hb2l hP2)
            have x0 : wr.cell? ⟨b2, off2 + m, none⟩ = some (.slice A6 (bodI l[j])[m].length k6) := by
              rw [cell_same hsm2 (off2 + m), hcell2 m hml, ← List.getElem?_eq_getElem hml]; exact hvm
            have hdr : dpL (bodI l[j])[m] ≤ 9 := by have := dpB_step hmb; have := dpB_take (bodI l[j]) (m + 1); omega
            have HC := Lib.hid (HIH.out (bodI l[j])[m] _ wr (by omega) (by
              have h1 := bod_shorter (List.getElem_mem hmb)
              have h2 := txL_mem (List.getElem_mem hjl)
              omega) hdr HRM.out ⟨by have := HS.out.1; have := HB2.out.size; omega, fun b hb hp => ((HB2.out.block b (by have := HS.out.1; omega)).trans (HB1.out.block b (by have := HS.out.1; omega))).trans (HS.out.2 b hb hp)⟩)
            have HST := Lib.hid (dpB_step hmb)
            obtain ⟨d1, hd1⟩ : ∃ d1, d1 = dpB ((bodI l[j]).take m) := ⟨_, rfl⟩
            obtain ⟨d2, hd2⟩ : ∃ d2, d2 = dpL (bodI l[j])[m] := ⟨_, rfl⟩
            rw [← hd1, ← hd2] at HST
            rw [← hd2] at HC
            rw [← hd1]
            clear hvm hx6 hx7 hcell2 hsm2 hd1 hd2
            go_wp2_with fail
            refine HC.out.mono ?_
            rintro e w3 ⟨rfl, b3⟩
            have HB3 := Lib.hid (below_trans_self HB2.out b3)
            clear b3
            go_wp2_with fail
            go_roundg (vs.length - (m + 1))
            case measure => omega
            case rel => exact ⟨m + 1, rfl, by omega, by go_num, by rw [HST.out, max_cast], HB3.out⟩
          · have hmv : m = (bodI l[j]).length := by have := HVB.out; omega
            have HDI : Hid (dpI l[j] = dpB ((bodI l[j]).take m) + (if frI l[j] then 1 else 0)) := by
              show _ = _
              rw [dpI_bod, hmv, List.take_length]
            have HST := Lib.hid (dpL_step hjl)
            have kc := (HKI.out.below HB2.out HKI.out.lt).cell 0
            have HBB := Lib.hid (below_trans_self HB1.out HB2.out)
            obtain ⟨d1, hd1⟩ : ∃ d1, d1 = dpB ((bodI l[j]).take m) := ⟨_, rfl⟩
            obtain ⟨d2, hd2⟩ : ∃ d2, d2 = dpL (l.take j) := ⟨_, rfl⟩
            rw [← hd1] at HDI hdm
            rw [← hd2] at HST hdt
            rw [← hd1, ← hd2]
            have s1 : IntKind.i64.wrap ((d1 : Int) + 1) = (d1 : Int) + 1 := IntWalk.i64_in _ (by omega)
            clear hmv hd1 hd2
            rcases kind_cases l[j] with ⟨e1, hf⟩ | ⟨e1, e2, hf⟩ | ⟨e1, e2, hf⟩
            all_goals
              rw [hf] at HDI
              clear hf
              go_wp2_with fail
              go_roundg (l.length - (j + 1))
              case measure => omega
              case rel =>
                refine ⟨j + 1, rfl, by omega, by go_num, ?_, HBB.out⟩
                rw [HST.out, HDI.out, max_cast]
                simp
      · have hjl2 : j = l.length := by omega
        have HE := Lib.hid (show dpL (l.take j) = dpL l by rw [hjl2, List.take_length])
        clear hjl2
        go_wp2_with fail
        go_ret
        exact ⟨by rw [HE.out]; rfl, HB.out⟩
end Go.Proofs.Ytelhogeaobofpaa
