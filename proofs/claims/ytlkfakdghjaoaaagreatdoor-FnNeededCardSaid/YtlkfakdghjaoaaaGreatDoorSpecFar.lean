import Derived.Test.YtlkfakdghjaoaaaGreatDoorJ8
import Derived.Test.YtlkfakdghjaoaaaGreatDoorFramesIn
set_option maxRecDepth 100000
namespace Go.Proofs.YtlkfakdghjaoaaaGreatDoor
open Go.RowKit Go.Sort
attribute [local go_sem] Oper.semAt_some
end Go.Proofs.YtlkfakdghjaoaaaGreatDoor
namespace Go.Proofs.YtlkfakdghjaoaaaGreatDoor
open Go.RowKit Go.Sort
attribute [local go_sem] Oper.semAt_some
theorem iZ (w : World) (n : Nat) : Below w.heap.size w (w.drewN n) := ⟨rfl, rfl, rfl, Nat.le_refl _, fun _ _ => rfl⟩
theorem B9 (i : It) : dn i = cJ i := by
 cases i with
 | frame b l => cases b <;> rfl
 | _ => rfl
theorem FV (kd : UInt8) (l : List It) : (aN l).countP (fun i => decide (cJ i = kd)) = ce kd l := by
 have h := ji kd l 0
 rw [← h]; unfold aN; rw [List.countP_map]; rfl
def oc (kd : UInt8) (l : List It) : Nat := l.countP fun i => decide (cJ i = kd)
theorem Ca {kd : UInt8} {l : List It} {j : Nat} (h : j < l.length) : oc kd (l.take (j + 1)) = oc kd (l.take j) + (if cJ l[j] = kd then 1 else 0) := by
 unfold oc
 rw [List.take_succ_eq_append_getElem h, List.countP_append, List.countP_cons, List.countP_nil, Nat.zero_add]
 simp
theorem E7 (kd : UInt8) (l : List It) : oc kd l ≤ l.length := List.countP_le_length ..
theorem Cb (i : It) (kd : UInt8) : ((((dn i).toNat : Int) == (kd.toNat : Int)) = true ∧ cJ i = kd) ∨ ((((dn i).toNat : Int) == (kd.toNat : Int)) = false ∧ cJ i ≠ kd) := by
 rw [B9]
 by_cases h : cJ i = kd
 ·exact .inl ⟨by rw [h]; simp, h⟩
 ·refine .inr ⟨?_, h⟩
  have : (cJ i).toNat ≠ kd.toNat := fun e => h (UInt8.toNat_inj.1 e)
  simp; omega
open Classical in
noncomputable def bH (s kd : List UInt8) : Int := if h : ∃ l c, bh s l ∧ kd = [c] ∧ c ∈ [88, 63, 40, 123, 94, 46, 61, 35] then (ce h.choose_spec.choose h.choose : Int) else -1
theorem io {s kd : List UInt8} {l : List It} {c : UInt8} (h : bh s l) (hk : kd = [c]) (hc : c ∈ ([88, 63, 40, 123, 94, 46, 61, 35] : List UInt8)) : bH s kd = (ce c l : Int) := by
 have k : ∃ l c, bh s l ∧ kd = [c] ∧ c ∈ ([88, 63, 40, 123, 94, 46, 61, 35] : List UInt8) := ⟨l, c, h, hk, hc⟩
 unfold bH
 rw [dif_pos k]
 have h1 := k.choose_spec.choose_spec
 have e1 := lu h1.1 h
 have e2 : k.choose_spec.choose = c := (List.cons.inj (h1.2.1.symm.trans hk)).1
 rw [e2, e1]
theorem gZ {s kd : List UInt8} (h : ∀ l c, bh s l → kd = [c] → c ∈ ([88, 63, 40, 123, 94, 46, 61, 35] : List UInt8) → False) : bH s kd = -1 :=
 dif_neg fun ⟨l, c, h1, h2, h3⟩ => h l c h1 h2 h3
theorem rm (c : UInt8) : (c ∈ ([88, 63, 40, 123, 94, 46, 61, 35] : List UInt8) ∧ (Lib.indexByte [88, 63, 40, 123, 94, 46, 61, 35] c < 0) = False) ∨ (c ∉ ([88, 63, 40, 123, 94, 46, 61, 35] : List UInt8) ∧ (Lib.indexByte [88, 63, 40, 123, 94, 46, 61, 35] c < 0) = True) := by
 have h : ∀ n : Fin 256, (UInt8.ofNat n.1 ∈ ([88, 63, 40, 123, 94, 46, 61, 35] : List UInt8) ∧ ¬ (Lib.indexByte [88, 63, 40, 123, 94, 46, 61, 35] (UInt8.ofNat n.1) < 0)) ∨ (UInt8.ofNat n.1 ∉ ([88, 63, 40, 123, 94, 46, 61, 35] : List UInt8) ∧ Lib.indexByte [88, 63, 40, 123, 94, 46, 61, 35] (UInt8.ofNat n.1) < 0) := by decide +kernel
 have h1 := h ⟨c.toNat, c.toNat_lt⟩
 simp only [UInt8.ofNat_toNat] at h1
 rcases h1 with ⟨a, b⟩ | ⟨a, b⟩
 ·exact .inl ⟨a, eq_false b⟩
 ·exact .inr ⟨a, eq_true b⟩
theorem gh (s kd : List UInt8) (w : World) (hs : s.length ≤ 1048576) (hkd : kd.length ≤ 1048576) :
  Calls Tryz.prog 67 #[.string (tb s), .string (tb kd)] w fun e w' => e = .returned (.int .i64 (bH s kd)) ∧ Below w.heap.size w w' := by
 have HC := GR (qC s w hs)
 have hz : (tb kd).size = kd.length := aB kd
 go_enter Tryz.func67, Tryz.ntmps67
 go_wp2_with fail
 refine HC.out.mono ?_
 rintro e w1 (⟨l, A, n, k, hl, rfl, hrow, b1⟩ | ⟨hno, A, k, rfl, b1⟩)
 ·have hlen : (aH l).length < 201 := by have := hl.1; rw [hl.2.2] at this; omega
  have HB := GR b1
  by_cases hk1 : kd.length = 1
  ·obtain ⟨c, rfl⟩ := List.length_eq_one_iff.1 hk1
   have hsz : (tb [c]).size = 1 := hz
   have hrow2 : MRowAt w1 (fun b => w.heap.size ≤ b ∧ b < w1.heap.size) l (.slice A n k) := hrow.stay ⟨Nat.le_refl _, fun b hb hp => ⟨⟨hp, hb⟩, rfl⟩⟩
   have HF := GR (Ag w1 _ (fun b hb => hb.2) 201 l _ w1 (by omega) hlen hrow2 ⟨Nat.le_refl _, fun _ _ _ => rfl⟩)
   have HL := GR hl
   have hp0 : 0 < (tb [c]).size := by omega
   have h0 : (tb [c])[0]'hp0 = c := rfl
   obtain ⟨z, hz2⟩ : ∃ z, z = Lib.indexByte [88, 63, 40, 123, 94, 46, 61, 35] c := ⟨_, rfl⟩
   have hk2 := rm c
   rw [← hz2] at hk2
   have HFI : Hid (Calls Tryz.prog 114 #[.string ⟨#[88, 63, 40, 123, 94, 46, 61, 35]⟩, .int .u8 ((tb [c])[0]'hp0).toNat] w1 fun e w' => e = .returned (.int .i64 z) ∧ w1 = w') := by
    have := bf ⟨#[88, 63, 40, 123, 94, 46, 61, 35]⟩ ((tb [c])[0]'hp0) w1 (by decide)
    rw [hz2]; exact this
   have H0 := GR h0
   have HK2 := GR hk2
   have hf1000 : (aN l).length ≤ 200 := by have := mM l; omega
   clear hl b1 hrow hrow2 hz hz2 h0 hk2
   go_wp2_with fail
   refine HFI.out.mono ?_
   rintro e w1' ⟨rfl, rfl⟩
   rcases HK2.out with ⟨hmem, hzz⟩ | ⟨hmem, hzz⟩
   ·have HZ := GR (io HL.out rfl hmem)
    have hz3 : ¬ z < 0 := by rw [hzz]; exact id
    clear hmem HK2
    go_wp2_with fail
    refine HF.out.mono ?_
    rintro e w2 ⟨g, c3, xs, rfl, hown, hall, b2⟩
    have HX : Hid (∀ (jj : Nat) (u : Value), xs[jj]? = some u → w2.cell? ⟨g, 0 + jj, none⟩ = some u) := by
     intro jj u hj
     have hjl2 := (List.getElem?_eq_some_iff.1 hj).1
     have hl2 := hall.len
     have hc := hown.cellAt jj (by omega)
     rw [hj] at hc
     rw [Nat.zero_add]
     exact hc
    have HALL := GR hall
    have HB2 := GR (af HB.out b2)
    have HG := GR (hown.lt g rfl).2
    clear b2 hall hown
    go_wp2_with fail
    go_loopg [7, 31] (aN l).length (fun gk ov iv wr => ∃ j : Nat, gk = (aN l).length - j ∧ j ≤ (aN l).length ∧ iv = .int .i64 j ∧ ov = .int .i64 (oc c ((aN l).take j) : Nat) ∧ Hid (Below w.heap.size w wr) ∧ Hid (Below w2.heap.size w2 wr))
    case atStart => exact ⟨0, by omega, Nat.zero_le _, rfl, by rw [List.take_zero]; rfl, HB2.out, Below.refl _ _⟩
    case round =>
     obtain ⟨j, rfl, hj, rfl, rfl, HB3, HB4⟩ := hrel
     by_cases hjl : j < (aN l).length
     ·obtain ⟨vb, hbod, y0, y1, y2, y3⟩ := HALL.out.at_ j hjl
      have hg := HG.out
      have hsm : wr.heap[g]? = w2.heap[g]? := HB4.out.block g hg
      have hat : ∀ k u, xs[k]? = some u → wr.cell? ⟨g, 0 + k, none⟩ = some u := fun k u hk => by
       rw [dG hsm (0 + k)]; exact HX.out k u hk
      obtain ⟨A2, n2, c2, rfl⟩ := hbod.slice
      have x0 : wr.cell? ⟨g, j * 4, none⟩ = some (.int .u8 (dn (aN l)[j]).toNat) := by have := hat _ _ y0; rw [Nat.zero_add] at this; exact this
      have x1 : wr.cell? ⟨g, j * 4 + 1, none⟩ = some (.string (tb (et (aN l)[j]))) := by have := hat _ _ y1; rw [Nat.zero_add] at this; exact this
      have x2 : wr.cell? ⟨g, j * 4 + 2, none⟩ = some (.int .i64 (fJ (aN l)[j])) := by have := hat _ _ y2; rw [Nat.zero_add] at this; exact this
      have x3 : wr.cell? ⟨g, j * 4 + 3, none⟩ = some (.slice A2 n2 c2) := by have := hat _ _ y3; rw [Nat.zero_add] at this; exact this
      have hst := Ca (kd := c) hjl
      have hmx : oc c ((aN l).take j) ≤ 200 := by have := E7 c ((aN l).take j); rw [List.length_take] at this; omega
      have HST := GR hst
      have HBa := GR (HB3.out.alloc HB3.out.size (.cells #[.int .u8 (dn (aN l)[j]).toNat, .string (tb (et (aN l)[j])), .int .i64 (fJ (aN l)[j]), .slice A2 n2 c2] 172))
      have HBb := GR (HB4.out.alloc HB4.out.size (.cells #[.int .u8 (dn (aN l)[j]).toNat, .string (tb (et (aN l)[j])), .int .i64 (fJ (aN l)[j]), .slice A2 n2 c2] 172))
      obtain ⟨d1, hd1⟩ : ∃ d1, d1 = oc c ((aN l).take j) := ⟨_, rfl⟩
      rw [← hd1] at HST hmx
      rw [← hd1]
      have s1 : IntKind.i64.wrap ((d1 : Int) + 1) = (d1 : Int) + 1 := IntWalk.i64_in _ (by omega)
      have hsk : ((((dn (aN l)[j]).toNat : Int) == (((tb [c])[0]'hp0).toNat : Int)) = true ∧ cJ (aN l)[j] = c) ∨ ((((dn (aN l)[j]).toNat : Int) == (((tb [c])[0]'hp0).toNat : Int)) = false ∧ cJ (aN l)[j] ≠ c) := Cb (aN l)[j] c
      clear hat y0 y1 y2 y3 hsm hst hd1 hbod
      rcases hsk with ⟨e1, hf⟩ | ⟨e1, hf⟩
      ·have HF1 := GR (show (if cJ (aN l)[j] = c then 1 else 0) = 1 from if_pos hf)
       clear hf
       go_wp2_with fail
       go_quiet (fail)
       go_wp2_with fail
       go_roundg ((aN l).length - (j + 1))
       case measure => omega
       case rel => exact ⟨j + 1, rfl, by omega, by go_num, by rw [HST.out, HF1.out]; rfl, HBa.out.trans ((iZ _ nq).mono HBa.out.size), HBb.out.trans ((iZ _ nq).mono HBb.out.size)⟩
      ·have HF1 := GR (show (if cJ (aN l)[j] = c then 1 else 0) = 0 from if_neg hf)
       clear hf
       go_wp2_with fail
       go_quiet (fail)
       go_wp2_with fail
       go_roundg ((aN l).length - (j + 1))
       case measure => omega
       case rel => exact ⟨j + 1, rfl, by omega, by go_num, by rw [HST.out, HF1.out]; rfl, HBa.out.trans ((iZ _ nq).mono HBa.out.size), HBb.out.trans ((iZ _ nq).mono HBb.out.size)⟩
     ·have hjl2 : j = (aN l).length := by omega
      have HE := GR (show oc c ((aN l).take j) = ce c l by rw [hjl2, List.take_length]; exact FV c l)
      clear hjl2
      go_wp2_with fail
      go_ret
      exact ⟨by rw [HE.out, HZ.out]; rfl, HB3.out⟩
   ·have HN := GR (gZ (s := s) (kd := [c]) fun l c' _ e hm => hmem (by rw [(List.cons.inj e).1]; exact hm))
    have hz3 : z < 0 := by rw [hzz]; trivial
    clear hmem HK2
    go_wp2_with fail
    go_ret
    exact ⟨by rw [HN.out]; rfl, HB.out⟩
  ·have HN := GR (gZ (s := s) (kd := kd) fun l c _ e _ => hk1 (by rw [e]; rfl))
   have hne : (((kd.length : Int)) == 1) = false := by simp; omega
   clear hl b1 hrow
   go_wp2_with fail
   go_ret
   exact ⟨by rw [HN.out]; rfl, HB.out⟩
 ·have HN := GR (gZ (s := s) (kd := kd) fun l _ h _ _ => hno l h)
  have HB := GR b1
  clear hno b1
  go_wp2_with fail
  go_ret
  exact ⟨by rw [HN.out]; rfl, HB.out⟩
end Go.Proofs.YtlkfakdghjaoaaaGreatDoor
